/- Load of the program, of a document's image. -/
import Derived.Test.YtnhajpeijkbbeaaGreatA24
namespace Go.Proofs.YtnhajpeijkbbeaaGreat
open Go.RowKit
set_option maxRecDepth 100000
set_option maxHeartbeats 2000000
set_option linter.unusedVariables false
set_option linter.unusedSimpArgs false
def LoadP (w : World) (D : Dc) (e : Ending) (w' : World) : Prop :=
 ∃ db ro, e = .returned (.tuple #[.pointer (some ⟨db, 0, none⟩), .int .i64 0]) /\ PDoc w' ro db D /\ (∀ b, ro b ≠ 0 -> w.heap.size <= b) /\ Below w.heap.size w w'
theorem load_end {w w2 w3 w4 : World} {D : Dc} {L : List (Value × Value)} {xs : List Value} {va : Option Addr} {vc : Nat} (hc : CyS w2 w3 D.S D.S.length L xs) (hb2 : w.heap.size <= w2.heap.size) (hb4 : Below w3.heap.size w3 w4) (hro : w4.ownsRow w3.heap.size 42 1 (.slice va D.roots.length vc) D.roots.length (hvals D.roots)) :
  ∃ ro, PDoc (w4.alloc (.cells #[.slice (some ⟨w2.heap.size, 0, none⟩) D.S.length D.S.length, .slice va D.roots.length vc, .int .i64 (cnt Sl.live D.S : Int)] 36)) ro w4.heap.size D /\ ∀ b, ro b ≠ 0 -> w.heap.size <= b := by
 obtain ⟨ro, r1, r2, r3⟩ := hc.ros
 have h3 := hc.bel.size
 have h4 := hb4.size
 have hrow := hc.row
 have hg := own_block_lt hrow w2.heap.size rfl
 have hrb := own_block_lt hro
 have old : ∀ b, b < w3.heap.size -> (w4.alloc (.cells #[.slice (some ⟨w2.heap.size, 0, none⟩) D.S.length D.S.length, .slice va D.roots.length vc, .int .i64 (cnt Sl.live D.S : Int)] 36)).heap[b]? = w3.heap[b]? := fun b hb => (Below.heap_alloc _ _ _ (by omega)).trans (hb4.block b hb)
 refine ⟨fun b => if b = w4.heap.size then 1 else if b = w2.heap.size then 2 else if (Value.slice va D.roots.length vc).ownBlock = some b then 3 else ro b, ⟨some ⟨w2.heap.size, 0, none⟩, D.S.length, va, vc, L, ?_⟩, fun b hb => ?_⟩
 ·refine ⟨isCells_new w4 _ _, own_of_block (own_base hrow (fun _ _ => Nat.zero_le _)) (fun b hb => by cases hb; exact old _ hg.2), own_of_block (own_base hro (fun _ _ => Nat.zero_le _)) (fun b hb => Below.heap_alloc _ _ _ (hrb b hb).2), hc.len, fun i s p hs hp => ?_, by simp, fun b hb => ?_, fun b hb => ?_, fun i p b hp hb => ?_, fun i p b hp hb => ?_, fun b hb => ?_⟩
  ·obtain ⟨v1, v2⟩ := hc.vals i s p (by rw [List.take_length]; exact hs) hp
   exact ⟨own_of_block (own_base v1 (fun _ _ => Nat.zero_le _)) (fun b hb => old b (own_block_lt v1 b hb).2), own_of_block (own_base v2 (fun _ _ => Nat.zero_le _)) (fun b hb => old b (own_block_lt v2 b hb).2)⟩
  ·cases hb
   show (if w2.heap.size = w4.heap.size then 1 else if w2.heap.size = w2.heap.size then 2 else _) = 2
   rw [if_neg (by omega), if_pos rfl]
  ·have := hrb b hb
   rw [if_neg (by omega), if_neg (by omega), if_pos hb]
  ·have e := r1 i p b hp hb
   have hlt := r3 b (by rw [e]; omega)
   rw [if_neg (by omega), if_neg (by omega), if_neg (fun c => by have := hrb b c; omega)]
   exact e
  ·have e := r2 i p b hp hb
   have hlt := r3 b (by rw [e]; omega)
   rw [if_neg (by omega), if_neg (by omega), if_neg (fun c => by have := hrb b c; omega)]
   exact e
  ·have hsz : (w4.alloc (.cells #[.slice (some ⟨w2.heap.size, 0, none⟩) D.S.length D.S.length, .slice va D.roots.length vc, .int .i64 (cnt Sl.live D.S : Int)] 36)).heap.size = w4.heap.size + 1 := by simp
   rw [hsz]
   by_cases c1 : b = w4.heap.size
   ·omega
   ·rw [if_neg c1] at hb
    by_cases c2 : b = w2.heap.size
    ·omega
    ·rw [if_neg c2] at hb
     by_cases c3 : (Value.slice va D.roots.length vc).ownBlock = some b
     ·have := hrb b c3
      omega
     ·rw [if_neg c3] at hb
      have := r3 b hb
      omega
 ·change (if b = w4.heap.size then 1 else if b = w2.heap.size then 2 else if (Value.slice va D.roots.length vc).ownBlock = some b then 3 else ro b) ≠ 0 at hb
  by_cases c1 : b = w4.heap.size
  ·omega
  ·rw [if_neg c1] at hb
   by_cases c2 : b = w2.heap.size
   ·omega
   ·rw [if_neg c2] at hb
    by_cases c3 : (Value.slice va D.roots.length vc).ownBlock = some b
    ·have := hrb b c3
     omega
    ·rw [if_neg c3] at hb
     have := r3 b hb
     omega
theorem load_any (w : World) (R : Nat -> Prop) (D : Dc) (sa : Option Addr) (sc : Nat) (ra : Option Addr) (rc : Nat) (hw : WF D) (hsl : SlotsAt w R sa D.S) (hra : HandsAt w R ra D.roots) (hR : ∀ b, R b -> b < w.heap.size) (hsc : D.S.length <= sc) (hrc : D.roots.length <= rc) :
  Calls Tryz.prog 6 #[.agg #[.slice sa D.S.length sc, .slice ra D.roots.length rc]] w (LoadP w D) := by
 obtain ⟨lv, hlv⟩ := hw.lev
 have hlen := hw.fits.len
 have hrl := (roots_len hw).1
 obtain ⟨L, hL, hvals, hnews⟩ := hsl.row
 obtain ⟨mc, hmk, hms, hmf⟩ := made9 (w.alloc (.cells #[.slice sa D.S.length sc, .slice ra D.roots.length rc] 25)) D.S.length hlen
 have hss : (w.alloc (.cells #[.slice sa D.S.length sc, .slice ra D.roots.length rc] 25)).heap.size = w.heap.size + 1 := by simp
 rw [hss] at hmk
 have HST : Hid (LdS w (((w.alloc (.cells #[.slice sa D.S.length sc, .slice ra D.roots.length rc] 25)).alloc (.cells mc 78)).alloc (.cells #[.slice (some ⟨w.heap.size + 1, 0, none⟩) D.S.length D.S.length, .int .i64 0] 72)) #[.slice sa D.S.length sc, .slice ra D.roots.length rc] (w.heap.size + 1 + 1) (w.heap.size + 1) D.S L 0) := by
  refine ⟨((isCells_new w _ _).alloc _).alloc _, ?_, ⟨mc, ?_, hms, fun k s p hk => by omega, hmf⟩, ((below_new' w _).alloc (by simp) _).alloc (by simp; omega) _, rfl, rfl⟩
  ·have := isCells_new ((w.alloc (.cells #[.slice sa D.S.length sc, .slice ra D.roots.length rc] 25)).alloc (.cells mc 78)) #[.slice (some ⟨w.heap.size + 1, 0, none⟩) D.S.length D.S.length, .int .i64 0] 72
   simpa using this
  ·have := (isCells_new (w.alloc (.cells #[.slice sa D.S.length sc, .slice ra D.roots.length rc] 25)) mc 78).alloc (.cells #[.slice (some ⟨w.heap.size + 1, 0, none⟩) D.S.length D.S.length, .int .i64 0] 72)
   simpa using this
 have HW : Hid (WF D) := hw
 have HLV : Hid (Lev D lv) := hlv
 have HLL : Hid (L.length = D.S.length) := hL
 have HVALS : Hid (∀ (i : Nat) (s : Sl) (p : Value × Value), D.S[i]? = some s -> L[i]? = some p -> SlotVals w R s p) := hvals
 have HSL : Hid (SlotsAt w R sa D.S) := hsl
 have HNEWS : Hid (∀ j u, (rowOf D.S L)[j]? = some u -> ∃ ad, sa = some ad /\ w.cell? (ad.add j) = some u) := hnews
 have HRA : Hid (HandsAt w R ra D.roots) := hra
 have HR : Hid (∀ b, R b -> b < w.heap.size) := hR
 clear hw hlv hL hvals hsl hnews hra hR hss hms hmf
 generalize hSn : D.S.length = n at *
 have HSN : Hid (D.S.length = n) := hSn
 generalize hrn : D.roots.length = m at *
 have HRN : Hid (D.roots.length = m) := hrn
 clear hSn hrn
 go_enter Tryz.func6, Tryz.ntmps6
 go_wp2
 clear hmk
 go_loopw [21, 5] (fun iv cv wr => ∃ i : Nat, i <= n /\ iv = .int .i64 (i : Int) /\ cv = .int .i64 (cnt Sl.live (D.S.take i) : Int) /\ Hid (LdS w wr #[.slice sa n sc, .slice ra m rc] (w.heap.size + 1 + 1) (w.heap.size + 1) D.S L i)) (fun iv _ _ => n - (intOf iv).toNat)
 case atStart => exact ⟨0, Nat.zero_le _, rfl, rfl, HST⟩
 case round =>
  obtain ⟨i, hi, rfl, rfl, hst⟩ := hrel
  clear HST
  by_cases hlt : i < n
  ·obtain ⟨s, hs⟩ : ∃ s, D.S[i]? = some s := ⟨_, List.getElem?_eq_getElem (by rw [HSN.out]; exact hlt)⟩
   obtain ⟨p, hp⟩ : ∃ p, L[i]? = some p := ⟨_, List.getElem?_eq_getElem (by rw [HLL.out]; exact hlt)⟩
   have hus := HW.out.us hs
   obtain ⟨aa, ac, ka, kc, hpe, l1, l2, hat, hkt⟩ := HVALS.out i s p hs hp
   subst hpe
   obtain ⟨b, o, hsa, hbR, -⟩ := HSL.out i s hs
   subst hsa
   have hbl := HR.out b hbR
   have hcell : ∀ j u, (slotCells s (.slice aa s.attrs.length ac, .slice ka s.kids.length kc))[j]? = some u -> wr.cell? ⟨b, o + i * 8 + j, none⟩ = some u := fun j u hu => by
    have hj8 := slotCells_lt hu
    obtain ⟨ad, e1, e2⟩ := HNEWS.out (i * 8 + j) u (by rw [rowOf_get hs hp hj8]; exact hu)
    cases e1
    rw [addr_plus, <- Nat.add_assoc] at e2
    exact (hst.out.bel.cell (p := ⟨b, _, none⟩) hbl).trans e2
   have c0 := hcell 0 _ rfl
   have c1 := hcell 1 _ rfl
   have c2 := hcell 2 _ rfl
   have c3 := hcell 3 _ rfl
   have c4 := hcell 4 _ rfl
   have c5 := hcell 5 _ rfl
   have c6 := hcell 6 _ rfl
   have c7 := hcell 7 _ rfl
   simp only [Nat.add_zero] at c0
   have hbs := hst.out.bel.size
   have hbw : b < wr.heap.size := by omega
   have hcan := canbe_any (wr.alloc (.cells #[.int .u32 (s.gen : Int), .bool s.live, .int .i64 s.kind, .string s.name, .slice aa s.attrs.length ac, .string s.text, .int .u64 (s.parent : Int), .slice ka s.kids.length kc] 75)) R s hus aa ac ka kc l1 l2 (hat.to (fun _ h => h) (fun b o hb' => (hst.out.bel.alloc hbs _).cell (p := ⟨b, o, none⟩) (HR.out b hb'))) (fun b hb => by have := HR.out b hb; simp; omega)
   unfold slv at hcan
   have HSS : Hid (D.S[i]? = some s) := hs
   have HPP : Hid (L[i]? = some (.slice aa s.attrs.length ac, .slice ka s.kids.length kc)) := hp
   have HCT : Hid (cnt Sl.live (D.S.take (i + 1)) = cnt Sl.live (D.S.take i) + if s.live = true then 1 else 0) := cnt_take hs
   have hcl : cnt Sl.live (D.S.take i) <= i := by
    unfold cnt
    have := List.length_filter_le Sl.live (D.S.take i)
    have h2 := List.length_take_le i D.S
    omega
   have hi1 : (i : Int) < (n : Int) := by omega
   have hi0 : (0 : Int) <= (i : Int) := by omega
   clear hs hp hat hkt hus hcell
   go_wp2_with fail
   refine hcan.mono ?_
   rintro e w1 ⟨rfl, hb1⟩
   have hs1 : wr.heap.size + 1 <= w1.heap.size := by have := hb1.size; simpa using this
   have HB1 : Hid (Below wr.heap.size wr w1) := (below_new' wr _).trans (hb1.mono (by simp))
   have HX1 : Hid (IsCells w1 wr.heap.size #[.int .u32 (s.gen : Int), .bool s.live, .int .i64 s.kind, .string s.name, .slice aa s.attrs.length ac, .string s.text, .int .u64 (s.parent : Int), .slice ka s.kids.length kc]) := (isCells_new wr _ 75).of_block (hb1.block _ (by simp))
   have HST2 : Hid (LdS w (set8 w1 (w.heap.size + 1) (i * 9) (slotCells s (.slice aa s.attrs.length ac, .slice ka s.kids.length kc))) #[.slice (some ⟨b, o, none⟩) n sc, .slice ra m rc] (w.heap.size + 1 + 1) (w.heap.size + 1) D.S L (i + 1)) := hst.out.step HSS.out HPP.out HB1.out
   have hxc := HX1.out.cell
   have hhd : w1.cell? ⟨w.heap.size + 1 + 1, 0, none⟩ = some (.slice (some ⟨w.heap.size + 1, 0, none⟩) n n) := by
    have := (hst.out.head.of_block (HB1.out.block _ hst.out.head.lt)).cell 0
    rw [HSN.out] at this
    exact this
   obtain ⟨cur, r1, r2, -, -⟩ := hst.out.row
   have r1' := r1.of_block (HB1.out.block _ r1.lt)
   have hgf := r1'.frozen
   have hgl : w.heap.size + 1 < w1.heap.size := r1'.lt
   have hrl2 : w.heap.size + 1 + 1 < w1.heap.size := by have := hst.out.head.lt; omega
   have hgc : ∀ j, j < 8 -> ∃ u, w1.cell? ⟨w.heap.size + 1, i * 9 + j, none⟩ = some u := fun j hj => by
    rw [r1'.cell]
    rw [HSN.out] at r2
    exact ⟨_, Array.getElem?_eq_getElem (by omega)⟩
   obtain ⟨u0, g0⟩ := hgc 0 (by omega)
   obtain ⟨u1, g1⟩ := hgc 1 (by omega)
   obtain ⟨u2, g2⟩ := hgc 2 (by omega)
   obtain ⟨u3, g3⟩ := hgc 3 (by omega)
   obtain ⟨u4, g4⟩ := hgc 4 (by omega)
   obtain ⟨u5, g5⟩ := hgc 5 (by omega)
   obtain ⟨u6, g6⟩ := hgc 6 (by omega)
   obtain ⟨u7, g7⟩ := hgc 7 (by omega)
   simp only [Nat.add_zero] at g0
   have x0 : w1.cell? ⟨wr.heap.size, 0, none⟩ = some (.int .u32 (s.gen : Int)) := hxc 0
   have x1 : w1.cell? ⟨wr.heap.size, 1, none⟩ = some (.bool s.live) := hxc 1
   have x2 : w1.cell? ⟨wr.heap.size, 2, none⟩ = some (.int .i64 s.kind) := hxc 2
   have x3 : w1.cell? ⟨wr.heap.size, 3, none⟩ = some (.string s.name) := hxc 3
   have x4 : w1.cell? ⟨wr.heap.size, 4, none⟩ = some (.slice aa s.attrs.length ac) := hxc 4
   have x5 : w1.cell? ⟨wr.heap.size, 5, none⟩ = some (.string s.text) := hxc 5
   have x6 : w1.cell? ⟨wr.heap.size, 6, none⟩ = some (.int .u64 (s.parent : Int)) := hxc 6
   have x7 : w1.cell? ⟨wr.heap.size, 7, none⟩ = some (.slice ka s.kids.length kc) := hxc 7
   clear hb1 hcan hxc r1 r2 r1' hgc c0 c1 c2 c3 c4 c5 c6 c7
   cases hlive : s.live with
   | true =>
    rw [hlive] at x1
    have HCT2 : Hid ((cnt Sl.live (D.S.take (i + 1)) : Int) = (cnt Sl.live (D.S.take i) : Int) + 1) := by show _ = _; rw [HCT.out, hlive]; simp
    go_wp2
    go_roundw
    case rel => exact ⟨i + 1, by omega, by go_num, congrArg _ HCT2.out.symm, by have := HST2.out; unfold slotCells at this; rw [hlive] at this; exact this⟩
    case measure => simp [intOf]; omega
   | false =>
    rw [hlive] at x1
    have HCT2 : Hid ((cnt Sl.live (D.S.take (i + 1)) : Int) = (cnt Sl.live (D.S.take i) : Int)) := by show _ = _; rw [HCT.out, hlive]; simp
    go_wp2
    go_roundw
    case rel => exact ⟨i + 1, by omega, by go_num, congrArg _ HCT2.out.symm, by have := HST2.out; unfold slotCells at this; rw [hlive] at this; exact this⟩
    case measure => simp [intOf]; omega
  ·have hie : i = n := by omega
   have hbs := hst.out.bel.size
   have HRD : Hid (Rdr wr R w.heap.size (w.heap.size + 1 + 1) (w.heap.size + 1) D.S L (([] : List Nat).length : Int) (mk D [])) := by
    obtain ⟨cur, r1, r2, r3, r4⟩ := hst.out.row
    exact ⟨hst.out.head, ⟨cur, r1, fun k s p hs hp j u hu => r3 k s p (by have := (List.getElem?_eq_some_iff.1 hs).1; rw [HSN.out] at this; omega) hs hp j u hu, r4⟩, by rw [HLL.out, HSN.out], fun k s p hs hp => (HVALS.out k s p hs hp).to (fun _ h => h) (fun b o hb => hst.out.bel.cell (p := ⟨b, o, none⟩) (HR.out b hb)), HR.out, by omega, by omega, by omega⟩
   have HRAw : Hid (HandsAt wr R ra D.roots) := HRA.out.to (fun _ h => h) (fun b o hb => hst.out.bel.cell (p := ⟨b, o, none⟩) (HR.out b hb))
   have hread := read_any D R w.heap.size (w.heap.size + 1 + 1) (w.heap.size + 1) L lv HW.out HLV.out 64 wr ra D.roots rc 0 1 [] HRD.out HRAw.out (by rw [HRN.out]; exact hrl) (by omega) (fun x hx => by
    obtain ⟨s, h1, h2, h3⟩ := HW.out.root HLV.out hx
    exact ⟨s, h1, h2, by omega, by omega⟩) (by rw [List.nil_append]; exact allR_nodup HW.out) (by rw [List.nil_append]; exact (roots_len HW.out).2)
   rw [List.nil_append, HRN.out] at hread
   have hbox : wr.cell? ⟨w.heap.size, 1, none⟩ = some (.slice ra m rc) := hst.out.box.cell 1
   have HBOX : Hid (IsCells wr w.heap.size #[.slice sa n sc, .slice ra m rc]) := hst.out.box
   have HTK : Hid (cnt Sl.live (D.S.take i) = cnt Sl.live D.S) := by show _ = _; rw [List.take_of_length_le (by rw [HSN.out]; omega)]
   have HBW : Hid (Below w.heap.size w wr) := hst.out.bel
   have hwl : w.heap.size < wr.heap.size := hst.out.box.lt
   have HALL : Hid ((D.roots.flatMap (allH D)).length = cnt Sl.live D.S) := all_count HW.out
   clear hst hie
   rw [HTK.out]
   go_wp2_with fail
   refine hread.mono ?_
   rintro e w2 ⟨rfl, ht2, hr2⟩
   rw [HALL.out] at hr2
   have HR2 : Hid (Rdr w2 R w.heap.size (w.heap.size + 1 + 1) (w.heap.size + 1) D.S L (cnt Sl.live D.S : Int) (mk D (D.roots.flatMap (allH D)))) := hr2
   have hs2 := ht2.size
   have HB2 : Hid (Below w.heap.size w w2) := HBW.out.trans (ht2.below hbs (fun k hk => by omega))
   have HBOX2 : Hid (IsCells w2 w.heap.size #[.slice sa n sc, .slice ra m rc]) := HBOX.out.of_block (ht2.block _ hwl (by omega))
   have hb21 : w2.cell? ⟨w.heap.size, 1, none⟩ = some (.slice ra m rc) := HBOX2.out.cell 1
   have hh20 : w2.cell? ⟨w.heap.size + 1 + 1, 0, none⟩ = some (.slice (some ⟨w.heap.size + 1, 0, none⟩) n n) := by
    have := HR2.out.head.cell 0
    rw [HSN.out] at this
    exact this
   have hh21 : w2.cell? ⟨w.heap.size + 1 + 1, 1, none⟩ = some (.int .i64 (cnt Sl.live D.S : Int)) := HR2.out.head.cell 1
   have hrl2 := HR2.out.head.lt
   have hcz := cz_any w2 R (w.heap.size + 1 + 1) D.S (fun b hb => by have := HR.out b hb; omega) (by rw [HSN.out]; exact hlen) (fun k s hs => by have := HW.out.caps hs; omega) (fun k s hs W hb => ld1_any W R w.heap.size (w.heap.size + 1 + 1) (w.heap.size + 1) D.S L _ _ k s (HR2.out.below hb) hs (HW.out.us hs) (by rw [HSN.out]; exact hlen))
   rw [HSN.out] at hcz
   have hncc : ((cnt Sl.live D.S : Int) != (cnt Sl.live D.S : Int)) = false := by simp
   clear hread ht2 hr2 hbox
   go_wp2_with fail
   refine hcz.mono ?_
   rintro e w3 ⟨L3, xs3, rfl, hcy⟩
   have HCY : Hid (CyS w2 w3 D.S D.S.length L3 xs3) := hcy
   have hs3 := hcy.bel.size
   have hb31 : w3.cell? ⟨w.heap.size, 1, none⟩ = some (.slice ra m rc) := (hcy.bel.cell (p := ⟨w.heap.size, 1, none⟩) (by show w.heap.size < w2.heap.size; omega)).trans hb21
   have HB3 : Hid (Below w.heap.size w w3) := HB2.out.trans (hcy.bel.mono (by omega))
   have hfr := freshH_any w3 R ra D.roots rc (HRA.out.to (fun _ h => h) (fun b o hb => HB3.out.cell (p := ⟨b, o, none⟩) (HR.out b hb))) (by rw [HRN.out]; omega)
   rw [HRN.out] at hfr
   rw [HSN.out]
   have hwl3 : w.heap.size < w3.heap.size := by omega
   clear hcz hcy hb21 hh20 hh21
   go_wp2_with fail
   refine hfr.mono ?_
   rintro e w4 ⟨va, vc, rfl, hown4, hb4⟩
   rw [<- HRN.out] at hown4
   obtain ⟨ro, hpd, hro⟩ := load_end (w := w) HCY.out (by omega) hb4 hown4
   rw [HSN.out, HRN.out] at hpd
   have HPD : Hid (PDoc (w4.alloc (.cells #[.slice (some ⟨w2.heap.size, 0, none⟩) n n, .slice va m vc, .int .i64 (cnt Sl.live D.S : Int)] 36)) ro w4.heap.size D) := hpd
   have HRO : Hid (∀ b, ro b ≠ 0 -> w.heap.size <= b) := hro
   have HB4 : Hid (Below w.heap.size w w4) := HB3.out.trans (hb4.mono (by omega))
   clear hpd hro hown4 hb4 hfr
   go_wp2
   go_ret2
   exact ⟨w4.heap.size, ro, rfl, HPD.out, HRO.out, HB4.out.alloc HB4.out.size _⟩
def Bt (v x : Value) : Prop :=
 (∃ a b, v = .string a /\ x = .string b) \/ (∃ k a b, v = .int k a /\ x = .int k b) \/ (∃ a b, v = .bool a /\ x = .bool b) \/ (∃ a n c, v = .slice a n c /\ x = .slice none 0 0)
def Wk (v x : Value) : Prop := x = v \/ Bt v x
theorem Bt.next {v x y : Value} (h : Bt v x) (k : Bt v y) : Bt x y := by
 rcases h with ⟨a, b, rfl, rfl⟩ | ⟨q, a, b, rfl, rfl⟩ | ⟨a, b, rfl, rfl⟩ | ⟨a, n, c, rfl, rfl⟩ <;> rcases k with ⟨a', b', e, rfl⟩ | ⟨q', a', b', e, rfl⟩ | ⟨a', b', e, rfl⟩ | ⟨a', n', c', e, rfl⟩ <;> first | cases e | skip
 ·exact .inl ⟨_, _, rfl, rfl⟩
 ·exact .inr (.inl ⟨_, _, _, rfl, rfl⟩)
 ·exact .inr (.inr (.inl ⟨_, _, rfl, rfl⟩))
 ·exact .inr (.inr (.inr ⟨_, _, _, rfl, rfl⟩))
theorem Bt.trans {v x y : Value} (h : Bt v x) (k : Bt x y) : Bt v y := by
 rcases h with ⟨a, b, rfl, rfl⟩ | ⟨q, a, b, rfl, rfl⟩ | ⟨a, b, rfl, rfl⟩ | ⟨a, n, c, rfl, rfl⟩ <;> rcases k with ⟨a', b', e, rfl⟩ | ⟨q', a', b', e, rfl⟩ | ⟨a', b', e, rfl⟩ | ⟨a', n', c', e, rfl⟩ <;> first | cases e | skip
 ·exact .inl ⟨_, _, rfl, rfl⟩
 ·exact .inr (.inl ⟨_, _, _, rfl, rfl⟩)
 ·exact .inr (.inr (.inl ⟨_, _, rfl, rfl⟩))
 ·exact .inr (.inr (.inr ⟨_, _, _, rfl, rfl⟩))
theorem Wk.trans {v x y : Value} (h : Wk v x) (k : Wk x y) : Wk v y := by
 rcases h with rfl | h
 ·exact k
 ·rcases k with rfl | k
  ·exact .inr h
  ·exact .inr (h.trans k)
theorem Wk.bt {v x y : Value} (h : Wk v x) (k : Bt v y) : Bt x y := by
 rcases h with rfl | h
 ·exact k
 ·exact h.next k
theorem Wk.str {a : ByteArray} {x : Value} (h : Wk (.string a) x) : ∃ b, x = .string b := by
 rcases h with rfl | ⟨a, b, e, rfl⟩ | ⟨q, a, b, e, rfl⟩ | ⟨a, b, e, rfl⟩ | ⟨a, n, c, e, rfl⟩ <;> first | cases e | skip
 ·exact ⟨_, rfl⟩
 ·exact ⟨_, rfl⟩
theorem Wk.int {k : IntKind} {a : Int} {x : Value} (h : Wk (.int k a) x) : ∃ b, x = .int k b := by
 rcases h with rfl | ⟨a, b, e, rfl⟩ | ⟨q, a, b, e, rfl⟩ | ⟨a, b, e, rfl⟩ | ⟨a, n, c, e, rfl⟩ <;> first | cases e | skip
 ·exact ⟨_, rfl⟩
 ·exact ⟨_, rfl⟩
theorem Wk.bool {a : Bool} {x : Value} (h : Wk (.bool a) x) : ∃ b, x = .bool b := by
 rcases h with rfl | ⟨a, b, e, rfl⟩ | ⟨q, a, b, e, rfl⟩ | ⟨a, b, e, rfl⟩ | ⟨a, n, c, e, rfl⟩ <;> first | cases e | skip
 ·exact ⟨_, rfl⟩
 ·exact ⟨_, rfl⟩
theorem Wk.slice {a : Option Addr} {n c : Nat} {x : Value} (h : Wk (.slice a n c) x) : x = .slice a n c \/ x = .slice none 0 0 := by
 rcases h with rfl | ⟨a, b, e, rfl⟩ | ⟨q, a, b, e, rfl⟩ | ⟨a, b, e, rfl⟩ | ⟨a, n, c, e, rfl⟩ <;> first | cases e | skip
 ·exact .inl rfl
 ·exact .inr rfl
structure Sv (R : Nat -> Prop) (w w' : World) : Prop where
 turn : Turn R w w'
 wr : ∀ b, R b -> Wr w b -> Wr w' b
 keep : ∀ b o v, R b -> Wr w b -> w.cell? ⟨b, o, none⟩ = some v -> ∃ v', w'.cell? ⟨b, o, none⟩ = some v' /\ Wk v v'
theorem Sv.refl (R : Nat -> Prop) (w : World) : Sv R w w := ⟨Turn.refl _ _, fun _ _ h => h, fun b o v _ _ h => ⟨v, h, .inl rfl⟩⟩
theorem Sv.trans {R : Nat -> Prop} {a b c : World} (h : Sv R a b) (k : Sv R b c) : Sv R a c := by
 refine ⟨h.turn.trans k.turn, fun b hb hw => k.wr b hb (h.wr b hb hw), fun b o v hb hw hc => ?_⟩
 obtain ⟨v1, h1, h2⟩ := h.keep b o v hb hw hc
 obtain ⟨v2, h3, h4⟩ := k.keep b o v1 hb (h.wr b hb hw) h1
 exact ⟨v2, h3, h2.trans h4⟩
theorem Wr.lt {w : World} {b : Nat} (h : Wr w b) : b < w.heap.size := by obtain ⟨cs, h⟩ := h; exact h.lt
theorem Sv.below {R : Nat -> Prop} {w w' : World} (h : Below w.heap.size w w') : Sv R w w' :=
 ⟨⟨h.os, h.tape, h.output, h.size, fun k hk _ => h.block k hk⟩, fun b _ hw => hw.of_block (h.block b hw.lt), fun b o v _ hw hc => ⟨v, (h.cell (p := ⟨b, o, none⟩) hw.lt).trans hc, .inl rfl⟩⟩
theorem Sv.alloc {R : Nat -> Prop} {a w : World} (h : Sv R a w) (o : Obj) : Sv R a (w.alloc o) := h.trans (Sv.below ((Below.refl _ _).alloc (Nat.le_refl _) _))
theorem Sv.set1 {R : Nat -> Prop} {w : World} {b o : Nat} {v x : Value} (hb : R b) (hw : Wr w b) (hc : w.cell? ⟨b, o, none⟩ = some v) (hx : Bt v x) : Sv R w (w.setCell ⟨b, o, none⟩ x) := by
 refine ⟨(Turn.refl _ _).setCell (p := ⟨b, o, none⟩) hb _, fun b' _ h => h.setCell _ _ _, fun b' o' v' _ hw' hc' => ?_⟩
 obtain ⟨cs, hcs⟩ := hw
 by_cases e : b' = b
 ·subst e
  rw [(hcs.set o x).cell]
  rw [hcs.cell] at hc hc'
  by_cases eo : o' = o
  ·subst eo
   rw [hc] at hc'
   cases hc'
   have hlt := (Array.getElem?_eq_some_iff.1 hc).1
   exact ⟨x, by simp [hlt], .inr hx⟩
  ·exact ⟨v', by rw [Array.getElem?_setIfInBounds_ne (Ne.symm eo)]; exact hc', .inl rfl⟩
 ·obtain ⟨cs', hcs'⟩ := hw'
  exact ⟨v', by rw [(hcs'.other (a := ⟨b, o, none⟩) e x).cell, <- hcs'.cell]; exact hc', .inl rfl⟩
theorem Sv.put {R : Nat -> Prop} {w wr : World} (h : Sv R w wr) {b o : Nat} {v x : Value} (hb : R b) (hw : Wr w b) (hc : w.cell? ⟨b, o, none⟩ = some v) (hx : Bt v x) : Sv R w (wr.setCell ⟨b, o, none⟩ x) := by
 obtain ⟨v', h1, h2⟩ := h.keep b o v hb hw hc
 exact h.trans (Sv.set1 hb (h.wr b hb hw) h1 (h2.bt hx))
theorem Bt.s (a b : ByteArray) : Bt (.string a) (.string b) := .inl ⟨_, _, rfl, rfl⟩
theorem Bt.i (k : IntKind) (a b : Int) : Bt (.int k a) (.int k b) := .inr (.inl ⟨_, _, _, rfl, rfl⟩)
theorem Bt.b (a b : Bool) : Bt (.bool a) (.bool b) := .inr (.inr (.inl ⟨_, _, rfl, rfl⟩))
theorem Bt.l (a : Option Addr) (n c : Nat) : Bt (.slice a n c) (.slice none 0 0) := .inr (.inr (.inr ⟨_, _, _, rfl, rfl⟩))
def AW (w : World) (R : Nat -> Prop) (a : Option Addr) (n : Nat) : Prop :=
 ∀ i, i < n -> ∃ b o x y, a = some ⟨b, o, none⟩ /\ R b /\ w.cell? ⟨b, o + i * 2, none⟩ = some (.string x) /\ w.cell? ⟨b, o + i * 2 + 1, none⟩ = some (.string y)
def HW (w : World) (R : Nat -> Prop) (a : Option Addr) (n : Nat) : Prop :=
 ∀ i, i < n -> ∃ b o x, a = some ⟨b, o, none⟩ /\ R b /\ w.cell? ⟨b, o + i, none⟩ = some (.int .u64 x)
def WT (w : World) (R : Nat -> Prop) : Nat -> Array Value -> Prop
 | 0, _ => False
 | n + 1, v => ∃ k nm a al ac tx ka kl kc, v = #[.int .i64 k, .string nm, .slice a al ac, .string tx, .slice ka kl kc] /\ al <= maxA /\ kl <= maxK /\ al <= ac /\ kl <= kc /\ AW w R a al /\
   ∀ i, i < kl -> ∃ (b o : Nat) (u : Array Value), ka = some ⟨b, o, none⟩ /\ R b /\ u.size = 5 /\ (∀ j, j < 5 -> w.cell? ⟨b, o + i * 5 + j, none⟩ = u[j]?) /\ WT w R n u
theorem AttrsR.weak {w : World} {R : Nat -> Prop} {a : Option Addr} {l : List (ByteArray × ByteArray)} (h : AttrsR w R a l) : AW w R a l.length := by
 intro i hi
 obtain ⟨b, o, h1, h2, h3, h4⟩ := h i _ (List.getElem?_eq_getElem hi)
 exact ⟨b, o, _, _, h1, h2, h3, h4⟩
theorem HandsAt.weak {w : World} {R : Nat -> Prop} {a : Option Addr} {l : List Nat} (h : HandsAt w R a l) : HW w R a l.length := by
 intro i hi
 obtain ⟨b, o, h1, h2, h3⟩ := h i _ (List.getElem?_eq_getElem hi)
 exact ⟨b, o, _, h1, h2, h3⟩
theorem TreeR.weak {w : World} {R : Nat -> Prop} : ∀ {n : Nat} {v : Array Value} {t : T n}, TreeR w R n v t -> WT w R n v
 | 0, _, _, h => h.elim
 | n + 1, v, t, h => by
  obtain ⟨a, ac, ka, kc, h1, h2, h3, h4, h5, h6, h7⟩ := h
  refine ⟨_, _, _, _, _, _, _, _, _, h1, h2, h3, h4, h5, h6.weak, fun i hi => ?_⟩
  obtain ⟨b, o, u, g1, g2, g4, g5, g6⟩ := h7 i _ (List.getElem?_eq_getElem hi)
  exact ⟨b, o, u, g1, g2, g4, g5, TreeR.weak g6⟩
theorem AW.nil (w : World) (R : Nat -> Prop) (a : Option Addr) : AW w R a 0 := fun i hi => by omega
theorem HW.nil (w : World) (R : Nat -> Prop) (a : Option Addr) : HW w R a 0 := fun i hi => by omega
theorem Sv.aw {R : Nat -> Prop} {w w' : World} (s : Sv R w w') (hR : ∀ b, R b -> Wr w b) {a : Option Addr} {n : Nat} (h : AW w R a n) : AW w' R a n := by
 intro i hi
 obtain ⟨b, o, x, y, h1, h2, h3, h4⟩ := h i hi
 obtain ⟨v1, c1, k1⟩ := s.keep _ _ _ h2 (hR b h2) h3
 obtain ⟨v2, c2, k2⟩ := s.keep _ _ _ h2 (hR b h2) h4
 obtain ⟨x', rfl⟩ := k1.str
 obtain ⟨y', rfl⟩ := k2.str
 exact ⟨b, o, _, _, h1, h2, c1, c2⟩
theorem Sv.hw {R : Nat -> Prop} {w w' : World} (s : Sv R w w') (hR : ∀ b, R b -> Wr w b) {a : Option Addr} {n : Nat} (h : HW w R a n) : HW w' R a n := by
 intro i hi
 obtain ⟨b, o, x, h1, h2, h3⟩ := h i hi
 obtain ⟨v1, c1, k1⟩ := s.keep _ _ _ h2 (hR b h2) h3
 obtain ⟨x', rfl⟩ := k1.int
 exact ⟨b, o, _, h1, h2, c1⟩
theorem WT.form {w : World} {R : Nat -> Prop} {n : Nat} {v : Array Value} (h : WT w R n v) : ∃ k nm a al ac tx ka kl kc, v = #[.int .i64 k, .string nm, .slice a al ac, .string tx, .slice ka kl kc] := by
 cases n with
 | zero => exact h.elim
 | succ n => obtain ⟨k, nm, a, al, ac, tx, ka, kl, kc, h1, _⟩ := h; exact ⟨_, _, _, _, _, _, _, _, _, h1⟩
theorem WT.less {w : World} {R : Nat -> Prop} {n : Nat} {k : Int} {nm : ByteArray} {a : Option Addr} {al ac : Nat} {tx : ByteArray} {ka : Option Addr} {kl kc : Nat} (h : WT w R n #[.int .i64 k, .string nm, .slice a al ac, .string tx, .slice ka kl kc])
  (k' : Int) (nm' tx' : ByteArray) {a' : Option Addr} {al' ac' : Nat} {ka' : Option Addr} {kl' kc' : Nat} (h1 : Value.slice a' al' ac' = .slice a al ac \/ Value.slice a' al' ac' = .slice none 0 0) (h2 : Value.slice ka' kl' kc' = .slice ka kl kc \/ Value.slice ka' kl' kc' = .slice none 0 0) :
  WT w R n #[.int .i64 k', .string nm', .slice a' al' ac', .string tx', .slice ka' kl' kc'] := by
 cases n with
 | zero => exact h.elim
 | succ n =>
  obtain ⟨k1, nm1, a1, al1, ac1, tx1, ka1, kl1, kc1, e, g1, g2, g3, g4, g5, g6⟩ := h
  simp only [Array.mk.injEq, List.cons.injEq, Value.int.injEq, Value.string.injEq, Value.slice.injEq, true_and, and_true] at e
  obtain ⟨rfl, rfl, ⟨rfl, rfl, rfl⟩, rfl, ⟨rfl, rfl, rfl⟩⟩ := e
  have ha : al' <= maxA /\ al' <= ac' /\ AW w R a' al' := by
   rcases h1 with h1 | h1 <;> cases h1
   ·exact ⟨g1, g3, g5⟩
   ·exact ⟨Nat.zero_le _, Nat.zero_le _, AW.nil _ _ _⟩
  have hk : kl' <= maxK /\ kl' <= kc' /\ ∀ i, i < kl' -> ∃ (b o : Nat) (u : Array Value), ka' = some ⟨b, o, none⟩ /\ R b /\ u.size = 5 /\ (∀ j, j < 5 -> w.cell? ⟨b, o + i * 5 + j, none⟩ = u[j]?) /\ WT w R n u := by
   rcases h2 with h2 | h2 <;> cases h2
   ·exact ⟨g2, g4, g6⟩
   ·exact ⟨Nat.zero_le _, Nat.zero_le _, fun i hi => by omega⟩
  exact ⟨_, _, _, _, _, _, _, _, _, rfl, ha.1, hk.1, ha.2.1, hk.2.1, ha.2.2, hk.2.2⟩
theorem Sv.wt {R : Nat -> Prop} {w w' : World} (s : Sv R w w') (hR : ∀ b, R b -> Wr w b) : ∀ {n : Nat} {v : Array Value}, WT w R n v -> WT w' R n v
 | 0, _, h => h.elim
 | n + 1, v, h => by
  obtain ⟨k, nm, a, al, ac, tx, ka, kl, kc, e, g1, g2, g3, g4, g5, g6⟩ := h
  refine ⟨k, nm, a, al, ac, tx, ka, kl, kc, e, g1, g2, g3, g4, s.aw hR g5, fun i hi => ?_⟩
  obtain ⟨b, o, u, e1, e2, e3, e4, e5⟩ := g6 i hi
  obtain ⟨k2, nm2, a2, al2, ac2, tx2, ka2, kl2, kc2, rfl⟩ := e5.form
  obtain ⟨v0, c0, k0⟩ := s.keep _ _ _ e2 (hR b e2) (e4 0 (by omega))
  obtain ⟨v1, c1, k1⟩ := s.keep _ _ _ e2 (hR b e2) (e4 1 (by omega))
  obtain ⟨v2, c2, k2'⟩ := s.keep _ _ _ e2 (hR b e2) (e4 2 (by omega))
  obtain ⟨v3, c3, k3⟩ := s.keep _ _ _ e2 (hR b e2) (e4 3 (by omega))
  obtain ⟨v4, c4, k4⟩ := s.keep _ _ _ e2 (hR b e2) (e4 4 (by omega))
  obtain ⟨x0, rfl⟩ := k0.int
  obtain ⟨x1, rfl⟩ := k1.str
  obtain ⟨x3, rfl⟩ := k3.str
  have h2 : ∃ a' n' c', v2 = .slice a' n' c' /\ (Value.slice a' n' c' = .slice a2 al2 ac2 \/ Value.slice a' n' c' = .slice none 0 0) := by
   rcases k2'.slice with rfl | rfl
   ·exact ⟨_, _, _, rfl, .inl rfl⟩
   ·exact ⟨_, _, _, rfl, .inr rfl⟩
  have h4 : ∃ a' n' c', v4 = .slice a' n' c' /\ (Value.slice a' n' c' = .slice ka2 kl2 kc2 \/ Value.slice a' n' c' = .slice none 0 0) := by
   rcases k4.slice with rfl | rfl
   ·exact ⟨_, _, _, rfl, .inl rfl⟩
   ·exact ⟨_, _, _, rfl, .inr rfl⟩
  obtain ⟨a', n', c', rfl, h2⟩ := h2
  obtain ⟨a'', n'', c'', rfl, h4⟩ := h4
  refine ⟨b, o, #[.int .i64 x0, .string x1, .slice a' n' c', .string x3, .slice a'' n'' c''], e1, e2, rfl, fun j hj => ?_, (Sv.wt s hR e5).less x0 x1 x3 h2 h4⟩
  rcases j with _ | _ | _ | _ | _ | j
  ·exact c0
  ·exact c1
  ·exact c2
  ·exact c3
  ·exact c4
  ·omega
theorem spoil_any (w : World) (R : Nat -> Prop) (a : Option Addr) (n c : Nat) (hR : ∀ b, R b -> Wr w b) (h : HW w R a n) (hn : n < 4611686018427387904) : Calls Tryz.prog 54 #[.slice a n c] w (fun e w' => e = .returned (.tuple #[]) /\ Sv R w w') := by
 have HH : Hid (HW w R a n) := h
 have HR : Hid (∀ b, R b -> Wr w b) := hR
 clear h hR
 go_enter Tryz.func54, Tryz.ntmps54
 go_wp2
 go_loopw [2] (fun iv wr => ∃ i : Nat, i <= n /\ iv = .int .i64 (i : Int) /\ Hid (Sv R w wr)) (fun iv _ => n - (intOf iv).toNat)
 case atStart => exact ⟨0, Nat.zero_le _, rfl, Sv.refl _ _⟩
 case round =>
  obtain ⟨i, hi, rfl, HS⟩ := hrel
  by_cases hlt : i < n
  ·obtain ⟨b, o, x, ha, hb, hc⟩ := HH.out i hlt
   subst ha
   have hwb := HS.out.wr b hb (HR.out b hb)
   have hf := hwb.frozen
   have hbl := hwb.lt
   obtain ⟨v', hc', hk'⟩ := HS.out.keep b _ _ hb (HR.out b hb) hc
   obtain ⟨x', rfl⟩ := hk'.int
   have HS2 : Hid (Sv R w (wr.setCell ⟨b, o + i, none⟩ (.int .u64 4711))) := HS.out.put hb (HR.out b hb) hc (Bt.i _ _ _)
   clear hk' hwb hc
   go_wp2
   go_roundw
   case rel => exact ⟨i + 1, by omega, by go_num, HS2⟩
   case measure => simp [intOf]; omega
  ·clear HH
   go_wp2
   go_end0
   exact ⟨rfl, HS.out⟩
def SpP (R : Nat -> Prop) (w : World) (e : Ending) (w' : World) : Prop := e = .returned (.tuple #[]) /\ Sv R w w'
def SpAll (n : Nat) : Prop := ∀ (w : World) (R : Nat -> Prop) (v : Array Value), (∀ b, R b -> Wr w b) -> WT w R n v -> Calls Tryz.prog 41 #[.agg v] w (SpP R w)
theorem Sv.box {R : Nat -> Prop} {a b : World} (h : Sv R a b) {x : Nat} {cs : Array Value} (hx : IsCells a x cs) (hn : ¬ R x) : IsCells b x cs := hx.of_block (h.turn.block x hx.lt hn)
def KW (w : World) (R : Nat -> Prop) (n : Nat) (ka : Option Addr) (kl : Nat) : Prop := ∀ i, i < kl -> ∃ (b o : Nat) (u : Array Value), ka = some ⟨b, o, none⟩ /\ R b /\ u.size = 5 /\ (∀ j, j < 5 -> w.cell? ⟨b, o + i * 5 + j, none⟩ = u[j]?) /\ WT w R n u
theorem Sv.kw {R : Nat -> Prop} {w w' : World} (s : Sv R w w') (hR : ∀ b, R b -> Wr w b) {n : Nat} {ka : Option Addr} {kl : Nat} (h : KW w R n ka kl) (hk : kl <= maxK) : KW w' R n ka kl := by
 have h0 : WT w R (n + 1) #[.int .i64 0, .string ⟨#[]⟩, .slice none 0 0, .string ⟨#[]⟩, .slice ka kl kl] := ⟨_, _, _, _, _, _, _, _, _, rfl, Nat.zero_le _, hk, Nat.zero_le _, Nat.le_refl _, AW.nil _ _ _, h⟩
 obtain ⟨k1, nm1, a1, al1, ac1, tx1, ka1, kl1, kc1, e, g1, g2, g3, g4, g5, g6⟩ := s.wt hR h0
 simp only [Array.mk.injEq, List.cons.injEq, Value.int.injEq, Value.string.injEq, Value.slice.injEq, true_and, and_true] at e
 obtain ⟨rfl, rfl, ⟨rfl, rfl, rfl⟩, rfl, ⟨rfl, rfl, rfl⟩⟩ := e
 exact g6
theorem KW.get {w : World} {R : Nat -> Prop} {n : Nat} {ka : Option Addr} {kl : Nat} (h : KW w R n ka kl) {i : Nat} (hi : i < kl) : ∃ b o kk nm a al ac tx ka' kl' kc, ka = some ⟨b, o, none⟩ /\ R b /\ w.cell? ⟨b, o + i * 5, none⟩ = some (.int .i64 kk) /\ w.cell? ⟨b, o + i * 5 + 1, none⟩ = some (.string nm) /\ w.cell? ⟨b, o + i * 5 + 2, none⟩ = some (.slice a al ac) /\
   w.cell? ⟨b, o + i * 5 + 3, none⟩ = some (.string tx) /\ w.cell? ⟨b, o + i * 5 + 4, none⟩ = some (.slice ka' kl' kc) /\ WT w R n #[.int .i64 kk, .string nm, .slice a al ac, .string tx, .slice ka' kl' kc] := by
 obtain ⟨b, o, u, h1, h2, h4, h5, h6⟩ := h i hi
 obtain ⟨kk, nm, a, al, ac, tx, ka', kl', kc, rfl⟩ := h6.form
 exact ⟨b, o, kk, nm, a, al, ac, tx, ka', kl', kc, h1, h2, h5 0 (by omega), h5 1 (by omega), h5 2 (by omega), h5 3 (by omega), h5 4 (by omega), h6⟩
theorem spoilT_any : ∀ (n : Nat), SpAll n
 | 0 => fun _ _ _ _ h => h.elim
 | n + 1 => by
  intro w R v hR h
  have ih := spoilT_any n
  obtain ⟨k, nm, a, al, ac, tx, ka, kl, kc, rfl, h1, h2, h3, h4, h5, h6⟩ := h
  unfold maxA at h1
  have HIH : Hid (SpAll n) := ih
  have HKM : Hid (kl <= maxK) := h2
  unfold maxK at h2
  have HR : Hid (∀ b, R b -> Wr w b) := hR
  have HA : Hid (AW w R a al) := h5
  have HK : Hid (KW w R n ka kl) := h6
  have HX : Hid (¬ R w.heap.size) := fun hr => by have := (hR _ hr).lt; omega
  have HB0 : Hid (IsCells (w.alloc (.cells #[.int .i64 k, .string nm, .slice a al ac, .string tx, .slice ka kl kc] 46)) w.heap.size #[.int .i64 k, .string nm, .slice a al ac, .string tx, .slice ka kl kc]) := isCells_new _ _ _
  clear hR h5 h6 ih
  go_enter Tryz.func41, Tryz.ntmps41
  go_wp2
  go_loopw [2] (fun iv wr => ∃ i : Nat, i <= al /\ iv = .int .i64 (i : Int) /\ Hid (Sv R w wr) /\ Hid (IsCells wr w.heap.size #[.int .i64 k, .string nm, .slice a al ac, .string tx, .slice ka kl kc])) (fun iv _ => al - (intOf iv).toNat)
  case atStart => exact ⟨0, Nat.zero_le _, rfl, (Sv.refl _ _).alloc _, HB0⟩
  case round =>
   obtain ⟨i, hi, rfl, HS, HB⟩ := hrel
   have hbc := HB.out.cell
   have hbx := HB.out.lt
   by_cases hlt : i < al
   ·obtain ⟨b, o, x, y, ha, hb, hc1, hc2⟩ := HA.out i hlt
    subst ha
    have hwb := HS.out.wr b hb (HR.out b hb)
    have hf := hwb.frozen
    have hbl := hwb.lt
    obtain ⟨v1, hc1', hk1⟩ := HS.out.keep b _ _ hb (HR.out b hb) hc1
    obtain ⟨x', rfl⟩ := hk1.str
    obtain ⟨v2, hc2', hk2⟩ := HS.out.keep b _ _ hb (HR.out b hb) hc2
    obtain ⟨y', rfl⟩ := hk2.str
    have hne : ¬ w.heap.size = b := fun e => HX.out (e ▸ hb)
    have hne' : ¬ b = w.heap.size := fun e => hne e.symm
    have HS2 : Hid (∀ p q, Sv R w ((wr.setCell ⟨b, o + i * 2, none⟩ (.string p)).setCell ⟨b, o + i * 2 + 1, none⟩ (.string q))) := fun p q => (HS.out.put hb (HR.out b hb) hc1 (Bt.s _ _)).put hb (HR.out b hb) hc2 (Bt.s _ _)
    have HB2 : Hid (∀ p q, IsCells ((wr.setCell ⟨b, o + i * 2, none⟩ p).setCell ⟨b, o + i * 2 + 1, none⟩ q) w.heap.size #[.int .i64 k, .string nm, .slice (some ⟨b, o, none⟩) al ac, .string tx, .slice ka kl kc]) := fun p q => (HB.out.other (a := ⟨b, o + i * 2, none⟩) hne p).other (a := ⟨b, o + i * 2 + 1, none⟩) hne q
    clear hk1 hk2 hwb hc1 hc2 HB0
    go_wp2
    go_roundw
    case rel => exact ⟨i + 1, by omega, by go_num, HS2.out _ _, HB2.out _ _⟩
    case measure => simp [intOf]; omega
   ·clear HA
    go_wp2
    go_loopw [3] (fun iv wr => ∃ i : Nat, i <= kl /\ iv = .int .i64 (i : Int) /\ Hid (Sv R w wr) /\ Hid (IsCells wr w.heap.size #[.int .i64 k, .string nm, .slice a al ac, .string tx, .slice ka kl kc])) (fun iv _ => kl - (intOf iv).toNat)
    case atStart => exact ⟨0, Nat.zero_le _, rfl, HS, HB⟩
    case round =>
     clear HS HB hbc hbx HB0
     obtain ⟨i', hi', rfl, HS, HB⟩ := hrel
     have hbc := HB.out.cell
     have hbx := HB.out.lt
     by_cases hlt' : i' < kl
     ·have HKr : Hid (KW _ R n ka kl) := HS.out.kw HR.out HK.out HKM.out
      obtain ⟨b, o, kk, nm', a', al', ac', tx', ka2, kl2, kc2, e, hb, c0, c1, c2, c3, c4, htr⟩ := HKr.out.get hlt'
      subst e
      have HRr : Hid (∀ b, R b -> Wr _ b) := fun b hb => HS.out.wr b hb (HR.out b hb)
      have hcall := HIH.out _ R _ HRr.out htr
      have hwb := HRr.out b hb
      have hf := hwb.frozen
      have hbl := hwb.lt
      have hne : ¬ w.heap.size = b := fun e => HX.out (e ▸ hb)
      have hne' : ¬ b = w.heap.size := fun e => hne e.symm
      have HC : Hid _ := And.intro c0 (And.intro c1 (And.intro c2 (And.intro c3 c4)))
      go_wp2_with fail
      refine hcall.mono ?_
      rintro e w2 ⟨rfl, hs2⟩
      have HS2 : Hid (Sv R _ w2) := hs2
      have hbc2 := (hs2.box HB.out HX.out).cell
      have HB2 : Hid (IsCells w2 _ _) := hs2.box HB.out HX.out
      have hwb2 := hs2.wr b hb hwb
      have hf2 := hwb2.frozen
      have hbl2 := hwb2.lt
      have hbx2 := HB2.out.lt
      obtain ⟨v0, d0, k0⟩ := hs2.keep b _ _ hb hwb c0
      obtain ⟨v1, d1, k1⟩ := hs2.keep b _ _ hb hwb c1
      obtain ⟨v2, d2, k2⟩ := hs2.keep b _ _ hb hwb c2
      obtain ⟨v3, d3, k3⟩ := hs2.keep b _ _ hb hwb c3
      obtain ⟨v4, d4, k4⟩ := hs2.keep b _ _ hb hwb c4
      have HS3 : Hid (∀ p q r, Sv R w (((((w2.setCell ⟨b, o + i' * 5, none⟩ (.int .i64 p)).setCell ⟨b, o + i' * 5 + 1, none⟩ (.string q)).setCell ⟨b, o + i' * 5 + 2, none⟩ (.slice none 0 0)).setCell ⟨b, o + i' * 5 + 3, none⟩ (.string r)).setCell ⟨b, o + i' * 5 + 4, none⟩ (.slice none 0 0))) := fun p q r => HS.out.trans (((((hs2.put hb hwb c0 (Bt.i _ _ _)).put hb hwb c1 (Bt.s _ _)).put hb hwb c2 (Bt.l _ _ _)).put hb hwb c3 (Bt.s _ _)).put hb hwb c4 (Bt.l _ _ _))
      have HB3 : Hid (∀ p q r s t, IsCells (((((w2.setCell ⟨b, o + i' * 5, none⟩ p).setCell ⟨b, o + i' * 5 + 1, none⟩ q).setCell ⟨b, o + i' * 5 + 2, none⟩ r).setCell ⟨b, o + i' * 5 + 3, none⟩ s).setCell ⟨b, o + i' * 5 + 4, none⟩ t) w.heap.size #[.int .i64 k, .string nm, .slice a al ac, .string tx, .slice (some ⟨b, o, none⟩) kl kc]) := fun p q r s t => ((((HB2.out.other (a := ⟨b, o + i' * 5, none⟩) hne p).other (a := ⟨b, o + i' * 5 + 1, none⟩) hne q).other (a := ⟨b, o + i' * 5 + 2, none⟩) hne r).other (a := ⟨b, o + i' * 5 + 3, none⟩) hne s).other (a := ⟨b, o + i' * 5 + 4, none⟩) hne t
      clear hs2 k0 k1 k2 k3 k4 c0 c1 c2 c3 c4 htr HS HB HC hwb hwb2 hf hbl hbc hbx HRr HKr HIH hcall HS2 HB2
      go_wp2
      go_roundw
      case rel => exact ⟨i' + 1, by omega, by go_num, HS3.out _ _ _, HB3.out _ _ _ _ _⟩
      case measure => simp [intOf]; omega
     ·clear HK HIH
      go_wp2
      go_end0
      exact ⟨rfl, HS.out⟩
def SW (w : World) (R : Nat -> Prop) (sa : Option Addr) (n : Nat) : Prop :=
 ∀ i, i < n -> ∃ b o gn lv kd nm aa al ac tx pa ka kl kc, sa = some ⟨b, o, none⟩ /\ R b /\ w.cell? ⟨b, o + i * 8, none⟩ = some (.int .u32 gn) /\ w.cell? ⟨b, o + i * 8 + 1, none⟩ = some (.bool lv) /\ w.cell? ⟨b, o + i * 8 + 2, none⟩ = some (.int .i64 kd) /\ w.cell? ⟨b, o + i * 8 + 3, none⟩ = some (.string nm) /\
  w.cell? ⟨b, o + i * 8 + 4, none⟩ = some (.slice aa al ac) /\ w.cell? ⟨b, o + i * 8 + 5, none⟩ = some (.string tx) /\ w.cell? ⟨b, o + i * 8 + 6, none⟩ = some (.int .u64 pa) /\ w.cell? ⟨b, o + i * 8 + 7, none⟩ = some (.slice ka kl kc) /\
  al <= ac /\ kl <= kc /\ al < 4611686018427387904 /\ kl < 4611686018427387904 /\ AW w R aa al /\ HW w R ka kl
theorem Sv.sw {R : Nat -> Prop} {w w' : World} (s : Sv R w w') (hR : ∀ b, R b -> Wr w b) {sa : Option Addr} {n : Nat} (h : SW w R sa n) : SW w' R sa n := by
 intro i hi
 obtain ⟨b, o, gn, lv, kd, nm, aa, al, ac, tx, pa, ka, kl, kc, h1, h2, c0, c1, c2, c3, c4, c5, c6, c7, l1, l2, m1, m2, ha, hk⟩ := h i hi
 obtain ⟨v0, d0, k0⟩ := s.keep _ _ _ h2 (hR b h2) c0
 obtain ⟨v1, d1, k1⟩ := s.keep _ _ _ h2 (hR b h2) c1
 obtain ⟨v2, d2, k2⟩ := s.keep _ _ _ h2 (hR b h2) c2
 obtain ⟨v3, d3, k3⟩ := s.keep _ _ _ h2 (hR b h2) c3
 obtain ⟨v4, d4, k4⟩ := s.keep _ _ _ h2 (hR b h2) c4
 obtain ⟨v5, d5, k5⟩ := s.keep _ _ _ h2 (hR b h2) c5
 obtain ⟨v6, d6, k6⟩ := s.keep _ _ _ h2 (hR b h2) c6
 obtain ⟨v7, d7, k7⟩ := s.keep _ _ _ h2 (hR b h2) c7
 obtain ⟨x0, rfl⟩ := k0.int
 obtain ⟨x1, rfl⟩ := k1.bool
 obtain ⟨x2, rfl⟩ := k2.int
 obtain ⟨x3, rfl⟩ := k3.str
 obtain ⟨x5, rfl⟩ := k5.str
 obtain ⟨x6, rfl⟩ := k6.int
 have ha' := s.aw hR ha
 have hk' := s.hw hR hk
 rcases k4.slice with rfl | rfl <;> rcases k7.slice with rfl | rfl
 ·exact ⟨b, o, _, _, _, _, _, _, _, _, _, _, _, _, h1, h2, d0, d1, d2, d3, d4, d5, d6, d7, l1, l2, m1, m2, ha', hk'⟩
 ·exact ⟨b, o, _, _, _, _, _, _, _, _, _, _, _, _, h1, h2, d0, d1, d2, d3, d4, d5, d6, d7, l1, Nat.le_refl _, m1, by omega, ha', HW.nil _ _ _⟩
 ·exact ⟨b, o, _, _, _, _, _, _, _, _, _, _, _, _, h1, h2, d0, d1, d2, d3, d4, d5, d6, d7, Nat.le_refl _, l2, by omega, m2, AW.nil _ _ _, hk'⟩
 ·exact ⟨b, o, _, _, _, _, _, _, _, _, _, _, _, _, h1, h2, d0, d1, d2, d3, d4, d5, d6, d7, Nat.le_refl _, Nat.le_refl _, by omega, by omega, AW.nil _ _ _, HW.nil _ _ _⟩
theorem SlotsAt.weak {w : World} {R : Nat -> Prop} {a : Option Addr} {S : List Sl} (h : SlotsAt w R a S) (hs : ∀ s ∈ S, s.attrs.length < 4611686018427387904 /\ s.kids.length < 4611686018427387904) : SW w R a S.length := by
 intro i hi
 obtain ⟨b, o, h1, h2, aa, ac, ka, kc, c0, c1, c2, c3, c4, c5, c6, c7, l1, l2, ha, hk⟩ := h i _ (List.getElem?_eq_getElem hi)
 obtain ⟨m1, m2⟩ := hs _ (List.getElem_mem hi)
 exact ⟨b, o, _, _, _, _, _, _, _, _, _, _, _, _, h1, h2, c0, c1, c2, c3, c4, c5, c6, c7, l1, l2, m1, m2, ha.weak, hk.weak⟩
theorem spoilI_any (w : World) (R : Nat -> Prop) (sa : Option Addr) (n sc : Nat) (ra : Option Addr) (m rc : Nat) (hR : ∀ b, R b -> Wr w b) (h : SW w R sa n) (hr : HW w R ra m) (hn : n < 4611686018427387904) (hm : m < 4611686018427387904) : Calls Tryz.prog 58 #[.agg #[.slice sa n sc, .slice ra m rc]] w (SpP R w) := by
 have HS0 : Hid (SW w R sa n) := h
 have HRT : Hid (HW w R ra m) := hr
 have HR : Hid (∀ b, R b -> Wr w b) := hR
 have HX : Hid (¬ R w.heap.size) := fun hr => by have := (hR _ hr).lt; omega
 have HB0 : Hid (IsCells (w.alloc (.cells #[.slice sa n sc, .slice ra m rc] 25)) w.heap.size #[.slice sa n sc, .slice ra m rc]) := isCells_new _ _ _
 clear h hr hR
 go_enter Tryz.func58, Tryz.ntmps58
 go_wp2
 go_loopw [2] (fun iv wr => ∃ i : Nat, i <= n /\ iv = .int .i64 (i : Int) /\ Hid (Sv R w wr) /\ Hid (IsCells wr w.heap.size #[.slice sa n sc, .slice ra m rc])) (fun iv _ => n - (intOf iv).toNat)
 case atStart => exact ⟨0, Nat.zero_le _, rfl, (Sv.refl _ _).alloc _, HB0⟩
 case round =>
  obtain ⟨i, hi, rfl, HS, HB⟩ := hrel
  have hbc := HB.out.cell
  have hbx := HB.out.lt
  by_cases hlt : i < n
  ·clear HB0
   go_wp2
   go_loopw [3] (fun jv wr => ∃ j : Nat, j <= 4611686018427387904 /\ jv = .int .i64 (j : Int) /\ Hid (Sv R w wr) /\ Hid (IsCells wr w.heap.size #[.slice sa n sc, .slice ra m rc])) (fun jv _ => 4611686018427387904 - (intOf jv).toNat)
   case atStart => exact ⟨0, Nat.zero_le _, rfl, HS, HB⟩
   case round =>
    clear HS HB hbc hbx
    obtain ⟨j, hj, rfl, HS, HB⟩ := hrel
    have hbc := HB.out.cell
    have hbx := HB.out.lt
    obtain ⟨b, o, gn, lv, kd, nm, aa, al, ac, tx, pa, ka, kl, kc, e, hb, c0, c1, c2, c3, c4, c5, c6, c7, l1, l2, m1, m2, haw, hkw⟩ := HS.out.sw HR.out HS0.out i hlt
    subst e
    have hwb := HS.out.wr b hb (HR.out b hb)
    have hf := hwb.frozen
    have hbl := hwb.lt
    have hne : ¬ w.heap.size = b := fun e => HX.out (e ▸ hb)
    have hne' : ¬ b = w.heap.size := fun e => hne e.symm
    by_cases hlj : j < al
    ·obtain ⟨b2, o2, x, y, e, hb2, d1, d2⟩ := haw j hlj
     subst e
     have hwb2 := HS.out.wr b2 hb2 (HR.out b2 hb2)
     have hf2 := hwb2.frozen
     have hbl2 := hwb2.lt
     have hne2 : ¬ w.heap.size = b2 := fun e => HX.out (e ▸ hb2)
     have hne2' : ¬ b2 = w.heap.size := fun e => hne2 e.symm
     have HS2 : Hid (∀ p q, Sv R w ((_ : World).setCell ⟨b2, o2 + j * 2, none⟩ (.string p) |>.setCell ⟨b2, o2 + j * 2 + 1, none⟩ (.string q))) := fun p q => HS.out.trans (((Sv.refl R _).put hb2 hwb2 d1 (Bt.s _ p)).put hb2 hwb2 d2 (Bt.s _ q))
     have HB2 : Hid (∀ p q, IsCells ((_ : World).setCell ⟨b2, o2 + j * 2, none⟩ p |>.setCell ⟨b2, o2 + j * 2 + 1, none⟩ q) w.heap.size #[.slice (some ⟨b, o, none⟩) n sc, .slice ra m rc]) := fun p q => (HB.out.other (a := ⟨b2, o2 + j * 2, none⟩) hne2 p).other (a := ⟨b2, o2 + j * 2 + 1, none⟩) hne2 q
     clear haw hkw hwb hwb2
     go_wp2
     go_roundw
     case rel => exact ⟨j + 1, by omega, by go_num, HS2.out _ _, HB2.out _ _⟩
     case measure => simp [intOf]; omega
    ·have HRr : Hid (∀ b, R b -> Wr _ b) := fun b hb => HS.out.wr b hb (HR.out b hb)
     have hcall := spoil_any _ R ka kl kc HRr.out hkw m2
     clear haw hkw
     go_wp2_with fail
     refine hcall.mono ?_
     rintro e w2 ⟨rfl, hs2⟩
     have HB2 : Hid (IsCells w2 _ _) := hs2.box HB.out HX.out
     have hbc2 := HB2.out.cell
     have hbx2 := HB2.out.lt
     have hwb2 := hs2.wr b hb hwb
     have hf2 := hwb2.frozen
     have hbl2 := hwb2.lt
     obtain ⟨v0, d0, k0⟩ := hs2.keep b _ _ hb hwb c0
     obtain ⟨v1, d1, k1⟩ := hs2.keep b _ _ hb hwb c1
     obtain ⟨v2, d2, k2⟩ := hs2.keep b _ _ hb hwb c2
     obtain ⟨v3, d3, k3⟩ := hs2.keep b _ _ hb hwb c3
     obtain ⟨v4, d4, k4⟩ := hs2.keep b _ _ hb hwb c4
     obtain ⟨v5, d5, k5⟩ := hs2.keep b _ _ hb hwb c5
     obtain ⟨v6, d6, k6⟩ := hs2.keep b _ _ hb hwb c6
     obtain ⟨v7, d7, k7⟩ := hs2.keep b _ _ hb hwb c7
     have HS3 : Hid (∀ p0 p1 p2 p3 p5 p6, Sv R w ((((((((w2.setCell ⟨b, o + i * 8, none⟩ (.int .u32 p0)).setCell ⟨b, o + i * 8 + 1, none⟩ (.bool p1)).setCell ⟨b, o + i * 8 + 2, none⟩ (.int .i64 p2)).setCell ⟨b, o + i * 8 + 3, none⟩ (.string p3)).setCell ⟨b, o + i * 8 + 4, none⟩ (.slice none 0 0)).setCell ⟨b, o + i * 8 + 5, none⟩ (.string p5)).setCell ⟨b, o + i * 8 + 6, none⟩ (.int .u64 p6)).setCell ⟨b, o + i * 8 + 7, none⟩ (.slice none 0 0))) := fun p0 p1 p2 p3 p5 p6 => HS.out.trans ((((((((hs2.put hb hwb c0 (Bt.i _ _ _)).put hb hwb c1 (Bt.b _ _)).put hb hwb c2 (Bt.i _ _ _)).put hb hwb c3 (Bt.s _ _)).put hb hwb c4 (Bt.l _ _ _)).put hb hwb c5 (Bt.s _ _)).put hb hwb c6 (Bt.i _ _ _)).put hb hwb c7 (Bt.l _ _ _))
     have HB3 : Hid (∀ p0 p1 p2 p3 p4 p5 p6 p7, IsCells ((((((((w2.setCell ⟨b, o + i * 8, none⟩ p0).setCell ⟨b, o + i * 8 + 1, none⟩ p1).setCell ⟨b, o + i * 8 + 2, none⟩ p2).setCell ⟨b, o + i * 8 + 3, none⟩ p3).setCell ⟨b, o + i * 8 + 4, none⟩ p4).setCell ⟨b, o + i * 8 + 5, none⟩ p5).setCell ⟨b, o + i * 8 + 6, none⟩ p6).setCell ⟨b, o + i * 8 + 7, none⟩ p7) w.heap.size #[.slice (some ⟨b, o, none⟩) n sc, .slice ra m rc]) := fun p0 p1 p2 p3 p4 p5 p6 p7 => (((((((HB2.out.other (a := ⟨b, o + i * 8, none⟩) hne p0).other (a := ⟨b, o + i * 8 + 1, none⟩) hne p1).other (a := ⟨b, o + i * 8 + 2, none⟩) hne p2).other (a := ⟨b, o + i * 8 + 3, none⟩) hne p3).other (a := ⟨b, o + i * 8 + 4, none⟩) hne p4).other (a := ⟨b, o + i * 8 + 5, none⟩) hne p5).other (a := ⟨b, o + i * 8 + 6, none⟩) hne p6).other (a := ⟨b, o + i * 8 + 7, none⟩) hne p7
     clear hs2 k0 k1 k2 k3 k4 k5 k6 k7 c0 c1 c2 c3 c4 c5 c6 c7 HS HB hwb hwb2 hf hbl hbc hbx HRr hcall HB2
     go_wp2
     go_roundw
     case rel => exact ⟨i + 1, by omega, by go_num, HS3.out _ _ _ _ _ _, HB3.out _ _ _ _ _ _ _ _⟩
     case measure => simp [intOf]; omega
  ·have HRr : Hid (∀ b, R b -> Wr _ b) := fun b hb => HS.out.wr b hb (HR.out b hb)
   have hcall := spoil_any _ R ra m rc HRr.out (HS.out.hw HR.out HRT.out) hm
   clear HS0 HRT
   go_wp2_with fail
   refine hcall.mono ?_
   rintro e w2 ⟨rfl, hs2⟩
   have HS2 : Hid (Sv R w w2) := HS.out.trans hs2
   clear hcall hs2
   go_wp2
   go_end0
   exact ⟨rfl, HS2.out⟩
end Go.Proofs.YtnhajpeijkbbeaaGreat
