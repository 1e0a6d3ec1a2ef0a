/- Move, by the document: too deep; all cases. -/
import Derived.Test.YtmapmkogjhinmaaGreatA11
import Derived.Deep.RegionHeld3
namespace Go.Proofs.YtmapmkogjhinmaaGreat
open Go.RowKit
set_option maxRecDepth 100000
set_option maxHeartbeats 1000000
set_option linter.unusedVariables false
set_option linter.unusedSimpArgs false
theorem rmov_deep (w : World) (Q : Nat -> Prop) (rb : Nat) (D : Dc) (n : Nat) (wh : Int) (a : Nat) (s : Sl) (p : Nat) (hd : RDoc w Q rb D) (hw : WF D) (hh : n < 18446744073709551616) (hal : a < 18446744073709551616) (hs : sl D n = some s) (hpl : isPlaceB wh a = true) (hpe : placeE D wh a = (p, 0)) (hup : (ups D a).contains n = false) (hht : 64 < (ups D p).length + hgt D n) :
  Calls Tryz.prog 32 #[.pointer (some ⟨rb, 0, none⟩), .int .u64 (n : Int), .int .i64 wh, .int .u64 (a : Int)] w (RPost w Q rb D 32) := by
 obtain ⟨lv, hl⟩ := hw.lev
 have hpz := placeE_live hw (wh := wh) (a := a) (by rw [hpe])
 rw [hpe] at hpz
 obtain ⟨hp1, ha1, hin⟩ := hpz
 replace hp1 : p = 0 \/ ∃ s, sl D p = some s := hp1
 replace hin : ¬ wh <= 2 -> a ≠ 0 -> a ∈ lst D p := hin
 obtain ⟨-, hn0, i, hai, hsi, -⟩ := hw.lt hs
 have hpl2 := hw.ltz hp1
 obtain ⟨k, hk, hkx, hkl⟩ := idxH_mem (hw.up n s hs)
 have hsm : (atI D.S n).isSome = true := by simp [hai]
 have hplc := rplace_any w _ rb D wh a hd.view hw hal hpl
 rw [hpe] at hplc
 have HLV : Hid (∀ W, Below w.heap.size w W -> Calls Tryz.prog 68 #[.pointer (some ⟨rb, 0, none⟩), .int .u64 (n : Int)] W fun e w' => e = .returned (.bool true) /\ w' = W) := fun W hb => by
  have := rlive_any W _ rb D n (hd.view.below hb) hw.fits hh
  rw [hsm] at this
  exact this
 have HWI : Hid (∀ W, Below w.heap.size w W -> Calls Tryz.prog 69 #[.pointer (some ⟨rb, 0, none⟩), .int .u64 (a : Int), .int .u64 (n : Int)] W fun e w' => e = .returned (.bool false) /\ Below W.heap.size W w') := fun W hb => rwithin_any W _ rb D a n (hd.view.below hb) hw ha1 (by omega) false hup
 have HSU : Hid (∀ W, Below w.heap.size w W -> Calls Tryz.prog 38 #[.pointer (some ⟨rb, 0, none⟩), .int .u64 (n : Int)] W (SubP W (fun b => Q b \/ b = rb) 64 (subT D 63 n))) := fun W hb => rsub_any D _ rb lv hw hl 63 W n s (hd.view.below hb) hs (by omega)
 have HLE : Hid (∀ W, Below w.heap.size w W -> Calls Tryz.prog 64 #[.pointer (some ⟨rb, 0, none⟩), .int .u64 (p : Int)] W fun e w' => e = .returned (.int .i64 (((ups D p).length : Int) - 1)) /\ Below W.heap.size W w') := fun W hb => rlevel_any W _ rb D p (hd.view.below hb) hw hp1
 have HCO := sub_counts hw hl 63 n s hs (by omega)
 obtain ⟨HOK, HNDE, HHTE⟩ := HCO
 have hnd : ndT 64 (subT D 63 n) <= 4096 := by rw [HNDE]; exact (kids_len hw hs).2
 have hhg : hgt D n <= 64 := hgts_le D 64 n
 have HSZ : Hid (∀ (W : World) (v : Array Value) (hi : Nat), TreeAt W 0 hi 64 v (subT D 63 n) -> hi <= W.heap.size -> Calls Tryz.prog 63 #[.agg v] W (MeaP W (ndT 64 (subT D 63 n)) (hgt D n))) := fun W v hi ht hle => by
  have := rsizeT_any 64 W v (subT D 63 n) 0 hi ht hle HOK hnd (by rw [HHTE]; omega)
  rw [HHTE] at this
  exact this
 have hul : (ups D p).length <= 64 := by rw [ups_length hl hp1]; exact dep_le hl hp1
 have hl4 := hw.fits.len
 have hrb := hd.rbl
 have HQL : Hid (∀ b, Q b -> b < w.heap.size) := hd.lt
 have HNRB : Hid (¬ Q rb) := hd.nrb
 have HDB : Hid (∀ W, Below w.heap.size w W -> RDoc W Q rb D) := fun W hb => hd.below hb
 have HDD : Hid (RDoc w Q rb D) := hd
 clear hd hai hsi hsm hs hkx hk hw hkl hl hp1 ha1 hin HOK HNDE HHTE hpe hpl hup
 generalize subT D 63 n = tr at *
 generalize hUU : (ups D p).length = U at *
 generalize hgt D n = HG at *
 generalize ndT 64 tr = ND at *
 clear hUU
 by_cases h0 : a = 0
 ·have hz : ((a : Int) != 0) = false := by simp [h0]
  clear h0
  go_enter Tryz.func32, Tryz.ntmps32
  go_wp2_with fail
  refine hplc.mono ?_
  rintro e w1 ⟨rfl, hb1⟩
  have hlv := HLV.out w1 hb1
  have HB1 : Hid (Below w.heap.size w w1) := hb1
  have hs1 := hb1.size
  clear hb1 hplc
  go_wp2_with fail
  refine hlv.mono ?_
  rintro e w2 ⟨rfl, rfl⟩
  clear hlv
  have hsu := HSU.out w2 HB1.out
  go_wp2_with fail
  refine hsu.mono ?_
  rintro e w4 ⟨u, rfl, htu, hb4⟩
  have hsz0 := HB1.out.size
  have hs4 := hb4.size
  have HB4 : Hid (Below w.heap.size w w4) := HB1.out.trans (hb4.mono hsz0)
  have htat : TreeAt w4 0 w4.heap.size 64 u tr := (htu.to (R' := fun b => 0 <= b /\ b < w4.heap.size) (fun b hb => ⟨Nat.zero_le _, by
   rcases hb with (hb | hb) | hb
   ·have := HQL.out b hb; omega
   ·omega
   ·exact hb.2⟩) (fun _ _ _ => rfl)).toAt
  obtain ⟨kk', nm', a'', al'', ac'', tx', ka3, kl3, kc3, rfl⟩ := htu.form
  have hsz := HSZ.out (w4.alloc (.cells #[.int .i64 kk', .string nm', .slice a'' al'' ac'', .string tx', .slice ka3 kl3 kc3] 35)) _ w4.heap.size (htat.below (below_new' w4 _) (Nat.le_refl _)) (by simp)
  clear htu htat hb4 hsu
  go_wp2_with fail
  refine hsz.mono ?_
  rintro e w5 ⟨rfl, hb5⟩
  have hs5 : w4.heap.size + 1 <= w5.heap.size := by have := hb5.size; simpa using this
  have HB5 : Hid (Below w.heap.size w w5) := (HB4.out.alloc (by omega) _).trans (hb5.mono (by simp; omega))
  have hle := HLE.out w5 HB5.out
  clear hb5 hsz
  go_wp2_with fail
  refine hle.mono ?_
  rintro e w6 ⟨rfl, hb6⟩
  have hs6 := hb6.size
  have HB6 : Hid (Below w.heap.size w w6) := HB5.out.trans (hb6.mono (by omega))
  clear hb6 hle HDB
  go_wp2
  go_ret
  exact rpost_same HDD.out HB6.out
 ·have hz : ((a : Int) != 0) = true := by simp; omega
  clear h0
  go_enter Tryz.func32, Tryz.ntmps32
  go_wp2_with fail
  refine hplc.mono ?_
  rintro e w1 ⟨rfl, hb1⟩
  have hlv := HLV.out w1 hb1
  have HB1 : Hid (Below w.heap.size w w1) := hb1
  have hs1 := hb1.size
  clear hb1 hplc
  go_wp2_with fail
  refine hlv.mono ?_
  rintro e w2 ⟨rfl, rfl⟩
  clear hlv
  have hwi := HWI.out w2 HB1.out
  go_wp2_with fail
  refine hwi.mono ?_
  rintro e w3 ⟨rfl, hb3⟩
  have hs3 := hb3.size
  have HB3 : Hid (Below w.heap.size w w3) := HB1.out.trans (hb3.mono hs1)
  clear hb3 hwi
  have hsu := HSU.out w3 HB3.out
  go_wp2_with fail
  refine hsu.mono ?_
  rintro e w4 ⟨u, rfl, htu, hb4⟩
  have hsz0 := HB3.out.size
  have hs4 := hb4.size
  have HB4 : Hid (Below w.heap.size w w4) := HB3.out.trans (hb4.mono hsz0)
  have htat : TreeAt w4 0 w4.heap.size 64 u tr := (htu.to (R' := fun b => 0 <= b /\ b < w4.heap.size) (fun b hb => ⟨Nat.zero_le _, by
   rcases hb with (hb | hb) | hb
   ·have := HQL.out b hb; omega
   ·omega
   ·exact hb.2⟩) (fun _ _ _ => rfl)).toAt
  obtain ⟨kk', nm', a'', al'', ac'', tx', ka3, kl3, kc3, rfl⟩ := htu.form
  have hsz := HSZ.out (w4.alloc (.cells #[.int .i64 kk', .string nm', .slice a'' al'' ac'', .string tx', .slice ka3 kl3 kc3] 35)) _ w4.heap.size (htat.below (below_new' w4 _) (Nat.le_refl _)) (by simp)
  clear htu htat hb4 hsu
  go_wp2_with fail
  refine hsz.mono ?_
  rintro e w5 ⟨rfl, hb5⟩
  have hs5 : w4.heap.size + 1 <= w5.heap.size := by have := hb5.size; simpa using this
  have HB5 : Hid (Below w.heap.size w w5) := (HB4.out.alloc (by omega) _).trans (hb5.mono (by simp; omega))
  have hle := HLE.out w5 HB5.out
  clear hb5 hsz
  go_wp2_with fail
  refine hle.mono ?_
  rintro e w6 ⟨rfl, hb6⟩
  have hs6 := hb6.size
  have HB6 : Hid (Below w.heap.size w w6) := HB5.out.trans (hb6.mono (by omega))
  clear hb6 hle HDB
  go_wp2
  go_ret
  exact rpost_same HDD.out HB6.out
theorem rmov_any (w : World) (Q : Nat -> Prop) (rb : Nat) (D : Dc) (n : Nat) (wh : Int) (a : Nat) (hd : RDoc w Q rb D) (hw : WF D) (hh : n < 18446744073709551616) (hal : a < 18446744073709551616) :
  Calls Tryz.prog 32 #[.pointer (some ⟨rb, 0, none⟩), .int .u64 (n : Int), .int .i64 wh, .int .u64 (a : Int)] w (RPost w Q rb (movD D n wh a).1 (movD D n wh a).2) := by
 cases hpl : isPlaceB wh a with
 | false =>
  have e : movD D n wh a = (D, 1) := by simp [movD, hpl]
  rw [e]
  exact rmov_arg w Q rb D n wh a hd hpl
 | true =>
  cases hs : sl D n with
  | none =>
   have e : movD D n wh a = (D, 8) := by simp [movD, hpl, hs]
   rw [e]
   exact rmov_dead w Q rb D n wh a hd hw hh hal hpl hs
  | some s =>
   by_cases h8 : (placeE D wh a).2 = 8
   ·have e : movD D n wh a = (D, 8) := by simp [movD, hpl, hs, h8]
    rw [e]
    exact rmov_node w Q rb D n wh a s hd hw hh hal hpl hs h8
   ·cases hup : (ups D a).contains n with
    | true =>
     have e : movD D n wh a = (D, 34) := by simp only [movD, hpl, hs, h8, hup]; simp
     rw [e]
     have h0 : a ≠ 0 := by rintro rfl; rw [ups_zero] at hup; simp at hup
     exact rmov_into w Q rb D n wh a s true hd hw hh hal hpl hs h8 h0 hup (.inl rfl)
    | false =>
     by_cases hz : (placeE D wh a).2 = 0
     ·have hpe : placeE D wh a = ((placeE D wh a).1, 0) := by rw [<- hz]
      by_cases hht : 64 < (ups D (placeE D wh a).1).length + hgt D n
      ·have e : movD D n wh a = (D, 32) := by simp only [movD, hpl, hs, hup, hz, hht]; simp
       rw [e]
       exact rmov_deep w Q rb D n wh a s _ hd hw hh hal hs hpl hpe hup hht
      ·have e : movD D n wh a = (putD (outD D n s) n (placeE D wh a).1 wh a, 0) := by simp only [movD, hpl, hs, hup, hz, hht]; simp
       rw [e]
       exact rmov_ok w Q rb D n wh a s _ hd hw hh hal hs hpl hpe hup hht
     ·have h31 : (placeE D wh a).2 = 31 := by have := placeE_err D wh a; omega
      have e : movD D n wh a = (D, 31) := by simp only [movD, hpl, hs, hup, h31]; simp
      rw [e]
      have h0 : a ≠ 0 := by rintro rfl; simp [placeE] at h31
      exact rmov_into w Q rb D n wh a s false hd hw hh hal hpl hs h8 h0 hup (.inr h31)
def freeB (s : Sl) : Bool := !s.live && decide (s.gen < 4294967295)
def freeD (D : Dc) : Nat × Dc := match D.S.findIdx? freeB with
 | some i => (i, D)
 | none => (D.S.length, { D with S := D.S ++ [zeroSl 0] })
theorem freeB_bool {s : Sl} {b : Bool} (h : freeB s = b) (hl : s.live = false) : decide ((s.gen : Int) < 4294967295) = b := by
 unfold freeB at h
 rw [hl] at h
 rw [<- h]
 by_cases e : s.gen < 4294967295
 ·simp [e]; omega
 ·simp [e]; omega
theorem rfree_some (w : World) (R : Nat -> Prop) (db : Nat) (D : Dc) (n : Nat) (hv : View w R db D) (hf : Fits D) (hi : D.S.findIdx? freeB = some n) :
  Calls Tryz.prog 100 #[.pointer (some ⟨db, 0, none⟩)] w fun e w' => e = .returned (.int .i64 (n : Int)) /\ w' = w := by
 have hl := hf.len
 obtain ⟨a, cap, h1, hcl, -⟩ := hv.head
 have hix := List.findIdx?_eq_some_iff_getElem.1 hi
 obtain ⟨hnl, hyes, hno⟩ := hix
 have HV : Hid (View w R db D) := hv
 have HY : Hid (∀ s, D.S[n]? = some s -> freeB s = true) := fun s hs => by
  rw [List.getElem?_eq_getElem hnl] at hs
  cases hs
  exact hyes
 have HNO : Hid (∀ (j : Nat) (s : Sl), j < n -> D.S[j]? = some s -> freeB s = false) := fun j s hj hs => by
  have hjl : j < D.S.length := by omega
  rw [List.getElem?_eq_getElem hjl] at hs
  cases hs
  simpa using hno j hj
 clear hv hf hi hyes hno
 go_enter Tryz.func100, Tryz.ntmps100
 go_wp2
 go_loop [3] (fun iv => ∃ (i : Nat), i <= n /\ iv = .int .i64 (i : Int)) (fun iv => D.S.length - (intOf iv).toNat)
 case atStart => exact ⟨0, by omega, rfl⟩
 case round =>
  obtain ⟨i, hi, rfl⟩ := hrel
  have hlt : i < D.S.length := by omega
  obtain ⟨s, hs⟩ : ∃ s, D.S[i]? = some s := ⟨_, List.getElem?_eq_getElem hlt⟩
  obtain ⟨b, o, cap', aa, ac, ka, kc, h1', -, hbR, c0, c1, -⟩ := HV.out.slot hs
  rw [h1] at h1'
  simp only [Option.some.injEq, Value.slice.injEq, true_and] at h1'
  obtain ⟨rfl, rfl⟩ := h1'
  by_cases he : i = n
  ·subst he
   have hfb := HY.out s hs
   have hlv : s.live = false := by
    unfold freeB at hfb
    cases h : s.live
    ·rfl
    ·rw [h] at hfb; simp at hfb
   have hb := freeB_bool hfb hlv
   rw [hlv] at c1
   clear hfb hlv hs HY HNO HV
   go_wp2
   go_ret
   exact ⟨rfl, rfl⟩
  ·have hfb := HNO.out i s (by omega) hs
   cases hlv : s.live
   ·have hb := freeB_bool hfb hlv
    rw [hlv] at c1
    clear hfb hlv hs
    go_wp2
    go_round
    case rel => exact ⟨i + 1, by omega, by go_num⟩
    case measure => simp [intOf]; omega
   ·rw [hlv] at c1
    clear hfb hlv hs
    go_wp2
    go_round
    case rel => exact ⟨i + 1, by omega, by go_num⟩
    case measure => simp [intOf]; omega
theorem rowOf_snoc {S : List Sl} {L : List (Value × Value)} (h : L.length = S.length) (s : Sl) (p : Value × Value) : rowOf (S ++ [s]) (L ++ [p]) = rowOf S L ++ slotCells s p := by
 unfold rowOf
 rw [List.zip_append h.symm, List.flatMap_append]
 simp
theorem RdS.grew {w w2 : World} {base : Nat} {Q : Nat -> Prop} {rb : Nat} {D : Dc} {g cap : Nat} {ra : Option Addr} {rcap : Nat} {L : List (Value × Value)} (h : RdS w base Q rb D g cap ra rcap L) (hb : Below w.heap.size w w2) {v : Value} (hown : w2.ownsRow w.heap.size 90 8 v (D.S.length + 1) (rowOf D.S L ++ slotCells (zeroSl 0) (.slice none 0 0, .slice none 0 0))) :
  ∃ g' cap', v = .slice (some ⟨g', 0, none⟩) (D.S.length + 1) cap' /\ w.heap.size <= g' /\ RdS (w2.setCell ⟨rb, 0, none⟩ (.slice (some ⟨g', 0, none⟩) (D.S.length + 1) cap')) base Q rb { D with S := D.S ++ [zeroSl 0] } g' cap' ra rcap (L ++ [(.slice none 0 0, .slice none 0 0)]) /\ Turn (fun b => b = rb) w (w2.setCell ⟨rb, 0, none⟩ (.slice (some ⟨g', 0, none⟩) (D.S.length + 1) cap')) := by
 have hrb := h.rbl
 have hgs := h.gb
 have hbs := h.bs
 have hsz := hb.size
 rcases hown.2 with ⟨e1, e2⟩ | ⟨g', cap', cur, rfl, hb', hcells⟩
 ·simp at e2
 ·have hne : ∀ b, Q b -> b ≠ rb := fun b hb e => h.nrb (e ▸ hb)
  have hcell : ∀ b o, Q b -> (w2.setCell ⟨rb, 0, none⟩ (.slice (some ⟨g', 0, none⟩) (D.S.length + 1) cap')).cell? ⟨b, o, none⟩ = w.cell? ⟨b, o, none⟩ := fun b o hq => World.cell?_of_block (w := w) (a := ⟨b, o, none⟩) ((Below.heap_setCell _ _ _ _ (hne b hq)).trans (hb.block b (h.qne b hq).2))
  refine ⟨g', cap', rfl, hb', ⟨?_, ?_, by simp [h.len], fun k x y hx hy => ?_, h.roots.to (fun _ h => h) hcell, h.rlen, fun b hq => ⟨by have := (h.qne b hq).2; omega, by have := (h.qne b hq).2; simp [World.setCell]; omega⟩, h.nrb, hrb⟩, ?_⟩
  ·have := (h.head.of_block (hb.block rb (by omega))).set 0 (.slice (some ⟨g', 0, none⟩) (D.S.length + 1) cap')
   simpa using this
  ·have h2 : (w2.setCell ⟨rb, 0, none⟩ (.slice (some ⟨g', 0, none⟩) (D.S.length + 1) cap')).ownsRow w.heap.size 90 8 (.slice (some ⟨g', 0, none⟩) (D.S.length + 1) cap') (D.S.length + 1) (rowOf D.S L ++ slotCells (zeroSl 0) (.slice none 0 0, .slice none 0 0)) := own_of_block hown (fun k hk => by
    cases hk
    exact Below.heap_setCell _ _ _ _ (by show g' ≠ rb; omega))
   rw [<- rowOf_snoc h.len] at h2
   have h3 := own_base (base' := base) h2 (fun k hk => by
    simp only [Value.ownBlock, Option.some.injEq] at hk
    omega)
   simpa using h3
  ·rcases Nat.lt_or_ge k D.S.length with hk | hk
   ·have hx' : (D.S ++ [zeroSl 0])[k]? = some x := hx
    rw [List.getElem?_append_left hk] at hx'
    rw [List.getElem?_append_left (by rw [h.len]; exact hk)] at hy
    exact (h.vals k x y hx' hy).to (fun _ h => h) hcell
   ·have hx' : (D.S ++ [zeroSl 0])[k]? = some x := hx
    have hkl : k = D.S.length := by have := (List.getElem?_eq_some_iff.1 hx').1; simp at this; omega
    subst hkl
    rw [List.getElem?_append_right (Nat.le_refl _)] at hx'
    rw [List.getElem?_append_right (by rw [h.len]; exact Nat.le_refl _), h.len] at hy
    simp at hx' hy
    subst hx'
    subst hy
    exact ⟨none, 0, none, 0, rfl, Nat.le_refl _, Nat.le_refl _, (fun i a ha => by simp [zeroSl] at ha), (fun i a ha => by simp [zeroSl] at ha)⟩
  ·exact Turn.setCell (A := fun b => b = rb) ((below_turn hb).mono (fun _ _ h => h.elim)) (p := ⟨rb, 0, none⟩) rfl _
end Go.Proofs.YtmapmkogjhinmaaGreat
/- DropAttr, by the document. -/
namespace Go.Proofs.YtmapmkogjhinmaaGreat
open Go.RowKit
set_option maxRecDepth 100000
set_option maxHeartbeats 1000000
set_option linter.unusedVariables false
set_option linter.unusedSimpArgs false
def dropD (D : Dc) (h : Nat) (nm : ByteArray) : Dc × Int :=
 match atI D.S h with
 | none => (D, 8)
 | some i => match D.S[i]? with
  | none => (D, 8)
  | some s => if s.kind = 1 then (match s.attrs.findIdx? (fun p => decide (p.1 = nm)) with
    | some k => ({ D with S := D.S.set i { s with attrs := s.attrs.take k ++ s.attrs.drop (k + 1) } }, 0)
    | none => (D, 35)) else (D, 30)
def sliceAt2 (b o c k : Nat) : Option Addr := if c = k then some ⟨b, o, none⟩ else some ⟨b, o + k * 2, none⟩
theorem ite_sliceAt2 (b o c k : Nat) : (if c = k then some (⟨b, o, none⟩ : Addr) else some ⟨b, o + k * 2, none⟩) = sliceAt2 b o c k := rfl
attribute [local go_sem] ite_sliceAt2
theorem AttrsR.takeA {w : World} {R : Nat -> Prop} {a : Option Addr} {l : List (ByteArray × ByteArray)} (h : AttrsR w R a l) (k : Nat) : AttrsR w R a (l.take k) := by
 intro i p hp
 by_cases e : i < k
 ·rw [List.getElem?_take_of_lt e] at hp
  exact h i p hp
 ·rw [List.getElem?_eq_none (by simp; omega)] at hp; cases hp
theorem AttrsR.dropA {w : World} {R : Nat -> Prop} {b o c : Nat} {l : List (ByteArray × ByteArray)} (h : AttrsR w R (some ⟨b, o, none⟩) l) (hc : l.length <= c) (k : Nat) : AttrsR w R (sliceAt2 b o c k) (l.drop k) := by
 intro i p hp
 rw [List.getElem?_drop] at hp
 have hlt := (List.getElem?_eq_some_iff.1 hp).1
 obtain ⟨b', o', e, hR, h1, h2⟩ := h (k + i) p hp
 simp only [Option.some.injEq, Addr.mk.injEq, and_true] at e
 obtain ⟨rfl, rfl⟩ := e
 refine ⟨b, o + k * 2, by unfold sliceAt2; rw [if_neg (by omega)], hR, ?_, ?_⟩
 ·rw [<- h1]; congr 2; omega
 ·rw [<- h2]; congr 2; omega
theorem str_ne {a b : ByteArray} (h : a ≠ b) : (a.toList == b.toList) = false := by
 rw [beq_eq_false_iff_ne]
 intro e
 apply h
 rw [ByteArray.toList_eq, ByteArray.toList_eq] at e
 obtain ⟨⟨a⟩⟩ := a
 obtain ⟨⟨b⟩⟩ := b
 simpa using e
theorem attrCells_app (l m : List (ByteArray × ByteArray)) : attrCells (l ++ m) = attrCells l ++ attrCells m := by
 induction l with
 | nil => rfl
 | cons a r ih => simp [attrCells, ih]
theorem rdrop_some (w : World) (Q : Nat -> Prop) (rb : Nat) (D : Dc) (h : Nat) (nm : ByteArray) (i : Nat) (s : Sl) (n : Nat) (hd : RDoc w Q rb D) (hf : Fits D) (hh : h < 18446744073709551616) (ha : atI D.S h = some i) (hs : D.S[i]? = some s) (hk : s.kind = 1) (hal : s.attrs.length <= 32) (hi : s.attrs.findIdx? (fun p => decide (p.1 = nm)) = some n) :
  Calls Tryz.prog 37 #[.pointer (some ⟨rb, 0, none⟩), .int .u64 (h : Int), .string nm] w (RPost w Q rb { D with S := D.S.set i { s with attrs := s.attrs.take n ++ s.attrs.drop (n + 1) } } 0) := by
 have hc := change_some w Q rb D h i s hd hf hh ha hs
 rw [hk] at hc
 have hl4 := hf.len
 have hi1 : (i : Int) < ((D.S.length : Nat) : Int) := by have := (List.getElem?_eq_some_iff.1 hs).1; omega
 have HS : Hid (D.S[i]? = some s) := hs
 have hix := List.findIdx?_eq_some_iff_getElem.1 hi
 obtain ⟨hnl, hyes, hno⟩ := hix
 have HY : Hid (∀ p, s.attrs[n]? = some p -> p.1 = nm) := fun p hp => by
  rw [List.getElem?_eq_getElem hnl] at hp
  cases hp
  simpa using hyes
 have HNO : Hid (∀ (j : Nat) (p : ByteArray × ByteArray), j < n -> s.attrs[j]? = some p -> p.1 ≠ nm) := fun j p hj hp => by
  have hjl : j < s.attrs.length := by omega
  rw [List.getElem?_eq_getElem hjl] at hp
  cases hp
  simpa using hno j hj
 clear hd ha hs hk hyes hno hi
 go_enter Tryz.func37, Tryz.ntmps37
 go_wp2_with fail
 refine hc.mono ?_
 rintro e w1 ⟨rfl, ⟨g, cap, ra, rcap, L, hr⟩, ht⟩
 obtain ⟨p, hp, hvv, hcap, hhd, hcl⟩ := hr.slot HS.out
 obtain ⟨aa, ac, ka, kc, rfl, l1, l2, v1, v2⟩ := hvv
 have hc4 := (hcl 4 _ rfl).1
 have hf4 := (hcl 4 _ rfl).2
 have hgs := hr.gb
 have HR0 : Hid (RdS w1 w.heap.size Q rb D g cap ra rcap L) := hr
 have HT0 : Hid (Turn (fun b => b = rb) w w1) := ht
 have HP : Hid (L[i]? = some (.slice aa s.attrs.length ac, .slice ka s.kids.length kc)) := hp
 have HA : Hid (AttrsR w1 Q aa s.attrs) := v1
 have HQ : Hid (∀ b, Q b -> b < w1.heap.size) := fun b hb => (hr.qne b hb).2
 clear hr ht hc hp v1 v2 hcl
 go_wp2
 go_loop [10] (fun iv => ∃ (j : Nat), j <= n /\ iv = .int .i64 (j : Int)) (fun iv => s.attrs.length - (intOf iv).toNat)
 case atStart => exact ⟨0, by omega, rfl⟩
 case round =>
  obtain ⟨j, hj, rfl⟩ := hrel
  have hlt : j < s.attrs.length := by omega
  obtain ⟨q, hq⟩ : ∃ q, s.attrs[j]? = some q := ⟨_, List.getElem?_eq_getElem hlt⟩
  obtain ⟨b, o, rfl, hbQ, d1, d2⟩ := HA.out j q hq
  have hbl := HQ.out b hbQ
  by_cases he : j = n
  ·subst he
   have hqe := HY.out q hq
   rw [hqe] at d1
   clear hqe
   have i1 : (0 : Int) <= (j : Int) := by omega
   have i2 : (j : Int) <= ((s.attrs.length : Nat) : Int) := by omega
   have i3 : (j : Int) + 1 <= ((s.attrs.length : Nat) : Int) := by omega
   have i4 : ((s.attrs.length : Nat) : Int) <= (ac : Int) := by omega
   have i5 : (j : Int) <= (ac : Int) := by omega
   have i6 : (j : Int) + 1 <= (ac : Int) := by omega
   have i7 : (0 : Int) <= (j : Int) + 1 := by omega
   have i8 : ¬ (j : Int) + 1 < 0 := by omega
   have i9 : ¬ ((s.attrs.length : Nat) : Int) < (j : Int) + 1 := by omega
   have i10 : ¬ (ac : Int) < ((s.attrs.length : Nat) : Int) := by omega
   have i11 : ((j : Int) + 1).toNat = j + 1 := by omega
   have i12 : (((s.attrs.length : Nat) : Int) - ((j : Int) + 1)).toNat = s.attrs.length - (j + 1) := by omega
   have hwr : IntKind.i64.wrap ((j : Int) + 1) = (j : Int) + 1 := by rw [IntKind.wrap_i64]; omega
   go_wp2
   have HB3 : Hid (Below w1.heap.size w1 (w1.alloc (.cells #[] 52)).drew) := (below_new' w1 _).drew
   have HC : Hid (∀ W, Below w1.heap.size w1 W -> ∀ b o, Q b -> W.cell? ⟨b, o, none⟩ = w1.cell? ⟨b, o, none⟩) := fun W hb b o hR => hb.cell (p := ⟨b, o, none⟩) (HQ.out b hR)
   have HN1 : Hid (∀ m u, (attrCells (s.attrs.take j))[m]? = some u -> ∃ ad, some (⟨b, o, none⟩ : Addr) = some ad /\ ((w1.alloc (.cells #[] 52)).drew).cell? (ad.add m) = some u) := ((HA.out.to (fun _ h => h) (HC.out _ HB3.out)).takeA j).news
   have HN2 : Hid (∀ W, Below w1.heap.size w1 W -> ∀ m u, (attrCells (s.attrs.drop (j + 1)))[m]? = some u -> ∃ ad, sliceAt2 b o ac (j + 1) = some ad /\ W.cell? (ad.add m) = some u) := fun W hb => ((HA.out.to (fun _ h => h) (HC.out _ hb)).dropA l1 (j + 1)).news
   have hT1 : Hid ((attrCells (s.attrs.take j)).length = j * 2) := by show _ = _; rw [attrCells_length]; simp; omega
   have hT2 : Hid ((attrCells (s.attrs.drop (j + 1))).length = (s.attrs.length - (j + 1)) * 2) := by show _ = _; rw [attrCells_length]; simp
   have HAP : Hid (attrCells (s.attrs.take j ++ s.attrs.drop (j + 1)) = attrCells (s.attrs.take j) ++ attrCells (s.attrs.drop (j + 1))) := attrCells_app _ _
   have hrbs : rb < w1.heap.size := HR0.out.head.lt
   have hgr : ¬ g = rb := by have := HR0.out.rbl; omega
   have hgr2 : ¬ rb = g := by omega
   clear HC hq HY HNO
   have tok1 : True := trivial
   have tok2 : True := trivial
   go_region_held3 (fun W => W.cell? ⟨rb, 0, none⟩ = some (.slice (some ⟨g, 0, none⟩) D.S.length cap)) (go_keep)
    (first
     | (have _t := tok1; refine step_app (by rfl) _ _ (by rfl) Tryz.underlying33 info128 rfl (by decide) w1.heap.size (.slice (some ⟨w1.heap.size, 0, none⟩) 0 0) 0 [] (by rfl) (by exact own_of_block (own_new w1 52 2) (fun _ _ => rfl)) (some ⟨b, o, none⟩) j ac (attrCells (s.attrs.take j)) (by rfl) hT1.out HN1.out (attrCells_one _) (by unfold maxLen; omega) (by omega) (by simp) ?_; intro v1 w4 hown1 hg1 _ hat1; obtain ⟨va1, vc1, hv1⟩ := own_slice hown1; subst hv1; rw [Nat.zero_add, List.nil_append] at hown1; rw [Nat.zero_add]; have HO1 : Hid (w4.ownsRow w1.heap.size 52 2 (.slice va1 j vc1) j (attrCells (s.attrs.take j))) := hown1; have HB4 : Hid (Below w1.heap.size w1 w4) := HB3.out.grown hg1 (by simp) (fun k hk => by simp only [Value.ownBlock, Option.some.injEq] at hk; omega); have hh4 : w4.cell? ⟨rb, 0, none⟩ = some (.slice (some ⟨g, 0, none⟩) D.S.length cap) := (HB4.out.cell (p := ⟨rb, 0, none⟩) hrbs).trans hhd; clear hown1 hg1 hat1 tok1 _t)
     | (have _t := tok2; refine step_app (by rfl) _ _ (by rfl) Tryz.underlying33 info128 rfl (by decide) w1.heap.size (.slice va1 j vc1) j (attrCells (s.attrs.take j)) (by rfl) HO1.out (sliceAt2 b o ac (j + 1)) (s.attrs.length - (j + 1)) (ac - (j + 1)) (attrCells (s.attrs.drop (j + 1))) (by rfl) hT2.out (HN2.out _ HB4.out) (attrCells_one _) (by unfold maxLen; omega) (by omega) HB4.out.size ?_; intro v2 w5 hown2 hg2 _ hat2; obtain ⟨va2, vc2, hv2⟩ := own_slice hown2; subst hv2; have HO2 : Hid (w5.ownsRow w1.heap.size 52 2 (.slice va2 (j + (s.attrs.length - (j + 1))) vc2) (j + (s.attrs.length - (j + 1))) (attrCells (s.attrs.take j ++ s.attrs.drop (j + 1)))) := (by rw [HAP.out]; exact hown2); have HB5 : Hid (Below w1.heap.size w1 w5) := HB4.out.grown hg2 HB4.out.size (fun k hk => (own_block_lt HO1.out k hk).1); have hh5 : w5.cell? ⟨rb, 0, none⟩ = some (.slice (some ⟨g, 0, none⟩) D.S.length cap) := (HB5.out.cell (p := ⟨rb, 0, none⟩) hrbs).trans hhd; have hc5 : w5.cell? ⟨g, i * 8 + 4, none⟩ = some (.slice (some ⟨b, o, none⟩) s.attrs.length ac) := (HB5.out.cell (p := ⟨g, _, none⟩) hgs.2).trans hc4; have hf5 : w5.frozen? ⟨g, i * 8 + 4, none⟩ = false := (HB5.out.frozen (p := ⟨g, _, none⟩) hgs.2).trans hf4; have hg5 : g < w5.heap.size := Nat.lt_of_lt_of_le hgs.2 HB5.out.size; generalize hNN : j + (s.attrs.length - (j + 1)) = N at HO2 ⊢; have HNN : Hid (j + (s.attrs.length - (j + 1)) = N) := hNN; clear hown2 hg2 hat2 tok2 _t hNN))
   have hbs5 := HB5.out.size
   have HO3 := own_block_lt HO2.out
   have HRW : Hid (RdS w5 w.heap.size (fun b => Q b \/ (Value.slice va2 N vc2).ownBlock = some b) rb D g cap ra rcap L) := (HR0.out.below HB5.out).widen (fun _ h => .inl h) (fun b hb => by
    rcases hb with hb | hb
    ·exact (HR0.out.below HB5.out).qne b hb
    ·have := HO3 b hb
     exact ⟨by omega, this.2⟩) (fun hb => by
    rcases hb with hb | hb
    ·exact HR0.out.nrb hb
    ·have := HO3 rb hb
     omega)
   have hAR := attrs_row HO2.out rfl
   have HST : Hid (RdS (w5.setCell ⟨g, i * 8 + 4, none⟩ (.slice va2 N vc2)) w.heap.size (fun b => Q b \/ (Value.slice va2 N vc2).ownBlock = some b) rb { D with S := D.S.set i { s with attrs := s.attrs.take j ++ s.attrs.drop (j + 1) } } g cap ra rcap (L.set i (.slice va2 N vc2, .slice ka s.kids.length kc))) := by
    refine HRW.out.store HS.out HP.out (by omega) rfl ?_
    obtain ⟨a', ac', ka', kc', e', _, m2, _, m4⟩ := HRW.out.vals i s _ HS.out HP.out
    cases e'
    exact ⟨va2, vc2, ka, kc, by rw [hAR.2.1], by rw [<- hAR.2.1]; exact hAR.2.2, m2, hAR.1.to (fun b hb => .inr hb.1) (fun _ _ _ => rfl), m4⟩
   have HTT : Hid (Turn (fun b => b = rb) w (w5.setCell ⟨g, i * 8 + 4, none⟩ (.slice va2 N vc2))) := (HT0.out.then HB5.out HT0.out.size).setNew (p := ⟨g, _, none⟩) hgs.1 _
   have HO4 : Hid (∀ b, (Value.slice va2 N vc2).ownBlock = some b -> w.heap.size <= b /\ b < w5.heap.size) := fun b hb => by
    have := HO3 b hb
    have := HT0.out.size
    omega
   have HQW : Hid (∀ b, Q b -> b < w5.heap.size) := fun b hb => by have := HQ.out b hb; omega
   have HNR : Hid (¬ Q rb) := HR0.out.nrb
   have hrb0 := HR0.out.rbl
   clear hAR HRW HO3 HO2 HO1 HB4 HB5 HN1 HN2 HB3 HA
   go_wp2
   go_ret
   have hdn := HST.out.done
   refine ⟨rfl, HTT.out, hdn.widen (fun b hb => ?_) (fun b hb => ?_) (fun hb => ?_)⟩
   ·rcases hb with (hb | hb) | hb
    ·exact .inl hb
    ·exact .inr ⟨(HO4.out b hb).1, by simpa [World.setCell] using (HO4.out b hb).2⟩
    ·exact .inr hb
   ·rcases hb with hb | hb
    ·simpa [World.setCell] using HQW.out b hb
    ·exact hb.2
   ·rcases hb with hb | hb
    ·exact HNR.out hb
    ·omega
  ·have hqe := HNO.out j q (by omega) hq
   have hb : (q.1.toList == nm.toList) = false := str_ne hqe
   clear hq hqe
   go_wp2
   go_round
   case rel => exact ⟨j + 1, by omega, by go_num⟩
   case measure => simp [intOf]; omega
theorem rdrop_absent (w : World) (Q : Nat -> Prop) (rb : Nat) (D : Dc) (h : Nat) (nm : ByteArray) (i : Nat) (s : Sl) (hd : RDoc w Q rb D) (hf : Fits D) (hh : h < 18446744073709551616) (ha : atI D.S h = some i) (hs : D.S[i]? = some s) (hk : s.kind = 1) (hal : s.attrs.length <= 32) (hi : s.attrs.findIdx? (fun p => decide (p.1 = nm)) = none) :
  Calls Tryz.prog 37 #[.pointer (some ⟨rb, 0, none⟩), .int .u64 (h : Int), .string nm] w (RPost w Q rb D 35) := by
 have hc := change_some w Q rb D h i s hd hf hh ha hs
 rw [hk] at hc
 have hl4 := hf.len
 have hi1 : (i : Int) < ((D.S.length : Nat) : Int) := by have := (List.getElem?_eq_some_iff.1 hs).1; omega
 have HS : Hid (D.S[i]? = some s) := hs
 have hno := List.findIdx?_eq_none_iff.1 hi
 have HNO : Hid (∀ (j : Nat) (p : ByteArray × ByteArray), s.attrs[j]? = some p -> p.1 ≠ nm) := fun j p hp => by
  simpa using hno p (List.mem_of_getElem? hp)
 clear hd ha hs hk hno hi
 go_enter Tryz.func37, Tryz.ntmps37
 go_wp2_with fail
 refine hc.mono ?_
 rintro e w1 ⟨rfl, ⟨g, cap, ra, rcap, L, hr⟩, ht⟩
 obtain ⟨p, hp, hvv, hcap, hhd, hcl⟩ := hr.slot HS.out
 obtain ⟨aa, ac, ka, kc, rfl, l1, l2, v1, v2⟩ := hvv
 have hc4 := (hcl 4 _ rfl).1
 have hgs := hr.gb
 have HR0 : Hid (RdS w1 w.heap.size Q rb D g cap ra rcap L) := hr
 have HT0 : Hid (Turn (fun b => b = rb) w w1) := ht
 have HA : Hid (AttrsR w1 Q aa s.attrs) := v1
 have HQ : Hid (∀ b, Q b -> b < w1.heap.size) := fun b hb => (hr.qne b hb).2
 clear hr ht hc hp v1 v2 hcl
 go_wp2
 go_loop [10] (fun iv => ∃ (j : Nat), j <= s.attrs.length /\ iv = .int .i64 (j : Int)) (fun iv => s.attrs.length - (intOf iv).toNat)
 case atStart => exact ⟨0, by omega, rfl⟩
 case round =>
  obtain ⟨j, hj, rfl⟩ := hrel
  by_cases hlt : j < s.attrs.length
  ·obtain ⟨q, hq⟩ : ∃ q, s.attrs[j]? = some q := ⟨_, List.getElem?_eq_getElem hlt⟩
   obtain ⟨b, o, rfl, hbQ, d1, d2⟩ := HA.out j q hq
   have hbl := HQ.out b hbQ
   have hqe := HNO.out j q hq
   have hb : (q.1.toList == nm.toList) = false := str_ne hqe
   clear hq hqe
   go_wp2
   go_round
   case rel => exact ⟨j + 1, by omega, by go_num⟩
   case measure => simp [intOf]; omega
  ·have hje : j = s.attrs.length := by omega
   subst hje
   go_wp2
   go_ret
   exact rds_post HR0.out HT0.out
theorem rdrop_any (w : World) (Q : Nat -> Prop) (rb : Nat) (D : Dc) (h : Nat) (nm : ByteArray) (hd : RDoc w Q rb D) (hw : WF D) (hh : h < 18446744073709551616) :
  Calls Tryz.prog 37 #[.pointer (some ⟨rb, 0, none⟩), .int .u64 (h : Int), .string nm] w (RPost w Q rb (dropD D h nm).1 (dropD D h nm).2) := by
 have hf := hw.fits
 cases ha : atI D.S h with
 | none =>
  have e1 : dropD D h nm = (D, 8) := by simp only [dropD, ha]
  rw [e1]
  have hc := change_none w Q rb D h 1 hd hf hh ha
  have HD : Hid (RDoc w Q rb D) := hd
  clear hd ha e1 hw
  go_enter Tryz.func37, Tryz.ntmps37
  go_wp2_with fail
  refine hc.mono ?_
  rintro e w1 ⟨rfl, rfl⟩
  go_wp2
  go_ret
  exact rpost_same HD.out (Below.refl _ _)
 | some i =>
  obtain ⟨s, hsl, hs⟩ := sl_of_at ha
  by_cases hk : s.kind = 1
  ·cases hi : s.attrs.findIdx? (fun p => decide (p.1 = nm)) with
   | some n =>
    have e1 : dropD D h nm = ({ D with S := D.S.set i { s with attrs := s.attrs.take n ++ s.attrs.drop (n + 1) } }, 0) := by simp only [dropD, ha, hs, hk, if_true, hi]
    rw [e1]
    exact rdrop_some w Q rb D h nm i s n hd hf hh ha hs hk (hw.alen hsl) hi
   | none =>
    have e1 : dropD D h nm = (D, 35) := by simp only [dropD, ha, hs, hk, if_true, hi]
    rw [e1]
    exact rdrop_absent w Q rb D h nm i s hd hf hh ha hs hk (hw.alen hsl) hi
  ·have e1 : dropD D h nm = (D, 30) := by simp only [dropD, ha, hs, if_neg hk]
   rw [e1]
   have hc := change_kind w Q rb D h i s 1 hd hf hh ha hs hk
   have HD : Hid (RDoc w Q rb D) := hd
   clear hd ha e1 hs hk hsl hw
   go_enter Tryz.func37, Tryz.ntmps37
   go_wp2_with fail
   refine hc.mono ?_
   rintro e w1 ⟨rfl, rfl⟩
   go_wp2
   go_ret
   exact rpost_same HD.out (Below.refl _ _)
theorem attrs_same (w : World) (R R' : Nat -> Prop) (a a' : Option Addr) (l : List (ByteArray × ByteArray)) (c c' : Nat) (h : AttrsR w R a l) (h' : AttrsR w R' a' l) (hR : ∀ b, R b -> b < w.heap.size) (hR' : ∀ b, R' b -> b < w.heap.size) (hl : l.length <= 4398046511104) :
  Calls Tryz.prog 19 #[.slice a l.length c, .slice a' l.length c'] w fun e w' => e = .returned (.bool true) /\ Below w.heap.size w w' := by
 have H1 : Hid (AttrsR w R a l) := h
 have H2 : Hid (AttrsR w R' a' l) := h'
 have HR : Hid (∀ b, R b -> b < w.heap.size) := hR
 have HR' : Hid (∀ b, R' b -> b < w.heap.size) := hR'
 clear h h' hR hR'
 go_enter Tryz.func19, Tryz.ntmps19
 go_wp2
 go_loopw [5] (fun iv wr => ∃ (i : Nat), i <= l.length /\ iv = .int .i64 (i : Int) /\ Hid (Below w.heap.size w wr)) (fun iv _ => l.length - (intOf iv).toNat)
 case atStart => exact ⟨0, by omega, rfl, Below.refl _ _⟩
 case round =>
  obtain ⟨i, hi, rfl, hbw⟩ := hrel
  have hbs := hbw.out.size
  by_cases hlt : i < l.length
  ·obtain ⟨x, hx⟩ : ∃ x, l[i]? = some x := ⟨_, List.getElem?_eq_getElem hlt⟩
   obtain ⟨b, o, rfl, hb, hc, hd⟩ := H1.out i x hx
   obtain ⟨b2, o2, rfl, hb2, hc2, hd2⟩ := H2.out i x hx
   have e1 : wr.cell? ⟨b, o + i * 2, none⟩ = some (.string x.1) := (hbw.out.cell (p := ⟨b, _, none⟩) (HR.out b hb)).trans hc
   have e2 : wr.cell? ⟨b2, o2 + i * 2, none⟩ = some (.string x.1) := (hbw.out.cell (p := ⟨b2, _, none⟩) (HR'.out b2 hb2)).trans hc2
   have e3 : wr.cell? ⟨b, o + i * 2 + 1, none⟩ = some (.string x.2) := (hbw.out.cell (p := ⟨b, _, none⟩) (HR.out b hb)).trans hd
   have e4 : wr.cell? ⟨b2, o2 + i * 2 + 1, none⟩ = some (.string x.2) := (hbw.out.cell (p := ⟨b2, _, none⟩) (HR'.out b2 hb2)).trans hd2
   have f1 : b < wr.heap.size := by have := HR.out b hb; omega
   have f2 : b2 < wr.heap.size := by have := HR'.out b2 hb2; omega
   have HB2 : Hid (Below w.heap.size w wr.drew) := hbw.out.drew
   clear hx hc hc2 hd hd2
   go_wp2
   go_region
   go_wp2
   go_roundw
   case rel => exact ⟨i + 1, by omega, by go_num, HB2⟩
   case measure => simp [intOf]; omega
  ·have hie : i = l.length := by omega
   subst hie
   go_wp2
   go_ret
   exact ⟨rfl, hbw.out⟩
attribute [local go_sem] Bel.cell Bel.fz
def SameAll (n : Nat) : Prop := ∀ (w : World) (R R' : Nat -> Prop) (v v' : Array Value) (t : T n), TreeR w R n v t -> TreeR w R' n v' t -> (∀ b, R b -> b < w.heap.size) -> (∀ b, R' b -> b < w.heap.size) ->
 Calls Tryz.prog 10 #[.agg v, .agg v'] w fun e w' => e = .returned (.bool true) /\ Below w.heap.size w w'
theorem ForR.get {w : World} {R : Nat -> Prop} {n : Nat} {a : Option Addr} {L : List (T n)} (h : ForR w R n a L) {i : Nat} {k : T n} (hk : L[i]? = some k) : ∃ (b o : Nat) (kk : Int) (nm : ByteArray) (a' : Option Addr) (al ac : Nat) (tx : ByteArray) (ka : Option Addr) (kl kc : Nat), a = some ⟨b, o, none⟩ /\ R b /\
  w.cell? ⟨b, o + i * 5, none⟩ = some (.int .i64 kk) /\ w.cell? ⟨b, o + i * 5 + 1, none⟩ = some (.string nm) /\ w.cell? ⟨b, o + i * 5 + 2, none⟩ = some (.slice a' al ac) /\ w.cell? ⟨b, o + i * 5 + 3, none⟩ = some (.string tx) /\ w.cell? ⟨b, o + i * 5 + 4, none⟩ = some (.slice ka kl kc) /\ TreeR w R n #[.int .i64 kk, .string nm, .slice a' al ac, .string tx, .slice ka kl kc] k := by
 obtain ⟨b, o, u, h1, h2, h3, h4, h5⟩ := h i k hk
 obtain ⟨kk, nm, a', al, ac, tx, ka, kl, kc, rfl⟩ := h5.form
 exact ⟨b, o, kk, nm, a', al, ac, tx, ka, kl, kc, h1, h2, h4 0 (by omega), h4 1 (by omega), h4 2 (by omega), h4 3 (by omega), h4 4 (by omega), h5⟩
theorem ForR.to {w w' : World} {R R' : Nat -> Prop} {n : Nat} {a : Option Addr} {L : List (T n)} (h : ForR w R n a L) (hR : ∀ b, R b -> R' b) (hc : ∀ b o, R b -> w'.cell? ⟨b, o, none⟩ = w.cell? ⟨b, o, none⟩) : ForR w' R' n a L := by
 intro i k hk
 obtain ⟨b, o, u, h1, h2, h3, h4, h5⟩ := h i k hk
 exact ⟨b, o, u, h1, hR _ h2, h3, fun j hj => (hc _ _ h2).trans (h4 j hj), h5.to hR hc⟩
theorem forests_same (n : Nat) (ih : SameAll n) (w : World) (R R' : Nat -> Prop) (a a' : Option Addr) (L : List (T n)) (c c' : Nat) (h : ForR w R n a L) (h' : ForR w R' n a' L) (hR : ∀ b, R b -> b < w.heap.size) (hR' : ∀ b, R' b -> b < w.heap.size) (hl : L.length <= 4398046511104) :
  Calls Tryz.prog 8 #[.slice a L.length c, .slice a' L.length c'] w fun e w' => e = .returned (.bool true) /\ Below w.heap.size w w' := by
 have H1 : Hid (ForR w R n a L) := h
 have H2 : Hid (ForR w R' n a' L) := h'
 have HR : Hid (∀ b, R b -> b < w.heap.size) := hR
 have HR' : Hid (∀ b, R' b -> b < w.heap.size) := hR'
 have HI : Hid (SameAll n) := ih
 clear h h' hR hR' ih
 go_enter Tryz.func8, Tryz.ntmps8
 go_wp2
 go_loopw [5] (fun iv wr => ∃ (i : Nat), i <= L.length /\ iv = .int .i64 (i : Int) /\ Hid (Below w.heap.size w wr)) (fun iv _ => L.length - (intOf iv).toNat)
 case atStart => exact ⟨0, by omega, rfl, Below.refl _ _⟩
 case round =>
  obtain ⟨i, hi, rfl, hbw⟩ := hrel
  have hbs := hbw.out.size
  by_cases hlt : i < L.length
  ·obtain ⟨k, hk⟩ : ∃ k, L[i]? = some k := ⟨_, List.getElem?_eq_getElem hlt⟩
   have g1 := H1.out.to (w' := wr) (fun _ h => h) (fun b o hb => hbw.out.cell (p := ⟨b, o, none⟩) (HR.out b hb))
   have g2 := H2.out.to (w' := wr) (fun _ h => h) (fun b o hb => hbw.out.cell (p := ⟨b, o, none⟩) (HR'.out b hb))
   obtain ⟨b, o, kk, nm, at1, al, ac, tx, ka, kl, kc, rfl, hb, c0, c1, c2, c3, c4, ht⟩ := g1.get hk
   obtain ⟨b2, o2, kk2, nm2, at2, al2, ac2, tx2, ka2, kl2, kc2, rfl, hb2, d0, d1, d2, d3, d4, ht2⟩ := g2.get hk
   have f1 : b < wr.heap.size := by have := HR.out b hb; omega
   have f2 : b2 < wr.heap.size := by have := HR'.out b2 hb2; omega
   have hcal : ∀ W, Below wr.heap.size wr W -> Calls Tryz.prog 10 #[.agg #[.int .i64 kk, .string nm, .slice at1 al ac, .string tx, .slice ka kl kc], .agg #[.int .i64 kk2, .string nm2, .slice at2 al2 ac2, .string tx2, .slice ka2 kl2 kc2]] W fun e w' => e = .returned (.bool true) /\ Below W.heap.size W w' := fun W hW =>
    HI.out W R R' _ _ k (ht.to (fun _ h => h) (fun b o hb => hW.cell (p := ⟨b, o, none⟩) (by have := HR.out b hb; show b < wr.heap.size; omega))) (ht2.to (fun _ h => h) (fun b o hb => hW.cell (p := ⟨b, o, none⟩) (by have := HR'.out b hb; show b < wr.heap.size; omega))) (fun b hb => by have := HR.out b hb; have := hW.size; omega) (fun b hb => by have := HR'.out b hb; have := hW.size; omega)
   clear hk g1 g2 ht ht2
   go_wp2
   refine wp_region_bel (by kernel_rfl) (by kernel_rfl) ?_
   intro hne
   repeat go_big_quiet_step ((go_at_call 10; exact Calls.bel_of (hcal _ (Bel.h _))))
   refine wpQuiet_nil ?_
   rintro _ ⟨u, rfl⟩
   have HB2 : Hid (Below w.heap.size w u.w) := hbw.out.trans (u.h.mono hbs)
   go_wp2
   go_roundw
   case rel => exact ⟨i + 1, by omega, by go_num, HB2⟩
   case measure => simp [intOf]; omega
  ·have hie : i = L.length := by omega
   subst hie
   go_wp2
   go_ret
   exact ⟨rfl, hbw.out⟩
theorem same_any : ∀ (n : Nat), SameAll n
 | 0 => fun _ _ _ _ _ _ h => h.elim
 | n + 1 => by
  intro w R R' v v' t h h' hR hR'
  have ih := same_any n
  obtain ⟨a, ac, ka, kc, rfl, l1, l2, l3, l4, h5, h6⟩ := h
  obtain ⟨a', ac', ka', kc', rfl, -, -, l3', l4', h5', h6'⟩ := h'
  unfold tv
  unfold maxA at l1
  unfold maxK at l2
  have HA : Hid (∀ W, Below w.heap.size w W -> Calls Tryz.prog 19 #[.slice a t.attrs.length ac, .slice a' t.attrs.length ac'] W fun e w' => e = .returned (.bool true) /\ Below W.heap.size W w') := fun W hb =>
   attrs_same W R R' a a' t.attrs ac ac' (h5.to (fun _ h => h) (fun b o hb' => hb.cell (p := ⟨b, o, none⟩) (hR b hb'))) (h5'.to (fun _ h => h) (fun b o hb' => hb.cell (p := ⟨b, o, none⟩) (hR' b hb'))) (fun b hb' => Nat.lt_of_lt_of_le (hR b hb') hb.size) (fun b hb' => Nat.lt_of_lt_of_le (hR' b hb') hb.size) (by omega)
  have HF : Hid (∀ W, Below w.heap.size w W -> Calls Tryz.prog 8 #[.slice ka t.kids.length kc, .slice ka' t.kids.length kc'] W fun e w' => e = .returned (.bool true) /\ Below W.heap.size W w') := fun W hb =>
   forests_same n ih W R R' ka ka' t.kids kc kc' (ForR.to (w := w) h6 (fun _ h => h) (fun b o hb' => hb.cell (p := ⟨b, o, none⟩) (hR b hb'))) (ForR.to (w := w) h6' (fun _ h => h) (fun b o hb' => hb.cell (p := ⟨b, o, none⟩) (hR' b hb'))) (fun b hb' => Nat.lt_of_lt_of_le (hR b hb') hb.size) (fun b hb' => Nat.lt_of_lt_of_le (hR' b hb') hb.size) (by omega)
  have HB0 : Hid (Below w.heap.size w ((w.alloc (.cells #[.int .i64 t.kind, .string t.name, .slice a t.attrs.length ac, .string t.text, .slice ka t.kids.length kc] 35)).alloc (.cells #[.int .i64 t.kind, .string t.name, .slice a' t.attrs.length ac', .string t.text, .slice ka' t.kids.length kc'] 35))) := (below_new' w _).alloc (by simp) _
  clear h5 h5' h6 h6' ih hR hR'
  generalize t.attrs.length = AL at *
  generalize t.kids.length = KL at *
  generalize t.kind = K at *
  generalize t.name = NM at *
  generalize t.text = TX at *
  by_cases hk : K = 2
  ·have hb : (K == 2) = true := by simp [hk]
   clear hk
   go_enter Tryz.func10, Tryz.ntmps10
   go_wp2
   go_ret
   exact ⟨rfl, HB0.out⟩
  ·have hb : (K == 2) = false := by simp [hk]
   clear hk
   go_enter Tryz.func10, Tryz.ntmps10
   go_wp2_with fail
   refine (HA.out _ HB0.out).mono ?_
   rintro e w1 ⟨rfl, hb1⟩
   obtain ⟨hcb, hfb⟩ := bcell hb1
   have hs1 : w.heap.size + 2 <= w1.heap.size := by have := hb1.size; simpa using this
   have HB1 : Hid (Below w.heap.size w w1) := HB0.out.trans (hb1.mono (by simp; omega))
   have hx1 := (isCells_new w #[.int .i64 K, .string NM, .slice a AL ac, .string TX, .slice ka KL kc] 35).alloc (.cells #[.int .i64 K, .string NM, .slice a' AL ac', .string TX, .slice ka' KL kc'] 35)
   have hx2 := isCells_new (w.alloc (.cells #[.int .i64 K, .string NM, .slice a AL ac, .string TX, .slice ka KL kc] 35)) #[.int .i64 K, .string NM, .slice a' AL ac', .string TX, .slice ka' KL kc'] 35
   have e1 : w1.cell? ⟨w.heap.size, 4, none⟩ = some (.slice ka KL kc) := by rw [(hx1.of_block (hb1.block _ (by simp; omega))).cell]; rfl
   have e2 : w1.cell? ⟨w.heap.size + 1, 4, none⟩ = some (.slice ka' KL kc') := by
    have := (hx2.of_block (hb1.block _ (by simp))).cell 4
    simpa using this
   clear hcb hfb hb1 hx1 hx2
   have hf := HF.out w1 HB1.out
   go_wp2_with fail
   refine hf.mono ?_
   rintro e w2 ⟨rfl, hb2⟩
   have HB2 : Hid (Below w.heap.size w w2) := HB1.out.trans (hb2.mono (by omega))
   clear hb2 hf
   go_wp2
   go_ret
   exact ⟨rfl, HB2.out⟩
end Go.Proofs.YtmapmkogjhinmaaGreat
/- A slot as a node without its children: the program's. -/
namespace Go.Proofs.YtmapmkogjhinmaaGreat
open Go.RowKit
set_option maxRecDepth 100000
set_option maxHeartbeats 1000000
set_option linter.unusedVariables false
set_option linter.unusedSimpArgs false
end Go.Proofs.YtmapmkogjhinmaaGreat
/- What every document keeps, kept: a slot's own words changed. -/
namespace Go.Proofs.YtmapmkogjhinmaaGreat
open Go.RowKit
set_option maxRecDepth 100000
set_option maxHeartbeats 1000000
set_option linter.unusedVariables false
set_option linter.unusedSimpArgs false
def setS (D : Dc) (i : Nat) (s' : Sl) : Dc := { D with S := D.S.set i s' }
theorem sl_setS {D : Dc} {i : Nat} {s s' : Sl} (hs : D.S[i]? = some s) (hl : s'.live = s.live) (hg : s'.gen = s.gen) (h : Nat) : sl (setS D i s') h = if atI D.S h = some i then some s' else sl D h := by
 have h1 := atI_set_same (h := h) (j := 0) hs hl hg
 unfold sl setS
 simp only [h1]
 cases ha : atI D.S h with
 | none => simp
 | some j =>
  simp only [Option.bind_some, Option.some.injEq]
  by_cases e : j = i
  ·subst e
   rw [if_pos rfl, List.getElem?_set_self (List.getElem?_eq_some_iff.1 hs).1]
  ·rw [if_neg e, List.getElem?_set_ne (Ne.symm e)]
theorem sl_setS_some {D : Dc} {i : Nat} {s s' : Sl} (hs : D.S[i]? = some s) (hl : s'.live = s.live) (hg : s'.gen = s.gen) (hp : s'.parent = s.parent) (hk : s'.kids = s.kids) {h : Nat} {t : Sl} (ht : sl (setS D i s') h = some t) : ∃ t0, sl D h = some t0 /\ t.parent = t0.parent /\ t.kids = t0.kids := by
 rw [sl_setS hs hl hg] at ht
 by_cases e : atI D.S h = some i
 ·rw [if_pos e] at ht
  cases ht
  exact ⟨s, by simp [sl, e, hs], hp, hk⟩
 ·rw [if_neg e] at ht
  exact ⟨t, ht, rfl, rfl⟩
theorem sl_setS_to {D : Dc} {i : Nat} {s s' : Sl} (hs : D.S[i]? = some s) (hl : s'.live = s.live) (hg : s'.gen = s.gen) (hp : s'.parent = s.parent) (hk : s'.kids = s.kids) {h : Nat} {t : Sl} (ht : sl D h = some t) : ∃ t', sl (setS D i s') h = some t' /\ t'.parent = t.parent /\ t'.kids = t.kids := by
 rw [sl_setS hs hl hg]
 by_cases e : atI D.S h = some i
 ·rw [if_pos e]
  have : sl D h = some s := by simp [sl, e, hs]
  rw [this] at ht
  cases ht
  exact ⟨s', rfl, hp, hk⟩
 ·rw [if_neg e]
  exact ⟨t, ht, rfl, rfl⟩
theorem lst_setS {D : Dc} {i : Nat} {s s' : Sl} (hs : D.S[i]? = some s) (hl : s'.live = s.live) (hg : s'.gen = s.gen) (hp : s'.parent = s.parent) (hk : s'.kids = s.kids) (p : Nat) : lst (setS D i s') p = lst D p := by
 unfold lst
 by_cases h0 : p = 0
 ·rw [if_pos h0, if_pos h0]; rfl
 ·rw [if_neg h0, if_neg h0]
  cases hd : sl D p with
  | none =>
   cases hd' : sl (setS D i s') p with
   | none => rfl
   | some t =>
    obtain ⟨t0, h1, _⟩ := sl_setS_some hs hl hg hp hk hd'
    rw [hd] at h1
    cases h1
  | some t =>
   obtain ⟨t', h1, _, h2⟩ := sl_setS_to hs hl hg hp hk hd
   rw [h1]
   exact h2
theorem WF.setS {D : Dc} (hw : WF D) {i : Nat} {s s' : Sl} (hs : D.S[i]? = some s) (hlv : s.live = true) (hl : s'.live = s.live) (hg : s'.gen = s.gen) (hp : s'.parent = s.parent) (hk : s'.kids = s.kids) (ho : ownE (ndOf s') = 0) (hu : (s'.kind = 2 -> s'.kids = [] /\ s'.name = ⟨#[]⟩ /\ s'.attrs = []) /\ (s'.kind = 1 -> s'.text = ⟨#[]⟩)) : WF (setS D i s') := by
 have hget : ∀ (j : Nat) (t : Sl), (YtmapmkogjhinmaaGreat.setS D i s').S[j]? = some t -> (j = i /\ t = s') \/ D.S[j]? = some t := fun j t ht => by
  have ht' : (D.S.set i s')[j]? = some t := ht
  by_cases e : i = j
  ·subst e
   rw [List.getElem?_set_self (List.getElem?_eq_some_iff.1 hs).1] at ht'
   cases ht'
   exact .inl ⟨rfl, rfl⟩
  ·rw [List.getElem?_set_ne e] at ht'
   exact .inr ht'
 refine ⟨⟨by show (D.S.set i s').length <= 4096; simpa using hw.fits.len, fun j t ht => ?_⟩, fun j t ht => ?_, fun j t ht hd => ?_, fun j t ht hd => ?_, fun j t ht hd => ?_, ?_, fun h t ht => ?_, fun p hp' h hh => ?_, fun p => ?_⟩
 ·rcases hget j t ht with ⟨_, rfl⟩ | h
  ·rw [hg]; exact hw.fits.gen i s hs
  ·exact hw.fits.gen j t h
 ·rcases hget j t ht with ⟨_, rfl⟩ | h
  ·rw [hg]; exact hw.gen1 i s hs
  ·exact hw.gen1 j t h
 ·rcases hget j t ht with ⟨_, rfl⟩ | h
  ·rw [hl, hlv] at hd; cases hd
  ·exact hw.dead j t h hd
 ·rcases hget j t ht with ⟨_, rfl⟩ | h
  ·exact ho
  ·exact hw.own j t h hd
 ·rcases hget j t ht with ⟨_, rfl⟩ | h
  ·exact hu
  ·exact hw.used j t h hd
 ·obtain ⟨lv, hlev⟩ := hw.lev
  refine ⟨lv, fun h t ht => ?_⟩
  obtain ⟨t0, h1, h2, _⟩ := sl_setS_some hs hl hg hp hk ht
  obtain ⟨g1, g2⟩ := hlev h t0 h1
  refine ⟨g1, ?_⟩
  rw [h2]
  rcases g2 with g2 | ⟨q, g2, g3⟩
  ·exact .inl g2
  ·obtain ⟨q', e1, _⟩ := sl_setS_to hs hl hg hp hk g2
   exact .inr ⟨q', e1, g3⟩
 ·obtain ⟨t0, h1, h2, _⟩ := sl_setS_some hs hl hg hp hk ht
  rw [h2, lst_setS hs hl hg hp hk]
  exact hw.up h t0 h1
 ·rw [lst_setS hs hl hg hp hk] at hh
  have hp0 : p = 0 \/ ∃ q, sl D p = some q := by
   rcases hp' with h0 | ⟨q, hq⟩
   ·exact .inl h0
   ·obtain ⟨t0, h1, _⟩ := sl_setS_some hs hl hg hp hk hq
    exact .inr ⟨t0, h1⟩
  obtain ⟨t, h1, h2⟩ := hw.down p hp0 h hh
  obtain ⟨t', e1, e2, _⟩ := sl_setS_to hs hl hg hp hk h1
  exact ⟨t', e1, e2.trans h2⟩
 ·rw [lst_setS hs hl hg hp hk]
  exact hw.nodup p
theorem WF.setName {D : Dc} (hw : WF D) (h : Nat) (nm : ByteArray) : WF (setNameD D h nm).1 := by
 unfold setNameD
 split
 ·exact hw
 ·rename_i i ha
  split
  ·exact hw
  ·rename_i s hs
   split
   ·rename_i hk
    split
    ·rename_i hn
     obtain ⟨s0, hs0, hlv, _⟩ := atI_some ha
     rw [hs] at hs0
     cases hs0
     have ho := hw.own i s hs hlv
     refine WF.setS hw (s' := { s with name := nm }) hs hlv rfl rfl rfl rfl ?_ ⟨fun h2 => ?_, fun h1 => (hw.used i s hs hlv).2 hk⟩
     ·unfold ownE ndOf at ho ⊢
      simp only [hk, if_true, hn] at ho ⊢
      split at ho
      ·exact ho
      ·omega
     ·have h2' : s.kind = 2 := h2
      omega
    ·exact hw
   ·exact hw
theorem WF.setText {D : Dc} (hw : WF D) (h : Nat) (tx : ByteArray) : WF (setTextD D h tx).1 := by
 unfold setTextD
 split
 ·exact hw
 ·rename_i i ha
  split
  ·exact hw
  ·rename_i s hs
   split
   ·rename_i hk
    split
    ·rename_i hn
     obtain ⟨s0, hs0, hlv, _⟩ := atI_some ha
     rw [hs] at hs0
     cases hs0
     refine WF.setS hw (s' := { s with text := tx }) hs hlv rfl rfl rfl rfl ?_ ⟨fun h2 => (hw.used i s hs hlv).1 hk, fun h1 => ?_⟩
     ·unfold ownE ndOf
      simp only [hk]
      simpa using hn
     ·have h1' : s.kind = 1 := h1
      omega
    ·exact hw
   ·exact hw
theorem sl_killD (E : Dc) (x y : Nat) : sl (killD E x) y = if y = x then none else sl E y := by
 cases ha : atI E.S x with
 | none =>
  have e : killD E x = E := by simp only [killD, ha]
  rw [e]
  by_cases hy : y = x
  ·rw [if_pos hy, hy]; simp [sl, ha]
  ·rw [if_neg hy]
 | some i =>
  obtain ⟨s, hs, hl, hg, hi, h0, hx⟩ := atI_some ha
  rw [kill_at ha hs]
  have hil := (List.getElem?_eq_some_iff.1 hs).1
  by_cases hj : y % 4294967296 = i + 1
  ·have e1 : atI (E.S.set i (zeroSl s.gen)) y = none := by
    unfold atI
    rw [if_neg (by omega), hj, show i + 1 - 1 = i from rfl, List.getElem?_set_self hil]
    simp [zeroSl]
   have e2 : sl ({ E with S := E.S.set i (zeroSl s.gen) } : Dc) y = none := by simp [sl, e1]
   rw [e2]
   by_cases hy : y = x
   ·rw [if_pos hy]
   ·rw [if_neg hy]
    have : atI E.S y = none := by
     cases hay : atI E.S y with
     | none => rfl
     | some j =>
      obtain ⟨t, ht, _, _, hjj, _, hyy⟩ := atI_some hay
      have : j = i := by omega
      subst this
      rw [hs] at ht
      cases ht
      exact absurd (hyy.trans hx.symm) hy
    simp [sl, this]
  ·have hy : y ≠ x := by rintro rfl; omega
   rw [if_neg hy]
   have e1 : atI (E.S.set i (zeroSl s.gen)) y = atI E.S y := by
    unfold atI
    by_cases hz : y % 4294967296 = 0
    ·rw [if_pos hz, if_pos hz]
    ·rw [if_neg hz, if_neg hz, List.getElem?_set_ne (by omega)]
   simp only [sl, e1]
   cases hay : atI E.S y with
   | none => rfl
   | some j =>
    obtain ⟨t, ht, _, _, hjj, _, _⟩ := atI_some hay
    simp only [Option.bind_some]
    rw [List.getElem?_set_ne (by omega)]
theorem sl_killA : ∀ (l : List Nat) (E : Dc) (y : Nat), sl (killA E l) y = if y ∈ l then none else sl E y
 | [], E, y => by simp [killA]
 | a :: r, E, y => by
  show sl (killA (killD E a) r) y = _
  rw [sl_killA r, sl_killD]
  by_cases h1 : y ∈ r
  ·simp [h1]
  ·by_cases h2 : y = a
   ·simp [h2]
   ·simp [h1, h2]
theorem roots_killD (E : Dc) (x : Nat) : (killD E x).roots = E.roots := by
 unfold killD
 split
 ·rfl
 ·split <;> rfl
theorem roots_killA : ∀ (l : List Nat) (E : Dc), (killA E l).roots = E.roots
 | [], _ => rfl
 | a :: r, E => (roots_killA r (killD E a)).trans (roots_killD E a)
theorem slots_killA : ∀ (l : List Nat) (E : Dc), (killA E l).S.length = E.S.length /\ ∀ (j : Nat) (t : Sl), (killA E l).S[j]? = some t -> ∃ t0, E.S[j]? = some t0 /\ t.gen = t0.gen /\ (t = t0 \/ t = zeroSl t0.gen)
 | [], E => ⟨rfl, fun j t ht => ⟨t, ht, rfl, .inl rfl⟩⟩
 | a :: r, E => by
  obtain ⟨h1, h2⟩ := slots_killA r (killD E a)
  have key : (killD E a).S.length = E.S.length /\ ∀ (j : Nat) (t : Sl), (killD E a).S[j]? = some t -> ∃ t0, E.S[j]? = some t0 /\ t.gen = t0.gen /\ (t = t0 \/ t = zeroSl t0.gen) := by
   cases ha : atI E.S a with
   | none =>
    have e : killD E a = E := by simp only [killD, ha]
    rw [e]
    exact ⟨rfl, fun j t ht => ⟨t, ht, rfl, .inl rfl⟩⟩
   | some i =>
    obtain ⟨s, hs, _⟩ := atI_some ha
    rw [kill_at ha hs]
    refine ⟨by simp, fun j t ht => ?_⟩
    have ht' : (E.S.set i (zeroSl s.gen))[j]? = some t := ht
    by_cases e : i = j
    ·subst e
     rw [List.getElem?_set_self (List.getElem?_eq_some_iff.1 hs).1] at ht'
     cases ht'
     exact ⟨s, hs, rfl, .inr rfl⟩
    ·rw [List.getElem?_set_ne e] at ht'
     exact ⟨t, ht', rfl, .inl rfl⟩
  refine ⟨h1.trans key.1, fun j t ht => ?_⟩
  obtain ⟨t1, g1, g2, g3⟩ := h2 j t ht
  obtain ⟨t0, k1, k2, k3⟩ := key.2 j t1 g1
  refine ⟨t0, k1, g2.trans k2, ?_⟩
  rcases g3 with rfl | rfl
  ·exact k3
  ·exact .inr (by rw [k2])
theorem allH_kid {D : Dc} (hw : WF D) {lv : Nat -> Nat} (hl : Lev D lv) : ∀ (m h : Nat) (s : Sl), sl D h = some s -> 64 - lv h <= m -> ∀ x ∈ allH D h, (∀ c ∈ lst D x, c ∈ allH D h) /\ (x ≠ h -> par D x ∈ allH D h)
 | 0, h, s, e, hm => by have := (hl h s e).1; omega
 | m + 1, h, s, e, hm => by
  intro x hx
  rw [allH_step hw e] at hx ⊢
  rcases List.mem_cons.1 hx with rfl | hx
  ·refine ⟨fun c hc => ?_, fun hne => absurd rfl hne⟩
   obtain ⟨s', h1, _, _⟩ := hw.kid hl e hc
   exact List.mem_cons_of_mem _ (List.mem_flatMap.2 ⟨c, hc, by rw [allH_step hw h1]; simp⟩)
  ·obtain ⟨c, hc, hxc⟩ := List.mem_flatMap.1 hx
   obtain ⟨s', h1, hpar, h2⟩ := hw.kid hl e hc
   obtain ⟨i1, i2⟩ := allH_kid hw hl m c s' h1 (by omega) x hxc
   refine ⟨fun d hd => List.mem_cons_of_mem _ (List.mem_flatMap.2 ⟨c, hc, i1 d hd⟩), fun _ => ?_⟩
   by_cases hxe : x = c
   ·subst hxe
    have : par D x = h := by simp [par, h1, hpar]
    rw [this]
    simp
   ·exact List.mem_cons_of_mem _ (List.mem_flatMap.2 ⟨c, hc, i2 hxe⟩)
end Go.Proofs.YtmapmkogjhinmaaGreat
