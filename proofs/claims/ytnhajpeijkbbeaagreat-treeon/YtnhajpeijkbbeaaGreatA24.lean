/- The reader of an image: what it holds; find, and the slot at a place. -/
import Derived.Test.YtnhajpeijkbbeaaGreatA23
import Derived.Test.YtnhajpeijkbbeaaGreatA04
import Derived.Test.YtnhajpeijkbbeaaGreatA06
namespace Go.Proofs.YtnhajpeijkbbeaaGreat
open Go.RowKit
set_option maxRecDepth 100000
set_option maxHeartbeats 2000000
set_option linter.unusedVariables false
set_option linter.unusedSimpArgs false
structure Rdr (w : World) (R : Nat -> Prop) (base rb g : Nat) (S : List Sl) (L : List (Value × Value)) (c : Int) (V : Nat -> Bool) : Prop where
 head : IsCells w rb #[.slice (some ⟨g, 0, none⟩) S.length S.length, .int .i64 c]
 row : ∃ cur, IsCells w g cur /\ (∀ (k : Nat) (s : Sl) (p : Value × Value), S[k]? = some s -> L[k]? = some p -> ∀ j u, (slotCells s p)[j]? = some u -> cur[k * 9 + j]? = some u) /\ ∀ k, k < S.length -> cur[k * 9 + 8]? = some (.bool (V k))
 len : L.length = S.length
 vals : ∀ (i : Nat) (s : Sl) (p : Value × Value), S[i]? = some s -> L[i]? = some p -> SlotVals w R s p
 rlt : ∀ b, R b -> b < base
 blt : base <= rb /\ base <= g /\ rb ≠ g
theorem Rdr.bs {w : World} {R : Nat -> Prop} {base rb g : Nat} {S : List Sl} {L : List (Value × Value)} {c : Int} {V : Nat -> Bool} (h : Rdr w R base rb g S L c V) : base <= w.heap.size := by
 have := h.head.lt
 have := h.blt
 omega
theorem Rdr.below {w w' : World} {R : Nat -> Prop} {base rb g : Nat} {S : List Sl} {L : List (Value × Value)} {c : Int} {V : Nat -> Bool} (h : Rdr w R base rb g S L c V) (hb : Below w.heap.size w w') : Rdr w' R base rb g S L c V := by
 obtain ⟨cur, h1, h2, h3⟩ := h.row
 have hbs := h.bs
 exact ⟨h.head.of_block (hb.block _ h.head.lt), ⟨cur, h1.of_block (hb.block _ h1.lt), h2, h3⟩, h.len, fun i s p hs hp => (h.vals i s p hs hp).to (fun _ h => h) (fun b o hb' => hb.cell (p := ⟨b, o, none⟩) (by have := h.rlt b hb'; show b < w.heap.size; omega)), h.rlt, h.blt⟩
theorem slotCells_lt {s : Sl} {p : Value × Value} {j : Nat} {u : Value} (h : (slotCells s p)[j]? = some u) : j < 8 := (List.getElem?_eq_some_iff.1 h).1
theorem Rdr.mark {w : World} {R : Nat -> Prop} {base rb g : Nat} {S : List Sl} {L : List (Value × Value)} {c : Int} {V : Nat -> Bool} (h : Rdr w R base rb g S L c V) (i : Nat) (hi : i < S.length) : Rdr (w.setCell ⟨g, i * 9 + 8, none⟩ (.bool true)) R base rb g S L c (fun k => V k || decide (k = i)) := by
 obtain ⟨cur, h1, h2, h3⟩ := h.row
 have hb := h.blt
 have hsz : i * 9 + 8 < cur.size := (Array.getElem?_eq_some_iff.1 (h3 i hi)).1
 refine ⟨h.head.other hb.2.2 _, ⟨_, h1.set _ _, fun k s p hs hp j u hu => ?_, fun k hk => ?_⟩, h.len, fun k s p hs hp => (h.vals k s p hs hp).to (fun _ h => h) (fun b o hb' => World.cell?_of_block (w := w) (a := ⟨b, o, none⟩) (Below.heap_setCell _ _ _ _ (by have := h.rlt b hb'; show b ≠ g; omega))), h.rlt, h.blt⟩
 ·have := slotCells_lt hu
  rw [Array.getElem?_setIfInBounds_ne (by omega)]
  exact h2 k s p hs hp j u hu
 ·by_cases e : k = i
  ·subst e
   rw [Array.getElem?_setIfInBounds_self_of_lt hsz]
   simp
  ·rw [Array.getElem?_setIfInBounds_ne (by omega), h3 k hk]
   simp [e]
theorem Rdr.count {w : World} {R : Nat -> Prop} {base rb g : Nat} {S : List Sl} {L : List (Value × Value)} {c : Int} {V : Nat -> Bool} (h : Rdr w R base rb g S L c V) (c' : Int) : Rdr (w.setCell ⟨rb, 1, none⟩ (.int .i64 c')) R base rb g S L c' V := by
 obtain ⟨cur, h1, h2, h3⟩ := h.row
 have hb := h.blt
 refine ⟨by simpa using h.head.set 1 (.int .i64 c'), ⟨cur, h1.other (fun e => hb.2.2 e.symm) _, h2, h3⟩, h.len, fun k s p hs hp => (h.vals k s p hs hp).to (fun _ h => h) (fun b o hb' => World.cell?_of_block (w := w) (a := ⟨b, o, none⟩) (Below.heap_setCell _ _ _ _ (by have := h.rlt b hb'; show b ≠ rb; omega))), h.rlt, h.blt⟩
theorem Rdr.slot {w : World} {R : Nat -> Prop} {base rb g : Nat} {S : List Sl} {L : List (Value × Value)} {c : Int} {V : Nat -> Bool} (h : Rdr w R base rb g S L c V) {i : Nat} {s : Sl} (hs : S[i]? = some s) :
  ∃ aa ac ka kc, w.cell? ⟨g, i * 9, none⟩ = some (.int .u32 (s.gen : Int)) /\ w.cell? ⟨g, i * 9 + 1, none⟩ = some (.bool s.live) /\ w.cell? ⟨g, i * 9 + 2, none⟩ = some (.int .i64 s.kind) /\ w.cell? ⟨g, i * 9 + 3, none⟩ = some (.string s.name) /\
  w.cell? ⟨g, i * 9 + 4, none⟩ = some (.slice aa s.attrs.length ac) /\ w.cell? ⟨g, i * 9 + 5, none⟩ = some (.string s.text) /\ w.cell? ⟨g, i * 9 + 6, none⟩ = some (.int .u64 (s.parent : Int)) /\ w.cell? ⟨g, i * 9 + 7, none⟩ = some (.slice ka s.kids.length kc) /\ w.cell? ⟨g, i * 9 + 8, none⟩ = some (.bool (V i)) /\
  s.attrs.length <= ac /\ s.kids.length <= kc /\ AttrsR w R aa s.attrs /\ HandsAt w R ka s.kids := by
 obtain ⟨cur, h1, h2, h3⟩ := h.row
 have hi := (List.getElem?_eq_some_iff.1 hs).1
 obtain ⟨p, hp⟩ : ∃ p, L[i]? = some p := ⟨_, List.getElem?_eq_getElem (by rw [h.len]; exact hi)⟩
 obtain ⟨aa, ac, ka, kc, rfl, l1, l2, ha, hk⟩ := h.vals i s p hs hp
 have hc := fun j u (hu : (slotCells s (.slice aa s.attrs.length ac, .slice ka s.kids.length kc))[j]? = some u) => (h1.cell (i * 9 + j)).trans (h2 i s _ hs hp j u hu)
 exact ⟨aa, ac, ka, kc, hc 0 _ rfl, hc 1 _ rfl, hc 2 _ rfl, hc 3 _ rfl, hc 4 _ rfl, hc 5 _ rfl, hc 6 _ rfl, hc 7 _ rfl, (h1.cell _).trans (h3 i hi), l1, l2, ha, hk⟩
theorem rfind9_any (w : World) (R : Nat -> Prop) (base rb g : Nat) (D : Dc) (L : List (Value × Value)) (c : Int) (V : Nat -> Bool) (h i : Nat) (hr : Rdr w R base rb g D.S L c V) (hf : Fits D) (hh : h < 18446744073709551616) (ha : atI D.S h = some i) :
  Calls Tryz.prog 89 #[.pointer (some ⟨rb, 0, none⟩), .int .u64 (h : Int)] w fun e w' => e = .returned (.pointer (some ⟨g, i * 9, none⟩)) /\ Below w.heap.size w w' := by
 obtain ⟨s, hs, a1, a2, a3, a4, -⟩ := atI_some ha
 have hlt := (List.getElem?_eq_some_iff.1 hs).1
 have hlen := hf.len
 have hp : placeI h D.S.length = (i : Int) := by unfold placeI; rw [if_neg (by omega)]; omega
 have hpl := place_any w h D.S.length hh hf.len
 rw [hp] at hpl
 obtain ⟨aa, ac, ka, kc, c0, c1, c2, c3, c4, c5, c6, c7, c8, -, -, -, -⟩ := hr.slot hs
 have hz0 : w.cell? ⟨rb, 0, none⟩ = some (.slice (some ⟨g, 0, none⟩) D.S.length D.S.length) := hr.head.cell 0
 have hof := fun W => isOf_any W s.gen s.live s.kind s.name (.slice aa s.attrs.length ac) s.text s.parent (.slice ka s.kids.length kc) h hh (hf.gen i s hs)
 have hy : (s.live && decide (s.gen = h / 4294967296)) = true := by simp [a1, a2]
 rw [hy] at hof
 have hi1 : (i : Int) < ((D.S.length : Nat) : Int) := by omega
 have hi0 : (0 : Int) <= (i : Int) := by omega
 have hrl := hr.head.lt
 clear hp hr hf hs a1 a2 a3 a4 ha hy
 go_enter Tryz.func89, Tryz.ntmps89
 go_wp2_with fail
 refine hpl.mono ?_
 rintro e w' ⟨rfl, rfl⟩
 go_wp2_with fail
 refine (hof _).mono ?_
 rintro e w2 ⟨rfl, hb2⟩
 obtain ⟨hcc, hff⟩ := bcell hb2
 have HB2 : Hid (Below w'.heap.size w' w2) := hb2
 clear hb2
 go_wp2
 go_ret
 exact ⟨rfl, HB2.out⟩
theorem ld1_any (w : World) (R : Nat -> Prop) (base rb g : Nat) (S : List Sl) (L : List (Value × Value)) (c : Int) (V : Nat -> Bool) (i : Nat) (s : Sl) (hr : Rdr w R base rb g S L c V) (hs : S[i]? = some s) (hu : Us s) (hn : S.length <= 4096) :
  Calls Tryz.prog 33 #[.int .i64 (i : Int), .pointer (some ⟨rb, 0, none⟩)] w (CsP w R s) := by
 have hlt := (List.getElem?_eq_some_iff.1 hs).1
 obtain ⟨aa, ac, ka, kc, c0, c1, c2, c3, c4, c5, c6, c7, c8, l1, l2, ha, hk⟩ := hr.slot hs
 have hz0 : w.cell? ⟨rb, 0, none⟩ = some (.slice (some ⟨g, 0, none⟩) S.length S.length) := hr.head.cell 0
 have hi1 : (i : Int) < ((S.length : Nat) : Int) := by omega
 have hi0 : (0 : Int) <= (i : Int) := by omega
 have hrl := hr.head.lt
 have hgl : g < w.heap.size := by obtain ⟨cur, h1, _⟩ := hr.row; exact h1.lt
 have hRl : ∀ b, R b -> b < w.heap.size := fun b hb => by have := hr.rlt b hb; have := hr.bs; omega
 have hbn := below_new' w (.cells #[.int .u32 0, .bool false, .int .i64 0, .string ⟨#[]⟩, .slice none 0 0, .string ⟨#[]⟩, .int .u64 0, .slice none 0 0] 75)
 have hcal := used_any (w.alloc (.cells #[.int .u32 0, .bool false, .int .i64 0, .string ⟨#[]⟩, .slice none 0 0, .string ⟨#[]⟩, .int .u64 0, .slice none 0 0] 75)) R s hu aa ac ka kc l1 l2 (ha.to (fun _ h => h) (fun b o hb' => hbn.cell (p := ⟨b, o, none⟩) (hRl b hb'))) (hk.to (fun _ h => h) (fun b o hb' => hbn.cell (p := ⟨b, o, none⟩) (hRl b hb'))) (fun b hb => by have := hRl b hb; simp; omega)
 unfold slv at hcal
 have HB0 : Hid (Below w.heap.size w (w.alloc (.cells #[.int .u32 0, .bool false, .int .i64 0, .string ⟨#[]⟩, .slice none 0 0, .string ⟨#[]⟩, .int .u64 0, .slice none 0 0] 75))) := hbn
 have HRL : Hid (∀ b, R b -> b < w.heap.size) := hRl
 clear hr hs hu ha hk hbn
 go_enter Tryz.func33, Tryz.ntmps33
 go_wp2_with fail
 refine hcal.mono ?_
 rintro e w1 ⟨aa', ac', ka', kc', rfl, m1, m2, hat, hkt, hb1⟩
 have hs1 : w.heap.size + 1 <= w1.heap.size := by have := hb1.size; simpa using this
 have HX : Hid (IsCells w1 w.heap.size #[.int .u32 0, .bool false, .int .i64 0, .string ⟨#[]⟩, .slice none 0 0, .string ⟨#[]⟩, .int .u64 0, .slice none 0 0]) := (isCells_new w _ 75).of_block (hb1.block _ (by simp))
 have hxc := HX.out.cell
 have hxf := HX.out.frozen
 have hxl : w.heap.size < w1.heap.size := by omega
 have HB1 : Hid (Below w.heap.size w w1) := HB0.out.trans (hb1.mono (by simp))
 have HAT : Hid (AttrsR w1 R aa' s.attrs) := hat
 have HKT : Hid (HandsAt w1 R ka' s.kids) := hkt
 unfold slv
 clear hb1 hat hkt hcal c0 c1 c2 c3 c4 c5 c6 c7 c8
 go_wp2
 have ht : Turn (fun b => b = w.heap.size) w1 _ := ((((((((Turn.refl (fun b => b = w.heap.size) w1).setCell (A := fun b => b = w.heap.size) (p := ⟨w.heap.size, 0, none⟩) rfl (.int .u32 (s.gen : Int))).setCell (A := fun b => b = w.heap.size) (p := ⟨w.heap.size, 1, none⟩) rfl (.bool s.live)).setCell (A := fun b => b = w.heap.size) (p := ⟨w.heap.size, 2, none⟩) rfl (.int .i64 s.kind)).setCell (A := fun b => b = w.heap.size) (p := ⟨w.heap.size, 3, none⟩) rfl (.string s.name)).setCell (A := fun b => b = w.heap.size) (p := ⟨w.heap.size, 4, none⟩) rfl (.slice aa' s.attrs.length ac')).setCell (A := fun b => b = w.heap.size) (p := ⟨w.heap.size, 5, none⟩) rfl (.string s.text)).setCell (A := fun b => b = w.heap.size) (p := ⟨w.heap.size, 6, none⟩) rfl (.int .u64 (s.parent : Int))).setCell (A := fun b => b = w.heap.size) (p := ⟨w.heap.size, 7, none⟩) rfl (.slice ka' s.kids.length kc')
 refine bodyPost_ret (v := .agg (slv s aa' ac' ka' kc')) (by simp [results, Tryz.results33, go_sem, slv, hxc]) rfl ⟨aa', ac', ka', kc', rfl, m1, m2, HAT.out.to (fun _ h => h) (fun b o hb' => ?_), HKT.out.to (fun _ h => h) (fun b o hb' => ?_), HB1.out.trans (ht.below (by omega) (fun k hk => by omega))⟩
 ·have := HRL.out b hb'
  exact World.cell?_of_block (w := w1) (a := ⟨b, o, none⟩) (ht.block b (by omega) (by omega))
 ·have := HRL.out b hb'
  exact World.cell?_of_block (w := w1) (a := ⟨b, o, none⟩) (ht.block b (by omega) (by omega))
def mk (D : Dc) (vs : List Nat) (k : Nat) : Bool := vs.any fun x => atI D.S x == some k
theorem mk_snoc {D : Dc} {vs : List Nat} {x i : Nat} (h : atI D.S x = some i) (k : Nat) : mk D (vs ++ [x]) k = (mk D vs k || decide (k = i)) := by
 unfold mk
 rw [List.any_append]
 simp only [List.any_cons, List.any_nil, Bool.or_false, h]
 congr 1
 rw [Bool.eq_iff_iff]
 simp
 omega
theorem mk_no {D : Dc} {vs : List Nat} {x i : Nat} (h : atI D.S x = some i) (hx : x ∉ vs) : mk D vs i = false := by
 rw [<- Bool.not_eq_true]
 intro e
 unfold mk at e
 rw [List.any_eq_true] at e
 obtain ⟨y, hy, e⟩ := e
 have e' : atI D.S y = some i := by simpa using e
 obtain ⟨s1, g1, -, -, -, -, g2⟩ := atI_some h
 obtain ⟨s2, k1, -, -, -, -, k2⟩ := atI_some e'
 rw [g1] at k1
 cases k1
 exact hx (by rw [g2, <- k2]; exact hy)
theorem Rdr.congr {w : World} {R : Nat -> Prop} {base rb g : Nat} {S : List Sl} {L : List (Value × Value)} {c c' : Int} {V V' : Nat -> Bool} (h : Rdr w R base rb g S L c V) (hc : c = c') (hV : ∀ k, V k = V' k) : Rdr w R base rb g S L c' V' := by
 have : V = V' := funext hV
 subst this hc
 exact h
theorem Rdr.turn {w w' : World} {R : Nat -> Prop} {base rb g : Nat} {S : List Sl} {L : List (Value × Value)} {c : Int} {V : Nat -> Bool} (h : Rdr w R base rb g S L c V) {a : Option Addr} {l : List Nat} (hl : HandsAt w R a l) (ht : Turn (fun b => b = rb \/ b = g) w w') : HandsAt w' R a l :=
 hl.to (fun _ h => h) (fun b o hb => World.cell?_of_block (w := w) (a := ⟨b, o, none⟩) (ht.block b (by have := h.rlt b hb; have := h.bs; omega) (by have := h.rlt b hb; have := h.blt; omega)))
def ReadP (w : World) (R : Nat -> Prop) (base rb g : Nat) (D : Dc) (L : List (Value × Value)) (vs : List Nat) (e : Ending) (w' : World) : Prop :=
 e = .returned (.bool true) /\ Turn (fun b => b = rb \/ b = g) w w' /\ Rdr w' R base rb g D.S L (vs.length : Int) (mk D vs)
def ReadAll (D : Dc) (R : Nat -> Prop) (base rb g : Nat) (L : List (Value × Value)) (lv : Nat -> Nat) (k : Nat) : Prop := ∀ (w : World) (la : Option Addr) (l : List Nat) (lc p d : Nat) (vs : List Nat), Rdr w R base rb g D.S L (vs.length : Int) (mk D vs) -> HandsAt w R la l -> l.length <= 4096 -> p < 18446744073709551616 ->
  (∀ x ∈ l, ∃ s, sl D x = some s /\ s.parent = p /\ lv x + 1 = d /\ 64 - lv x <= k) -> (vs ++ l.flatMap (allH D)).Nodup -> (vs ++ l.flatMap (allH D)).length <= 4096 ->
  Calls Tryz.prog 31 #[.pointer (some ⟨rb, 0, none⟩), .int .u64 (p : Int), .slice la l.length lc, .int .i64 (d : Int)] w (ReadP w R base rb g D L (vs ++ l.flatMap (allH D)))
theorem drop_cons {α : Type} {l : List α} {j : Nat} {x : α} (h : l[j]? = some x) : l.drop j = x :: l.drop (j + 1) := by
 have hlt := (List.getElem?_eq_some_iff.1 h).1
 rw [List.drop_eq_getElem_cons hlt, (List.getElem?_eq_some_iff.1 h).2]
theorem read_step (D : Dc) (R : Nat -> Prop) (base rb g : Nat) (L : List (Value × Value)) (lv : Nat -> Nat) (hw : WF D) (hl : Lev D lv) (k : Nat) (ih : ∀ j, j + 1 = k -> ReadAll D R base rb g L lv j) : ReadAll D R base rb g L lv k := by
 intro w la l lc p d vs hr hla hll hpl hx hnd hlen
 have HR0 : Hid (Rdr w R base rb g D.S L (vs.length : Int) (mk D vs)) := hr
 have HLA : Hid (HandsAt w R la l) := hla
 have HIH : Hid (∀ j, j + 1 = k -> ReadAll D R base rb g L lv j) := ih
 have HX : Hid (∀ x ∈ l, ∃ s, sl D x = some s /\ s.parent = p /\ lv x + 1 = d /\ 64 - lv x <= k) := hx
 have HND : Hid ((vs ++ l.flatMap (allH D)).Nodup) := hnd
 have HLEN : Hid ((vs ++ l.flatMap (allH D)).length <= 4096) := hlen
 have HW : Hid (WF D) := hw
 have HL : Hid (Lev D lv) := hl
 clear hr hla hx hnd hlen hw hl ih
 go_enter Tryz.func31, Tryz.ntmps31
 go_wp2
 go_loopw [14] (fun iv wr => ∃ j : Nat, j <= l.length /\ iv = .int .i64 (j : Int) /\ Hid (Turn (fun b => b = rb \/ b = g) w wr) /\ Hid (Rdr wr R base rb g D.S L ((vs ++ (l.take j).flatMap (allH D)).length : Int) (mk D (vs ++ (l.take j).flatMap (allH D))))) (fun iv _ => l.length - (intOf iv).toNat)
 case atStart => exact ⟨0, Nat.zero_le _, rfl, Turn.refl _ _, by simpa using HR0⟩
 case round =>
  obtain ⟨j, hj, rfl, HT, HR⟩ := hrel
  by_cases hlt : j < l.length
  ·obtain ⟨x, hxj⟩ : ∃ x, l[j]? = some x := ⟨_, List.getElem?_eq_getElem hlt⟩
   have hmem := List.mem_of_getElem? hxj
   obtain ⟨s, hsx, hsp, hdx, hkx⟩ := HX.out x hmem
   obtain ⟨hxl, hx0, i, hai, hsi, -⟩ := HW.out.lt hsx
   have hstep := allH_step HW.out hsx
   have hsplit : vs ++ l.flatMap (allH D) = (vs ++ (l.take j).flatMap (allH D)) ++ (allH D x ++ (l.drop (j + 1)).flatMap (allH D)) := by
    rw [List.append_assoc, <- List.flatMap_cons, <- drop_cons hxj, <- List.flatMap_append, List.take_append_drop]
   have hnd' := HND.out
   have hlen' := HLEN.out
   rw [hsplit] at hnd' hlen'
   have hnx : x ∉ vs ++ (l.take j).flatMap (allH D) := fun hin => by
    rw [List.nodup_append] at hnd'
    exact hnd'.2.2 x hin x (by rw [hstep]; simp) rfl
   have hmk := mk_no hai hnx
   obtain ⟨b, o, hla1, hbR, hcx⟩ := (HR0.out.turn HLA.out HT.out) j x hxj
   subst hla1
   have hbb : b < wr.heap.size := by have := HR0.out.rlt b hbR; have := HR.out.bs; omega
   have hfind := rfind9_any wr R base rb g D L _ _ x i HR.out HW.out.fits hxl hai
   have hil := (List.getElem?_eq_some_iff.1 hsi).1
   have hlvx := (HL.out x s hsx).1
   have hd64 : ¬ (64 : Int) < (d : Int) := by omega
   have HSP : Hid (s.parent = p) := hsp
   have HSX : Hid (sl D x = some s) := hsx
   have HAI : Hid (atI D.S x = some i) := hai
   have HST : Hid (allH D x = x :: (lst D x).flatMap (allH D)) := hstep
   have HTK : Hid ((l.take (j + 1)).flatMap (allH D) = (l.take j).flatMap (allH D) ++ allH D x) := flatMap_snoc hxj
   have HSI : Hid (D.S[i]? = some s) := hsi
   generalize hcur : vs ++ (l.take j).flatMap (allH D) = cur at *
   have HCUR : Hid (vs ++ (l.take j).flatMap (allH D) = cur) := hcur
   have HND2 : Hid ((cur ++ (allH D x ++ (l.drop (j + 1)).flatMap (allH D))).Nodup) := hnd'
   have HLEN2 : Hid ((cur ++ (allH D x ++ (l.drop (j + 1)).flatMap (allH D))).length <= 4096) := hlen'
   have hcl : (cur.length : Int) <= 4096 := by
    have := HLEN2.out
    rw [List.length_append] at this
    omega
   clear hmem hsx hai hstep hnd' hlen' hnx hsi hcur hsp hsplit
   go_wp2_with fail
   refine hfind.mono ?_
   rintro e w1 ⟨rfl, hb1⟩
   have HR1 : Hid (Rdr w1 R base rb g D.S L (cur.length : Int) (mk D cur)) := HR.out.below hb1
   have hs1 := hb1.size
   have HT1 : Hid (Turn (fun b => b = rb \/ b = g) w w1) := HT.out.then hb1 HT.out.size
   obtain ⟨aa, ac, ka, kc, c0, c1, c2, c3, c4, c5, c6, c7, c8, l1, l2, hat, hkt⟩ := HR1.out.slot HSI.out
   rw [hmk] at c8
   rw [HSP.out] at c6
   have hrc : w1.cell? ⟨rb, 1, none⟩ = some (.int .i64 (cur.length : Int)) := HR1.out.head.cell 1
   have hrf : w1.frozen? ⟨rb, 1, none⟩ = false := HR1.out.head.frozen 1
   have hgf : w1.frozen? ⟨g, i * 9 + 8, none⟩ = false := by obtain ⟨cw, h1, _⟩ := HR1.out.row; exact h1.frozen _
   have hrl := HR1.out.head.lt
   have hgl : g < w1.heap.size := by obtain ⟨cw, h1, _⟩ := HR1.out.row; exact h1.lt
   have hrg : ¬ rb = g := HR1.out.blt.2.2
   have hgr : ¬ g = rb := fun e => hrg e.symm
   have HR2 : Hid (Rdr ((w1.setCell ⟨g, i * 9 + 8, none⟩ (.bool true)).setCell ⟨rb, 1, none⟩ (.int .i64 ((cur.length : Int) + 1))) R base rb g D.S L ((cur ++ [x]).length : Int) (mk D (cur ++ [x]))) := ((HR1.out.mark i hil).count ((cur.length : Int) + 1)).congr (by simp) (fun k => (mk_snoc HAI.out k).symm)
   have HT2 : Hid (Turn (fun b => b = rb \/ b = g) w ((w1.setCell ⟨g, i * 9 + 8, none⟩ (.bool true)).setCell ⟨rb, 1, none⟩ (.int .i64 ((cur.length : Int) + 1)))) := (HT1.out.setCell (A := fun b => b = rb \/ b = g) (p := ⟨g, i * 9 + 8, none⟩) (.inr rfl) _).setCell (A := fun b => b = rb \/ b = g) (p := ⟨rb, 1, none⟩) (.inl rfl) _
   have hkk : lst D x = s.kids := lst_of HSX.out
   have HKT2 : Hid (HandsAt ((w1.setCell ⟨g, i * 9 + 8, none⟩ (.bool true)).setCell ⟨rb, 1, none⟩ (.int .i64 ((cur.length : Int) + 1))) R ka s.kids) := HR1.out.turn hkt (((Turn.refl (fun b => b = rb \/ b = g) w1).setCell (A := fun b => b = rb \/ b = g) (p := ⟨g, i * 9 + 8, none⟩) (.inr rfl) _).setCell (A := fun b => b = rb \/ b = g) (p := ⟨rb, 1, none⟩) (.inl rfl) _)
   have hus := HW.out.us HSI.out
   obtain ⟨s', hs', hlive, -⟩ := atI_some HAI.out
   rw [HSI.out] at hs'
   cases hs'
   have hpp : ((p : Int) != (p : Int)) = false := by simp
   rcases hus.kind hlive with hk1 | hk2
   ·have hcall : Calls Tryz.prog 31 #[.pointer (some ⟨rb, 0, none⟩), .int .u64 (x : Int), .slice ka s.kids.length kc, .int .i64 ((d : Int) + 1)] ((w1.setCell ⟨g, i * 9 + 8, none⟩ (.bool true)).setCell ⟨rb, 1, none⟩ (.int .i64 ((cur.length : Int) + 1))) (ReadP ((w1.setCell ⟨g, i * 9 + 8, none⟩ (.bool true)).setCell ⟨rb, 1, none⟩ (.int .i64 ((cur.length : Int) + 1))) R base rb g D L ((cur ++ [x]) ++ s.kids.flatMap (allH D))) := by
     obtain ⟨k', hk'⟩ : ∃ k', k' + 1 = k := ⟨k - 1, by omega⟩
     have hh := HIH.out k' hk' _ ka s.kids kc x (d + 1) (cur ++ [x]) HR2.out HKT2.out hus.klen hxl (fun y hy => by
      obtain ⟨sy, h1, h2, h3⟩ := HW.out.kid HL.out HSX.out (c := y) (by rw [hkk]; exact hy)
      exact ⟨sy, h1, h2, by omega, by omega⟩) (by
      have := HND2.out
      rw [HST.out, hkk, <- List.append_assoc, List.nodup_append] at this
      rw [List.append_assoc]
      exact this.1) (by
      have := HLEN2.out
      rw [HST.out, hkk] at this
      simp only [List.length_append, List.length_cons, List.length_nil] at this ⊢
      omega)
     exact hh
    have hkb : (s.kind == 1) = true := by rw [hk1]; rfl
    have hd1 : (d : Int) <= 64 := by omega
    have HFIN : Hid ((cur ++ [x]) ++ s.kids.flatMap (allH D) = vs ++ (l.take (j + 1)).flatMap (allH D)) := by
     show _ = _
     rw [HTK.out, <- List.append_assoc, HCUR.out, HST.out, hkk, List.append_assoc]
     rfl
    clear hk1 hus hlive hat hkt hb1 hfind hkk
    go_wp2_with fail
    refine hcall.mono ?_
    rintro e w3 ⟨rfl, ht3, hr3⟩
    rw [HFIN.out] at hr3
    have HR3 : Hid (Rdr w3 R base rb g D.S L ((vs ++ (l.take (j + 1)).flatMap (allH D)).length : Int) (mk D (vs ++ (l.take (j + 1)).flatMap (allH D)))) := hr3
    have HT3 : Hid (Turn (fun b => b = rb \/ b = g) w w3) := HT2.out.trans ht3
    clear ht3 hr3 hcall
    go_wp2
    go_roundw
    case rel => exact ⟨j + 1, by omega, by go_num, HT3, HR3⟩
    case measure => simp [intOf]; omega
   ·have hkb : (s.kind == 1) = false := by rw [hk2]; rfl
    have HFIN : Hid (cur ++ [x] = vs ++ (l.take (j + 1)).flatMap (allH D)) := by
     show _ = _
     rw [HTK.out, <- List.append_assoc, HCUR.out, HST.out, hkk, (hus.text hlive hk2).1]
     rfl
    have HR3 : Hid (Rdr ((w1.setCell ⟨g, i * 9 + 8, none⟩ (.bool true)).setCell ⟨rb, 1, none⟩ (.int .i64 ((cur.length : Int) + 1))) R base rb g D.S L ((vs ++ (l.take (j + 1)).flatMap (allH D)).length : Int) (mk D (vs ++ (l.take (j + 1)).flatMap (allH D)))) := by rw [<- HFIN.out]; exact HR2
    clear hk2 hus hlive hat hkt hb1 hfind hkk
    go_wp2
    go_roundw
    case rel => exact ⟨j + 1, by omega, by go_num, HT2, HR3⟩
    case measure => simp [intOf]; omega
  ·have hje : j = l.length := by omega
   have HF : Hid (l.take j = l) := by show _ = _; rw [hje]; exact List.take_length
   have hR' := HR.out
   rw [HF.out] at hR'
   have HR9 : Hid (Rdr wr R base rb g D.S L ((vs ++ l.flatMap (allH D)).length : Int) (mk D (vs ++ l.flatMap (allH D)))) := hR'
   clear hR' hje HR
   go_wp2
   go_ret
   exact ⟨rfl, HT.out, HR9.out⟩
theorem read_any (D : Dc) (R : Nat -> Prop) (base rb g : Nat) (L : List (Value × Value)) (lv : Nat -> Nat) (hw : WF D) (hl : Lev D lv) : ∀ k, ReadAll D R base rb g L lv k
 | 0 => read_step D R base rb g L lv hw hl 0 (fun j hj => by omega)
 | k + 1 => read_step D R base rb g L lv hw hl (k + 1) (fun j hj => by
   have : j = k := by omega
   subst this
   exact read_any D R base rb g L lv hw hl j)
theorem cz_any (w : World) (R : Nat -> Prop) (B : Nat) (S : List Sl) (hR : ∀ b, R b -> b < w.heap.size) (hn : S.length <= 4096) (hcap : ∀ (i : Nat) (s : Sl), S[i]? = some s -> s.attrs.length <= 1000000 /\ s.kids.length <= 1000000)
  (hcl : ∀ (i : Nat) (s : Sl), S[i]? = some s -> ∀ W, Below w.heap.size w W -> Calls Tryz.prog 33 #[.int .i64 (i : Int), .pointer (some ⟨B, 0, none⟩)] W (CsP W R s)) :
  Calls Tryz.prog 32 #[.int .i64 (S.length : Int), .func (.func 33) #[] #[.pointer (some ⟨B, 0, none⟩)]] w (CyP w S) := by
 obtain ⟨W1, hmk, hO1, hB1⟩ : ∃ W1, (Instr.makeSlice 22 (.int .i64 (S.length : Int)) (.int .i64 (S.length : Int))).run Tryz.prog w = .ok (.slice (some ⟨w.heap.size, 0, none⟩) S.length S.length) W1 /\ Hid (∃ xs, W1.ownsRow w.heap.size 75 8 (.slice (some ⟨w.heap.size, 0, none⟩) S.length S.length) S.length xs) /\ Hid (Below w.heap.size w W1) := by
  obtain ⟨i, hi0, hz0, hz1, hz2⟩ := info75.parts
  obtain ⟨w', hr, h2, h3⟩ := run_make_full (P := Tryz.prog) w w.heap.size 22 75 i _ 8 Tryz.underlying22 hi0 hz0 hz1 .i64 .i64 S.length (by rw [hz2]; omega) (by unfold maxLen; omega) (Nat.le_refl _)
  exact ⟨w', hr, ⟨_, h2⟩, ⟨h3.os, h3.tape, h3.output, h3.size, fun k hk => h3.block k hk (by simp)⟩⟩
 obtain ⟨xs0, hxs0⟩ := hO1.out
 have HST : Hid (CyS w W1 S 0 [] xs0) := ⟨hxs0, rfl, by simp [rowOf], (fun k s p hk _ => by simp at hk), ⟨fun _ => 0, (fun k p b hk _ => by simp at hk), (fun k p b hk _ => by simp at hk), fun b hb => absurd rfl hb⟩, hB1.out⟩
 have HCL : Hid (∀ (i : Nat) (s : Sl), S[i]? = some s -> ∀ W, Below w.heap.size w W -> Calls Tryz.prog 33 #[.int .i64 (i : Int), .pointer (some ⟨B, 0, none⟩)] W (CsP W R s)) := hcl
 have HR : Hid (∀ b, R b -> b < w.heap.size) := hR
 have HCAP : Hid (∀ (i : Nat) (s : Sl), S[i]? = some s -> s.attrs.length <= 1000000 /\ s.kids.length <= 1000000) := hcap
 clear hxs0 hcl hR hO1 hB1 hcap
 go_enter Tryz.func32, Tryz.ntmps32
 go_wp2
 clear hmk
 go_loopw [12] (fun iv wr => ∃ (i : Nat) (L : List (Value × Value)) (xs : List Value), i <= S.length /\ iv = .int .i64 (i : Int) /\ Hid (CyS w wr S i L xs)) (fun iv _ => S.length - (intOf iv).toNat)
 case atStart => exact ⟨0, [], xs0, Nat.zero_le _, rfl, HST⟩
 case round =>
  obtain ⟨i, L, xs, hi, rfl, hst⟩ := hrel
  clear HST
  have hbs := hst.out.bel.size
  by_cases hlt : i < S.length
  ·obtain ⟨s, hs⟩ : ∃ s, S[i]? = some s := ⟨_, List.getElem?_eq_getElem hlt⟩
   have hcall := HCL.out i s hs wr hst.out.bel
   obtain ⟨hal, hkl⟩ := HCAP.out i s hs
   have HS : Hid (S[i]? = some s) := hs
   clear hs
   go_wp2_with fail
   refine hcall.mono ?_
   rintro e w1 ⟨aa, ac, ka, kc, rfl, l1, l2, hat, hkt, hb1⟩
   have hs1 := hb1.size
   have HB1 : Hid (Below wr.heap.size wr w1) := hb1
   have HAT : Hid (AttrsR w1 R aa s.attrs) := hat
   have HKT : Hid (HandsAt w1 R ka s.kids) := hkt
   have HX : Hid (IsCells (w1.alloc (.cells #[.int .u32 (s.gen : Int), .bool s.live, .int .i64 s.kind, .string s.name, .slice aa s.attrs.length ac, .string s.text, .int .u64 (s.parent : Int), .slice ka s.kids.length kc] 75)) w1.heap.size #[.int .u32 (s.gen : Int), .bool s.live, .int .i64 s.kind, .string s.name, .slice aa s.attrs.length ac, .string s.text, .int .u64 (s.parent : Int), .slice ka s.kids.length kc]) := isCells_new w1 _ _
   have HBX : Hid (Below wr.heap.size wr (w1.alloc (.cells #[.int .u32 (s.gen : Int), .bool s.live, .int .i64 s.kind, .string s.name, .slice aa s.attrs.length ac, .string s.text, .int .u64 (s.parent : Int), .slice ka s.kids.length kc] 75))) := hb1.alloc hs1 _
   have HFA : Hid (∀ W, Below w1.heap.size w1 W -> Calls Tryz.prog 90 #[.slice aa s.attrs.length ac] W (FrP W 128 2 s.attrs.length (attrCells s.attrs))) := fun W hb => freshA_any W R aa s.attrs ac (HAT.out.to (fun _ h => h) (fun b o hb' => hb.cell (p := ⟨b, o, none⟩) (by have := HR.out b hb'; show b < w1.heap.size; omega))) hal
   have HFH : Hid (∀ W, Below w1.heap.size w1 W -> Calls Tryz.prog 35 #[.slice ka s.kids.length kc] W (FrP W 42 1 s.kids.length (hvals s.kids))) := fun W hb => freshH_any W R ka s.kids kc (HKT.out.to (fun _ h => h) (fun b o hb' => hb.cell (p := ⟨b, o, none⟩) (by have := HR.out b hb'; show b < w1.heap.size; omega))) hkl
   have HB0 : Hid (Below w1.heap.size w1 (w1.alloc (.cells #[.int .u32 (s.gen : Int), .bool s.live, .int .i64 s.kind, .string s.name, .slice aa s.attrs.length ac, .string s.text, .int .u64 (s.parent : Int), .slice ka s.kids.length kc] 75))) := below_new' w1 _
   unfold slv
   clear hb1 hat hkt hcall
   go_upto_region 6 with fail
   go_cut [] (fun wx => ∃ p : Value × Value, Hid (IsCells wx w1.heap.size (slotCells s p).toArray) /\ Hid (Below wr.heap.size wr wx) /\ Hid (OwV wx wr.heap.size s p))
   case first =>
    generalize hW0 : w1.alloc (.cells #[.int .u32 (s.gen : Int), .bool s.live, .int .i64 s.kind, .string s.name, .slice aa s.attrs.length ac, .string s.text, .int .u64 (s.parent : Int), .slice ka s.kids.length kc] 75) = W0 at *
    have hs0 : W0.heap.size = w1.heap.size + 1 := by rw [<- hW0]; simp
    clear hW0
    have hc4 : W0.cell? ⟨w1.heap.size, 4, none⟩ = some (.slice aa s.attrs.length ac) := HX.out.cell 4
    have hc7 : W0.cell? ⟨w1.heap.size, 7, none⟩ = some (.slice ka s.kids.length kc) := HX.out.cell 7
    have hf4 : W0.frozen? ⟨w1.heap.size, 4, none⟩ = false := HX.out.frozen 4
    have hf7 : W0.frozen? ⟨w1.heap.size, 7, none⟩ = false := HX.out.frozen 7
    have hfa := HFA.out W0.drew HB0.out.drew
    go_region_with
     (first
      | (go_at_call 90; refine hfa.mono ?_; rintro e w2 ⟨va, vc, rfl, hown2, hb2⟩; have hb2' : Below W0.heap.size W0 w2 := (Below.refl _ _).drew.trans hb2; have hs2 := hb2'.size; have HX2 : Hid (IsCells w2 w1.heap.size #[.int .u32 (s.gen : Int), .bool s.live, .int .i64 s.kind, .string s.name, .slice aa s.attrs.length ac, .string s.text, .int .u64 (s.parent : Int), .slice ka s.kids.length kc]) := HX.out.of_block (hb2'.block _ (by omega)); have d4 : w2.cell? ⟨w1.heap.size, 4, none⟩ = some (.slice aa s.attrs.length ac) := HX2.out.cell 4; have d7 : w2.cell? ⟨w1.heap.size, 7, none⟩ = some (.slice ka s.kids.length kc) := HX2.out.cell 7; have hfh := HFH.out w2 (HB0.out.trans (hb2'.mono (by omega))); have HO2 : Hid (w2.ownsRow W0.heap.size 128 2 (.slice va s.attrs.length vc) s.attrs.length (attrCells s.attrs)) := hown2; have HB2 : Hid (Below W0.heap.size W0 w2) := hb2'; clear hown2 hb2 hb2')
      | (go_at_call 35; refine hfh.mono ?_; rintro e w3 ⟨vb, vd, rfl, hown3, hb3⟩; have hs3 := hb3.size; have HX3 : Hid (IsCells w3 w1.heap.size #[.int .u32 (s.gen : Int), .bool s.live, .int .i64 s.kind, .string s.name, .slice aa s.attrs.length ac, .string s.text, .int .u64 (s.parent : Int), .slice ka s.kids.length kc]) := HX2.out.of_block (hb3.block _ (by omega)); have e4 : w3.cell? ⟨w1.heap.size, 4, none⟩ = some (.slice aa s.attrs.length ac) := HX3.out.cell 4; have e7 : w3.cell? ⟨w1.heap.size, 7, none⟩ = some (.slice ka s.kids.length kc) := HX3.out.cell 7; have q4 : w3.frozen? ⟨w1.heap.size, 4, none⟩ = false := HX3.out.frozen 4; have q7 : w3.frozen? ⟨w1.heap.size, 7, none⟩ = false := HX3.out.frozen 7; have HO3 : Hid (w3.ownsRow w2.heap.size 42 1 (.slice vb s.kids.length vd) s.kids.length (hvals s.kids)) := hown3; have HB3 : Hid (Below w2.heap.size w2 w3) := hb3; clear hown3 hb3))
    all_goals
     go_wp2_with fail
     go_meet
     exact ⟨(.slice va s.attrs.length vc, .slice vb s.kids.length vd), cy_pair HBX.out HX3.out HB2.out HB3.out HO2.out HO3.out hs0 hs1⟩
   case rest =>
    obtain ⟨p, HXc, HBc, HVc⟩ := hcut
    obtain ⟨av, an, ak, kv, kn, kk, rfl⟩ : ∃ av an ak kv kn kk, p = (.slice av an ak, .slice kv kn kk) := by
     obtain ⟨pa, pk⟩ := p
     obtain ⟨aa, ac, e1⟩ := own_slice HVc.out.1
     obtain ⟨ka, kc, e2⟩ := own_slice HVc.out.2.1
     simp only at e1 e2
     exact ⟨_, _, _, _, _, _, by rw [e1, e2]⟩
    have HST2 : Hid (CyS w (set8 wc w.heap.size (i * 8) (slotCells s (.slice av an ak, .slice kv kn kk))) S (i + 1) (L ++ [(.slice av an ak, .slice kv kn kk)]) (lset xs (i * 8) (slotCells s (.slice av an ak, .slice kv kn kk)))) := hst.out.step HS.out HBc.out HVc.out
    have hcs : ∀ o, wc.cell? ⟨w1.heap.size, o, none⟩ = (slotCells s (.slice av an ak, .slice kv kn kk)).toArray[o]? := HXc.out.cell
    have x0 := hcs 0
    have x1 := hcs 1
    have x2 := hcs 2
    have x3 := hcs 3
    have x4 := hcs 4
    have x5 := hcs 5
    have x6 := hcs 6
    have x7 := hcs 7
    simp [slotCells] at x0 x1 x2 x3 x4 x5 x6 x7
    have hown := own_of_block (w' := wc) hst.out.own (fun k hk => HBc.out.block k (own_block_lt hst.out.own k hk).2)
    have hgl := (own_block_lt hown w.heap.size rfl).2
    have hfz := (own_wr hown (g := w.heap.size) rfl).frozen
    have hgc : ∀ j, j < 8 -> ∃ u, wc.cell? ⟨w.heap.size, i * 8 + j, none⟩ = some u := fun j hj => by
     obtain ⟨u, hu⟩ : ∃ u, xs[i * 8 + j]? = some u := ⟨_, List.getElem?_eq_getElem (by rw [hown.1]; omega)⟩
     obtain ⟨g', e', _, _, hc⟩ := (row_cell hown).2.2 _ u hu
     cases e'
     exact ⟨u, hc⟩
    obtain ⟨u0, g0⟩ := hgc 0 (by omega)
    obtain ⟨u1, g1⟩ := hgc 1 (by omega)
    obtain ⟨u2, g2⟩ := hgc 2 (by omega)
    obtain ⟨u3, g3⟩ := hgc 3 (by omega)
    obtain ⟨u4, g4⟩ := hgc 4 (by omega)
    obtain ⟨u5, g5⟩ := hgc 5 (by omega)
    obtain ⟨u6, g6⟩ := hgc 6 (by omega)
    obtain ⟨u7, g7⟩ := hgc 7 (by omega)
    simp only [Nat.add_zero] at g0
    have hi1 : (i : Int) < ((S.length : Nat) : Int) := by omega
    have hi0 : (0 : Int) <= (i : Int) := by omega
    clear hcs hown hgc HXc HBc HVc HX HBX HFA HFH HB0 HAT HKT HB1 HS
    go_wp2
    go_roundw
    case rel => exact ⟨i + 1, _, _, by omega, by go_num, HST2⟩
    case measure => simp [intOf]; omega
  ·have hie : i = S.length := by omega
   subst hie
   clear HCL hlt
   go_wp2
   go_ret
   exact ⟨L, xs, rfl, hst.out⟩
theorem alls_mem {D : Dc} (hw : WF D) {lv : Nat -> Nat} (hl : Lev D lv) : ∀ (m : Nat) (h : Nat) (s : Sl), sl D h = some s -> lv h <= m -> h ∈ allR D /\ ∀ x, x ∈ allH D h -> x ∈ allR D
 | m, h, s, e, hm => by
  have hself : h ∈ allH D h := by rw [allH_step hw e]; simp
  rcases hl.par e with ⟨h1, h2⟩ | ⟨q, h1, h2⟩
  ·have hup := hw.up h s e
   rw [h1] at hup
   have hr : h ∈ D.roots := by simpa [lst] using hup
   have hall : ∀ x, x ∈ allH D h -> x ∈ allR D := fun x hx => List.mem_flatMap.2 ⟨h, hr, hx⟩
   exact ⟨hall h hself, hall⟩
  ·cases m with
   | zero => omega
   | succ m =>
    obtain ⟨-, ih⟩ := alls_mem hw hl m s.parent q h1 (by omega)
    have hall : ∀ x, x ∈ allH D h -> x ∈ allR D := fun x hx => ih x (by
     rw [allH_step hw h1]
     exact List.mem_cons_of_mem _ (List.mem_flatMap.2 ⟨h, hw.up h s e, hx⟩))
    exact ⟨hall h hself, hall⟩
theorem nodup_le {α : Type} [DecidableEq α] : ∀ {l m : List α}, l.Nodup -> (∀ x ∈ l, x ∈ m) -> l.length <= m.length
 | [], m, _, _ => Nat.zero_le _
 | a :: r, m, hn, hs => by
  rw [List.nodup_cons] at hn
  have ha : a ∈ m := hs a (by simp)
  have h1 : r.length <= (m.erase a).length := nodup_le hn.2 (fun x hx => by
   have hne : x ≠ a := fun e => hn.1 (e ▸ hx)
   exact (List.mem_erase_of_ne hne).2 (hs x (by simp [hx])))
  rw [List.length_erase_of_mem ha] at h1
  have : 0 < m.length := List.length_pos_of_mem ha
  simp
  omega
def hndL : List Sl -> Nat -> List Nat
 | [], _ => []
 | s :: r, i => if s.live then hnd i s.gen :: hndL r (i + 1) else hndL r (i + 1)
theorem hndL_len : ∀ (S : List Sl) (i : Nat), (hndL S i).length = cnt Sl.live S
 | [], i => rfl
 | s :: r, i => by
  unfold hndL cnt
  have := hndL_len r (i + 1)
  unfold cnt at this
  cases h : s.live <;> simp [h, this]
theorem hndL_mem : ∀ (S : List Sl) (i h : Nat), h ∈ hndL S i ↔ ∃ k s, S[k]? = some s /\ s.live = true /\ h = hnd (i + k) s.gen
 | [], i, h => by simp [hndL]
 | s :: r, i, h => by
  have ih := hndL_mem r (i + 1) h
  unfold hndL
  constructor
  ·intro hh
   cases hl : s.live with
   | true =>
    rw [hl, if_pos rfl, List.mem_cons] at hh
    rcases hh with rfl | hh
    ·exact ⟨0, s, rfl, hl, rfl⟩
    ·obtain ⟨k, s', h1, h2, h3⟩ := ih.1 hh
     exact ⟨k + 1, s', by simpa using h1, h2, by rw [h3]; congr 1; omega⟩
   | false =>
    rw [hl, if_neg (by decide)] at hh
    obtain ⟨k, s', h1, h2, h3⟩ := ih.1 hh
    exact ⟨k + 1, s', by simpa using h1, h2, by rw [h3]; congr 1; omega⟩
  ·rintro ⟨k, s', h1, h2, h3⟩
   cases k with
   | zero =>
    simp at h1
    subst h1
    rw [if_pos h2, h3]
    simp
   | succ k =>
    have hin : h ∈ hndL r (i + 1) := ih.2 ⟨k, s', by simpa using h1, h2, by rw [h3]; congr 1; omega⟩
    split
    ·exact List.mem_cons_of_mem _ hin
    ·exact hin
theorem hndL_nodup : ∀ (S : List Sl) (i : Nat), i + S.length <= 4294967295 -> (hndL S i).Nodup
 | [], i, _ => by simp [hndL]
 | s :: r, i, hb => by
  have hb' : i + 1 + r.length <= 4294967295 := by simp at hb; omega
  have ih := hndL_nodup r (i + 1) hb'
  unfold hndL
  split
  ·rw [List.nodup_cons]
   refine ⟨fun hin => ?_, ih⟩
   obtain ⟨k, s', h1, h2, h3⟩ := (hndL_mem r (i + 1) _).1 hin
   have hk := (List.getElem?_eq_some_iff.1 h1).1
   unfold hnd at h3
   omega
  ·exact ih
theorem all_count {D : Dc} (hw : WF D) : (allR D).length = cnt Sl.live D.S := by
 have hlen := hw.fits.len
 obtain ⟨lv, hl⟩ := hw.lev
 rw [<- hndL_len D.S 0]
 refine Nat.le_antisymm (nodup_le (allR_nodup hw) (fun x hx => ?_)) (nodup_le (hndL_nodup D.S 0 (by omega)) (fun x hx => ?_))
 ·obtain ⟨s, hs⟩ := allR_live hw x hx
  obtain ⟨i, h1, h2, h3, h4⟩ := sl_live hs
  exact (hndL_mem D.S 0 x).2 ⟨i, s, h2, h3, by rw [Nat.zero_add]; exact h4⟩
 ·obtain ⟨k, s, h1, h2, h3⟩ := (hndL_mem D.S 0 x).1 hx
  have hk := (List.getElem?_eq_some_iff.1 h1).1
  rw [Nat.zero_add] at h3
  have hsl : sl D x = some s := by unfold sl; rw [h3, atI_hnd h1 h2 (by omega)]; exact h1
  exact (alls_mem hw hl (lv x) x s hsl (Nat.le_refl _)).1
theorem info78 : (Tryz.prog.info? 78).map (fun i => (i.zero.map Value.cells, i.size, i.bytes)) = some (some #[.int .u32 0, .bool false, .int .i64 0, .string ⟨#[]⟩, .slice none 0 0, .string ⟨#[]⟩, .int .u64 0, .slice none 0 0, .bool false], 9, 112) := by kernel_rfl
theorem made9 (w : World) (n : Nat) (hn : n <= 4096) : ∃ mc : Array Value, (Instr.makeSlice 70 (.int .i64 (n : Int)) (.int .i64 (n : Int))).run Tryz.prog w = .ok (.slice (some ⟨w.heap.size, 0, none⟩) n n) (w.alloc (.cells mc 78)) /\ mc.size = n * 9 /\ ∀ k, k < n -> mc[k * 9 + 8]? = some (.bool false) := by
 have hi := info78
 cases hx : Tryz.prog.info? 78 with
 | none => rw [hx] at hi; cases hi
 | some i =>
  rw [hx] at hi
  simp only [Option.map_some, Option.some.injEq, Prod.mk.injEq] at hi
  obtain ⟨hz, hs, hb⟩ := hi
  cases hzz : i.zero with
  | none => rw [hzz] at hz; cases hz
  | some z =>
   rw [hzz] at hz
   simp only [Option.map_some, Option.some.injEq] at hz
   have hr := run_make (P := Tryz.prog) w 70 78 i z Tryz.underlying70 hx hzz .i64 .i64 n n (by omega) (Int.le_refl _) (by rw [hb]; omega) (by omega)
   simp only [Int.toNat_natCast] at hr
   refine ⟨_, hr, by rw [size_madeCells, hs], fun k hk => ?_⟩
   rw [hs, hz]
   have hlt : k * 9 + 8 < n * 9 := by omega
   simp [madeCells, hlt]
def aset (xs : Array Value) (j : Nat) : List Value -> Array Value
 | [] => xs
 | x :: r => aset (xs.setIfInBounds j x) (j + 1) r
theorem cells_set8 {g : Nat} : ∀ (l : List Value) (w : World) (j : Nat) (xs : Array Value), IsCells w g xs -> IsCells (set8 w g j l) g (aset xs j l)
 | [], w, j, xs, h => h
 | x :: r, w, j, xs, h => cells_set8 r _ _ _ (h.set j x)
theorem aset_size : ∀ (l : List Value) (xs : Array Value) (j : Nat), (aset xs j l).size = xs.size
 | [], xs, j => rfl
 | x :: r, xs, j => by rw [aset, aset_size r]; simp
theorem aset_out : ∀ (l : List Value) (xs : Array Value) (j k : Nat), k < j \/ j + l.length <= k -> (aset xs j l)[k]? = xs[k]?
 | [], xs, j, k, h => rfl
 | x :: r, xs, j, k, h => by
  simp only [List.length_cons] at h
  rw [aset, aset_out r _ _ _ (by omega), Array.getElem?_setIfInBounds_ne (by omega)]
theorem aset_in : ∀ (l : List Value) (xs : Array Value) (j k : Nat), k < l.length -> j + l.length <= xs.size -> (aset xs j l)[j + k]? = l[k]?
 | [], xs, j, k, h, h2 => by simp at h
 | x :: r, xs, j, 0, h, h2 => by
  simp only [List.length_cons] at h2
  rw [aset, aset_out r _ _ _ (by omega), Nat.add_zero, Array.getElem?_setIfInBounds_self_of_lt (by omega)]
  rfl
 | x :: r, xs, j, k + 1, h, h2 => by
  simp only [List.length_cons] at h h2
  rw [aset, show j + (k + 1) = j + 1 + k from by omega, aset_in r _ _ _ (by omega) (by simp; omega)]
  rfl
structure LdS (w wr : World) (bx : Array Value) (rb g : Nat) (S : List Sl) (L : List (Value × Value)) (i : Nat) : Prop where
 box : IsCells wr w.heap.size bx
 head : IsCells wr rb #[.slice (some ⟨g, 0, none⟩) S.length S.length, .int .i64 0]
 row : ∃ cur, IsCells wr g cur /\ cur.size = S.length * 9 /\ (∀ (k : Nat) (s : Sl) (p : Value × Value), k < i -> S[k]? = some s -> L[k]? = some p -> ∀ j u, (slotCells s p)[j]? = some u -> cur[k * 9 + j]? = some u) /\ ∀ k, k < S.length -> cur[k * 9 + 8]? = some (.bool false)
 bel : Below w.heap.size w wr
 ne : g = w.heap.size + 1 /\ rb = w.heap.size + 1 + 1
theorem LdS.step {w wr w5 : World} {bx : Array Value} {rb g : Nat} {S : List Sl} {L : List (Value × Value)} {i : Nat} (h : LdS w wr bx rb g S L i) {s : Sl} {p : Value × Value} (hs : S[i]? = some s) (hp : L[i]? = some p) (hb : Below wr.heap.size wr w5) : LdS w (set8 w5 g (i * 9) (slotCells s p)) bx rb g S L (i + 1) := by
 obtain ⟨cur, c1, c2, c3, c4⟩ := h.row
 have ht := turn_set8 (g := g) (slotCells s p) w5 (i * 9)
 have hne := h.ne
 have hi := (List.getElem?_eq_some_iff.1 hs).1
 have hsl : (slotCells s p).length = 8 := rfl
 have hbl := h.bel.size
 have hss := hb.size
 refine ⟨(h.box.of_block (hb.block _ h.box.lt)).of_block (ht.block _ (by have := h.box.lt; omega) (by omega)), (h.head.of_block (hb.block _ h.head.lt)).of_block (ht.block _ (by have := h.head.lt; omega) (by omega)), ⟨_, cells_set8 _ _ _ _ (c1.of_block (hb.block _ c1.lt)), by rw [aset_size, c2], fun k s' p' hk hs' hp' j u hu => ?_, fun k hk => ?_⟩, (h.bel.trans (hb.mono hbl)).trans (ht.below (by omega) (fun k hk => by omega)), h.ne⟩
 ·have hj := slotCells_lt hu
  by_cases e : k = i
  ·subst e
   rw [hs] at hs'
   rw [hp] at hp'
   cases hs'
   cases hp'
   rw [aset_in _ _ _ _ (by rw [hsl]; exact hj) (by rw [hsl, c2]; omega)]
   exact hu
  ·rw [aset_out _ _ _ _ (by rw [hsl]; omega)]
   exact c3 k s' p' (by omega) hs' hp' j u hu
 ·rw [aset_out _ _ _ _ (by rw [hsl]; omega)]
  exact c4 k hk
theorem cnt_take {S : List Sl} {i : Nat} {s : Sl} (h : S[i]? = some s) : cnt Sl.live (S.take (i + 1)) = cnt Sl.live (S.take i) + if s.live = true then 1 else 0 := by
 rw [take_more h]
 unfold cnt
 rw [List.filter_append]
 cases hl : s.live <;> simp [hl]
end Go.Proofs.YtnhajpeijkbbeaaGreat
