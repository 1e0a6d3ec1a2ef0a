/- Delete of the program. -/
import Derived.Test.YtmapmkogjhinmaaGreatA13
import Derived.Test.YtmapmkogjhinmaaGreatA12
import Derived.Lib.Bytealg
import Derived.Shelf.Abstract
import Derived.Test.YtmapmkogjhinmaaGreatA10
namespace Go.Proofs.YtmapmkogjhinmaaGreat
open Go.RowKit
set_option linter.unusedVariables false
set_option linter.unusedSimpArgs false
structure PdT (w : World) (ro : Nat -> Nat) (db : Nat) (D : Dc) (z : Int) (sa : Option Addr) (scap : Nat) (ra : Option Addr) (rcap : Nat) (L : List (Value × Value)) : Prop where
 head : IsCells w db #[.slice sa D.S.length scap, .slice ra D.roots.length rcap, .int .i64 z]
 slots : w.ownsRow 0 90 8 (.slice sa D.S.length scap) D.S.length (rowOf D.S L)
 roots : w.ownsRow 0 32 1 (.slice ra D.roots.length rcap) D.roots.length (hvals D.roots)
 len : L.length = D.S.length
 vals : ∀ (i : Nat) (s : Sl) (p : Value × Value), D.S[i]? = some s -> L[i]? = some p -> w.ownsRow 0 52 2 p.1 s.attrs.length (attrCells s.attrs) /\ w.ownsRow 0 32 1 p.2 s.kids.length (hvals s.kids)
 rdb : ro db = 1
 rs : ∀ b, (Value.slice sa D.S.length scap).ownBlock = some b -> ro b = 2
 rr : ∀ b, (Value.slice ra D.roots.length rcap).ownBlock = some b -> ro b = 3
 rat : ∀ (i : Nat) (p : Value × Value) (b : Nat), L[i]? = some p -> p.1.ownBlock = some b -> ro b = 2 * i + 4
 rk : ∀ (i : Nat) (p : Value × Value) (b : Nat), L[i]? = some p -> p.2.ownBlock = some b -> ro b = 2 * i + 5
 lt : ∀ b, ro b ≠ 0 -> b < w.heap.size
section
variable {w w' : World} {ro : Nat -> Nat} {db : Nat} {D : Dc} {z : Int} {sa : Option Addr} {scap : Nat} {ra : Option Addr} {rcap : Nat} {L : List (Value × Value)}
theorem PdS.toT (h : PdS w ro db D sa scap ra rcap L) : PdT w ro db D (cnt Sl.live D.S) sa scap ra rcap L := ⟨h.head, h.slots, h.roots, h.len, h.vals, h.rdb, h.rs, h.rr, h.rat, h.rk, h.lt⟩
theorem PdT.toS (h : PdT w ro db D z sa scap ra rcap L) (hz : z = (cnt Sl.live D.S : Int)) : PdS w ro db D sa scap ra rcap L := ⟨by rw [<- hz]; exact h.head, h.slots, h.roots, h.len, h.vals, h.rdb, h.rs, h.rr, h.rat, h.rk, h.lt⟩
theorem PdT.of_blocks (h : PdT w ro db D z sa scap ra rcap L) (hb : ∀ b, ro b ≠ 0 -> w'.heap[b]? = w.heap[b]?) (hs : w.heap.size <= w'.heap.size) : PdT w' ro db D z sa scap ra rcap L := by
 refine ⟨h.head.of_block (hb db (by rw [h.rdb]; omega)), own_of_block h.slots (fun k hk => hb k (by rw [h.rs k hk]; omega)), own_of_block h.roots (fun k hk => hb k (by rw [h.rr k hk]; omega)), h.len, fun i s p hs' hp => ?_, h.rdb, h.rs, h.rr, h.rat, h.rk, fun b hb' => Nat.lt_of_lt_of_le (h.lt b hb') hs⟩
 obtain ⟨h1, h2⟩ := h.vals i s p hs' hp
 exact ⟨own_of_block h1 (fun k hk => hb k (by rw [h.rat i p k hp hk]; omega)), own_of_block h2 (fun k hk => hb k (by rw [h.rk i p k hp hk]; omega))⟩
theorem PdT.below (h : PdT w ro db D z sa scap ra rcap L) (hb : Below w.heap.size w w') : PdT w' ro db D z sa scap ra rcap L :=
 h.of_blocks (fun b hb' => hb.block b (h.lt b hb')) hb.size
theorem PdT.count (h : PdT w ro db D z sa scap ra rcap L) (z' : Int) : PdT (w.setCell ⟨db, 2, none⟩ (.int .i64 z')) ro db D z' sa scap ra rcap L := by
 have hblk : ∀ b, ro b ≠ 1 -> (w.setCell ⟨db, 2, none⟩ (.int .i64 z')).heap[b]? = w.heap[b]? := fun b hb => Below.heap_setCell _ _ _ _ (by show b ≠ db; rintro rfl; exact hb h.rdb)
 refine ⟨by have := h.head.set 2 (.int .i64 z'); simpa using this, own_of_block h.slots (fun k hk => hblk k (by rw [h.rs k hk]; omega)), own_of_block h.roots (fun k hk => hblk k (by rw [h.rr k hk]; omega)), h.len, fun i s p hs' hp => ?_, h.rdb, h.rs, h.rr, h.rat, h.rk, fun b hb' => by simpa [World.setCell] using h.lt b hb'⟩
 obtain ⟨h1, h2⟩ := h.vals i s p hs' hp
 exact ⟨own_of_block h1 (fun k hk => hblk k (by rw [h.rat i p k hp hk]; omega)), own_of_block h2 (fun k hk => hblk k (by rw [h.rk i p k hp hk]; omega))⟩
theorem PdT.slotVals (h : PdT w ro db D z sa scap ra rcap L) {i : Nat} {s : Sl} {p : Value × Value} (hs : D.S[i]? = some s) (hp : L[i]? = some p) : SlotVals w (fun b => ro b ≠ 0) s p := by
 obtain ⟨h1, h2⟩ := h.vals i s p hs hp
 obtain ⟨aa, ac, e1, l1, v1⟩ := attrs_row' (R := fun b => ro b ≠ 0) h1 (fun b hb => by rw [h.rat i p b hp hb]; omega)
 obtain ⟨ka, kc, e2, l2, v2⟩ := hands_row (R := fun b => ro b ≠ 0) h2 (fun b hb => by rw [h.rk i p b hp hb]; omega)
 exact ⟨aa, ac, ka, kc, by rw [<- e1, <- e2], l1, l2, v1, v2⟩
theorem PdT.view (h : PdT w ro db D z sa scap ra rcap L) : View w (fun b => ro b ≠ 0) db D := by
 obtain ⟨h1, _, h3⟩ := slots_row (R := fun b => ro b ≠ 0) h.len h.slots (fun i s p hs hp => h.slotVals hs hp) (fun g e _ _ => by subst e; rw [h.rs g rfl]; omega)
 obtain ⟨a, cap, e, l, hr⟩ := hands_row (R := fun b => ro b ≠ 0) h.roots (fun b hb => by rw [h.rr b hb]; omega)
 simp only [Value.slice.injEq, true_and] at e
 obtain ⟨rfl, rfl⟩ := e
 exact ⟨by show ro db ≠ 0; rw [h.rdb]; omega, h.lt, ⟨sa, scap, by rw [h.head.cell]; rfl, h3, h1⟩, ⟨ra, rcap, by rw [h.head.cell]; rfl, l, hr⟩⟩
theorem PdT.slot (h : PdT w ro db D z sa scap ra rcap L) {i : Nat} {s : Sl} (hs : D.S[i]? = some s) :
  ∃ g p, sa = some ⟨g, 0, none⟩ /\ ro g = 2 /\ L[i]? = some p /\ D.S.length <= scap /\ w.cell? ⟨db, 0, none⟩ = some (.slice (some ⟨g, 0, none⟩) D.S.length scap) /\ ∀ j u, (slotCells s p)[j]? = some u -> w.cell? ⟨g, i * 8 + j, none⟩ = some u /\ w.frozen? ⟨g, i * 8 + j, none⟩ = false := by
 have hi := (List.getElem?_eq_some_iff.1 hs).1
 obtain ⟨p, hp⟩ : ∃ p, L[i]? = some p := ⟨_, List.getElem?_eq_getElem (by rw [h.len]; exact hi)⟩
 obtain ⟨h1, h2, h3⟩ := row_cell h.slots
 obtain ⟨g, e, _, _, _⟩ := h3 (i * 8 + 0) _ (by rw [rowOf_get hs hp (by omega)]; rfl)
 subst e
 refine ⟨g, p, rfl, h.rs g rfl, hp, h1, by rw [h.head.cell]; rfl, fun j u hu => ?_⟩
 have hj8 : j < 8 := (List.getElem?_eq_some_iff.1 hu).1
 obtain ⟨g', e1, _, _, e2⟩ := h3 (i * 8 + j) u (by rw [rowOf_get hs hp hj8]; exact hu)
 cases e1
 exact ⟨e2, own_frozen h.slots _⟩
end
section
variable {w : World} {ro : Nat -> Nat} {db : Nat} {D : Dc} {z : Int} {g scap : Nat} {ra : Option Addr} {rcap : Nat} {L : List (Value × Value)}
theorem PdT.cell (h : PdT w ro db D z (some ⟨g, 0, none⟩) scap ra rcap L) {i j : Nat} {s s' : Sl} {p p' : Value × Value} {u : Value} (hs : D.S[i]? = some s) (hp : L[i]? = some p) (hj : j < 8) (hc : slotCells s' p' = (slotCells s p).set j u)
  (hv : w.ownsRow 0 52 2 p'.1 s'.attrs.length (attrCells s'.attrs) /\ w.ownsRow 0 32 1 p'.2 s'.kids.length (hvals s'.kids)) (hq1 : ∀ b, p'.1.ownBlock = some b -> ro b = 2 * i + 4) (hq2 : ∀ b, p'.2.ownBlock = some b -> ro b = 2 * i + 5) :
  PdT (w.setCell ⟨g, i * 8 + j, none⟩ u) ro db { D with S := D.S.set i s' } z (some ⟨g, 0, none⟩) scap ra rcap (L.set i p') := by
 have hg : ro g = 2 := h.rs g rfl
 have hi := (List.getElem?_eq_some_iff.1 hs).1
 have hblk : ∀ b, ro b ≠ 2 -> (w.setCell ⟨g, i * 8 + j, none⟩ u).heap[b]? = w.heap[b]? := fun b hb => Below.heap_setCell _ _ _ _ (by show b ≠ g; rintro rfl; exact hb hg)
 refine ⟨?_, ?_, own_of_block h.roots (fun k hk => hblk k (by rw [h.rr k hk]; omega)), by simp [h.len], fun k x y hx hy => ?_, h.rdb, by simpa using h.rs, h.rr, fun k y b hy hb => ?_, fun k y b hy hb => ?_, fun b hb => by simpa [World.setCell] using h.lt b hb⟩
 ·have := h.head.of_block (hblk db (by rw [h.rdb]; omega))
  simpa using this
 ·have := own_set h.slots (i * 8 + j) u
  rw [<- rowOf_set h.len hs hp hj hc] at this
  simpa using this
 ·by_cases hk : k = i
  ·subst hk
   rw [List.getElem?_set_self hi] at hx
   rw [List.getElem?_set_self (by rw [h.len]; exact hi)] at hy
   cases hx
   cases hy
   exact ⟨own_of_block hv.1 (fun b hb => hblk b (by rw [hq1 b hb]; omega)), own_of_block hv.2 (fun b hb => hblk b (by rw [hq2 b hb]; omega))⟩
  ·rw [List.getElem?_set_ne (by omega)] at hx hy
   obtain ⟨v1, v2⟩ := h.vals k x y hx hy
   exact ⟨own_of_block v1 (fun b hb => hblk b (by rw [h.rat k y b hy hb]; omega)), own_of_block v2 (fun b hb => hblk b (by rw [h.rk k y b hy hb]; omega))⟩
 ·by_cases hk : k = i
  ·subst hk
   rw [List.getElem?_set_self (by rw [h.len]; exact hi)] at hy
   cases hy
   exact hq1 b hb
  ·rw [List.getElem?_set_ne (by omega)] at hy
   exact h.rat k y b hy hb
 ·by_cases hk : k = i
  ·subst hk
   rw [List.getElem?_set_self (by rw [h.len]; exact hi)] at hy
   cases hy
   exact hq2 b hb
  ·rw [List.getElem?_set_ne (by omega)] at hy
   exact h.rk k y b hy hb
theorem PdT.cell' {i : Nat} {s : Sl} {p : Value × Value} (h : PdT w ro db { D with S := D.S.set i s } z (some ⟨g, 0, none⟩) scap ra rcap (L.set i p)) {j : Nat} {s' : Sl} {p' : Value × Value} {u : Value} (hi : i < D.S.length) (hl : L.length = D.S.length) (hj : j < 8) (hc : slotCells s' p' = (slotCells s p).set j u)
  (hv : w.ownsRow 0 52 2 p'.1 s'.attrs.length (attrCells s'.attrs) /\ w.ownsRow 0 32 1 p'.2 s'.kids.length (hvals s'.kids)) (hq1 : ∀ b, p'.1.ownBlock = some b -> ro b = 2 * i + 4) (hq2 : ∀ b, p'.2.ownBlock = some b -> ro b = 2 * i + 5) :
  PdT (w.setCell ⟨g, i * 8 + j, none⟩ u) ro db { D with S := D.S.set i s' } z (some ⟨g, 0, none⟩) scap ra rcap (L.set i p') := by
 have := h.cell (i := i) (s := s) (p := p) (List.getElem?_set_self hi) (List.getElem?_set_self (by omega)) hj hc hv hq1 hq2
 simpa only [List.set_set] using this
theorem two_rows {i k : Nat} {p : Value × Value} {A : List (ByteArray × ByteArray)} {K : List Nat} (hg : ro g = 2) (h1 : w.ownsRow 0 52 2 p.1 A.length (attrCells A) /\ w.ownsRow 0 32 1 p.2 K.length (hvals K)) (hq1 : ∀ b, p.1.ownBlock = some b -> ro b = 2 * i + 4) (hq2 : ∀ b, p.2.ownBlock = some b -> ro b = 2 * i + 5) (u : Value) :
  (w.setCell ⟨g, k, none⟩ u).ownsRow 0 52 2 p.1 A.length (attrCells A) /\ (w.setCell ⟨g, k, none⟩ u).ownsRow 0 32 1 p.2 K.length (hvals K) :=
 ⟨own_of_block h1.1 (fun b hb => Below.heap_setCell _ _ _ _ (by show b ≠ g; rintro rfl; have := hq1 b hb; omega)), own_of_block h1.2 (fun b hb => Below.heap_setCell _ _ _ _ (by show b ≠ g; rintro rfl; have := hq2 b hb; omega))⟩
theorem PdT.kill (h : PdT w ro db D z (some ⟨g, 0, none⟩) scap ra rcap L) {i : Nat} {s : Sl} (hs : D.S[i]? = some s) : ∃ L', PdT (killW w g i s.gen) ro db { D with S := D.S.set i (zeroSl s.gen) } z (some ⟨g, 0, none⟩) scap ra rcap L' := by
 have hi := (List.getElem?_eq_some_iff.1 hs).1
 have hl := h.len
 have hg : ro g = 2 := h.rs g rfl
 obtain ⟨p, hp⟩ : ∃ p, L[i]? = some p := ⟨_, List.getElem?_eq_getElem (by rw [h.len]; exact hi)⟩
 have v0 := h.vals i s p hs hp
 have a0 : ∀ b, p.1.ownBlock = some b -> ro b = 2 * i + 4 := fun b hb => h.rat i p b hp hb
 have b0 : ∀ b, p.2.ownBlock = some b -> ro b = 2 * i + 5 := fun b hb => h.rk i p b hp hb
 have n1 : ∀ b, (Value.slice none 0 0).ownBlock = some b -> ro b = 2 * i + 4 := fun b hb => by cases hb
 have n2 : ∀ b, (Value.slice none 0 0).ownBlock = some b -> ro b = 2 * i + 5 := fun b hb => by cases hb
 have t := fun (w : World) (q : Value × Value) (A : List (ByteArray × ByteArray)) (K : List Nat) (v : w.ownsRow 0 52 2 q.1 A.length (attrCells A) /\ w.ownsRow 0 32 1 q.2 K.length (hvals K)) (x1 : ∀ b, q.1.ownBlock = some b -> ro b = 2 * i + 4) (x2 : ∀ b, q.2.ownBlock = some b -> ro b = 2 * i + 5) (k : Nat) (u : Value) => two_rows (w := w) (ro := ro) (g := g) (i := i) (k := k) (p := q) (A := A) (K := K) hg v x1 x2 u
 have h0 := h.cell (j := 0) (s' := s) (p' := p) (u := .int .u32 (s.gen : Int)) hs hp (by omega) rfl v0 a0 b0
 have v1 := t _ p _ _ v0 a0 b0 (i * 8 + 0) (.int .u32 (s.gen : Int))
 have h1 := h0.cell' (j := 1) (s' := { s with live := false }) (p' := p) (u := .bool false) hi hl (by omega) rfl v1 a0 b0
 have v2 := t _ p _ _ v1 a0 b0 (i * 8 + 1) (.bool false)
 have h2 := h1.cell' (j := 2) (s' := { s with live := false, kind := 0 }) (p' := p) (u := .int .i64 0) hi hl (by omega) rfl v2 a0 b0
 have v3 := t _ p _ _ v2 a0 b0 (i * 8 + 2) (.int .i64 0)
 have h3 := h2.cell' (j := 3) (s' := { s with live := false, kind := 0, name := ⟨#[]⟩ }) (p' := p) (u := .string ⟨#[]⟩) hi hl (by omega) rfl v3 a0 b0
 have v4 := t _ p _ _ v3 a0 b0 (i * 8 + 3) (.string ⟨#[]⟩)
 have h4 := h3.cell' (j := 4) (s' := { s with live := false, kind := 0, name := ⟨#[]⟩, attrs := [] }) (p' := (.slice none 0 0, p.2)) (u := .slice none 0 0) hi hl (by omega) rfl ⟨own_nil _ _ _ _, v4.2⟩ n1 b0
 have v5 := t _ (.slice none 0 0, p.2) [] _ ⟨own_nil _ _ _ _, v4.2⟩ n1 b0 (i * 8 + 4) (.slice none 0 0)
 have h5 := h4.cell' (j := 5) (s' := { s with live := false, kind := 0, name := ⟨#[]⟩, attrs := [], text := ⟨#[]⟩ }) (p' := (.slice none 0 0, p.2)) (u := .string ⟨#[]⟩) hi hl (by omega) rfl v5 n1 b0
 have v6 := t _ (.slice none 0 0, p.2) [] _ v5 n1 b0 (i * 8 + 5) (.string ⟨#[]⟩)
 have h6 := h5.cell' (j := 6) (s' := { s with live := false, kind := 0, name := ⟨#[]⟩, attrs := [], text := ⟨#[]⟩, parent := 0 }) (p' := (.slice none 0 0, p.2)) (u := .int .u64 0) hi hl (by omega) rfl v6 n1 b0
 have h7 := h6.cell' (j := 7) (s' := zeroSl s.gen) (p' := (.slice none 0 0, .slice none 0 0)) (u := .slice none 0 0) hi hl (by omega) rfl ⟨own_nil _ _ _ _, own_nil _ _ _ _⟩ n1 n2
 exact ⟨_, h7⟩
end
theorem cnt_kill {S : List Sl} {i : Nat} {s : Sl} (hs : S[i]? = some s) (hl : s.live = true) : cnt Sl.live (S.set i (zeroSl s.gen)) + 1 = cnt Sl.live S := by
 unfold cnt
 have hi := (List.getElem?_eq_some_iff.1 hs).1
 have hsp : S = S.take i ++ s :: S.drop (i + 1) := by
  rw [<- (List.getElem?_eq_some_iff.1 hs).2, <- List.drop_eq_getElem_cons hi, List.take_append_drop]
 have hst : S.set i (zeroSl s.gen) = S.take i ++ zeroSl s.gen :: S.drop (i + 1) := by
  rw [List.set_eq_take_append_cons_drop, if_pos hi]
 rw [hst]
 conv => rhs; rw [hsp]
 rw [List.filter_append, List.filter_append, List.filter_cons, List.filter_cons, if_pos hl, if_neg (by simp [zeroSl])]
 simp
 omega
theorem Turn.killA' {A : Nat -> Prop} {a w : World} (h : Turn A a w) {g : Nat} (hg : A g) (i gen : Nat) : Turn A a (killW w g i gen) :=
 (((((((h.setCell (p := ⟨g, _, none⟩) hg _).setCell (p := ⟨g, _, none⟩) hg _).setCell (p := ⟨g, _, none⟩) hg _).setCell (p := ⟨g, _, none⟩) hg _).setCell (p := ⟨g, _, none⟩) hg _).setCell (p := ⟨g, _, none⟩) hg _).setCell (p := ⟨g, _, none⟩) hg _).setCell (p := ⟨g, _, none⟩) hg _
end Go.Proofs.YtmapmkogjhinmaaGreat
/- Delete of the program, walked. -/
namespace Go.Proofs.YtmapmkogjhinmaaGreat
open Go.RowKit
set_option linter.unusedVariables false
set_option linter.unusedSimpArgs false
set_option maxRecDepth 100000
set_option maxHeartbeats 2000000
theorem pdel_any (w : World) (ro : Nat -> Nat) (db : Nat) (D : Dc) (h : Nat) (hd : PDoc w ro db D) (hw : WF D) (hh : h < 18446744073709551616) :
  Calls Tryz.prog 23 #[.pointer (some ⟨db, 0, none⟩), .int .u64 (h : Int)] w (PPost w ro db (delD D h).1 (delD D h).2) := by
 have hv := hd.view
 have HD : Hid (PDoc w ro db D) := hd
 by_cases h0 : h = 0
 ·subst h0
  have e1 : delD D 0 = (D, 8) := by simp [delD, sl_zero]
  rw [e1]
  have hal := pall_zero w _ db D hv hw
  clear hd hv
  go_enter Tryz.func23, Tryz.ntmps23
  go_wp2_with fail
  refine hal.mono ?_
  rintro e w1 ⟨a, cap, rfl, _, hb⟩
  have HB : Hid (Below w.heap.size w w1) := hb
  clear hal hb
  go_wp2
  go_ret
  exact ppost_same HD.out HB.out
 ·have h0' : ¬ ((h : Int) = 0) := by omega
  have hd0 : decide ((h : Int) = 0) = false := by simp; omega
  have hb0 : ((h : Int) == 0) = false := by simp; omega
  cases hs : sl D h with
  | none =>
   have e1 : delD D h = (D, 8) := by simp [delD, hs]
   rw [e1]
   have hal := pall_none w _ db D h hv hw.fits hh h0 (sl_none hs)
   clear hd hv hs
   go_enter Tryz.func23, Tryz.ntmps23
   go_wp2_with fail
   refine hal.mono ?_
   rintro e w1 ⟨rfl, hb⟩
   have HB : Hid (Below w.heap.size w w1) := hb
   clear hal hb
   go_wp2
   go_ret
   exact ppost_same HD.out HB.out
  | some s =>
   have e1 : delD D h = (killA (outD D h s) (allH D h), 0) := by simp only [delD, hs, outD]
   rw [e1]
   have hal := pall_some w _ db D h s hv hw hs
   have hun := fun W roW (hp : PDoc W roW db D) => unlink_any W roW db D h s hp hw hs
   have hlen := (kids_len hw hs).2
   have HLIVE : Hid (∀ x ∈ allH D h, ∃ t, sl (outD D h s) x = some t) := fun x hx => by
    obtain ⟨t, ht⟩ := allH_live hw hs x hx
    obtain ⟨t', h1, _⟩ := sl_setL_into (p := s.parent) (l' := (lst D s.parent).take (idxH (lst D s.parent) h).toNat ++ (lst D s.parent).drop ((idxH (lst D s.parent) h).toNat + 1)) ht
    exact ⟨t', h1⟩
   have HBIG : Hid (∀ x ∈ allH D h, x < 18446744073709551616) := fun x hx => by
    obtain ⟨t, ht⟩ := allH_live hw hs x hx
    exact (hw.lt ht).1
   have HND : Hid ((allH D h).Nodup) := allH_nodup hw hs
   have HFITS : Hid (Fits (outD D h s)) := hw.fits.setL _ _
   have HUN : Hid (∀ W roW, PDoc W roW db D -> Calls Tryz.prog 52 #[.pointer (some ⟨db, 0, none⟩), .int .u64 (h : Int)] W (LinkP W roW db (outD D h s))) := hun
   clear hd hv hs hun e1
   generalize outD D h s = E at *
   generalize allH D h = A at *
   go_enter Tryz.func23, Tryz.ntmps23
   go_wp2_with fail
   refine hal.mono ?_
   rintro e w1 ⟨la, lc, rfl, hown, hb⟩
   have P1 := PE.refl HD.out hb
   have hun1 := HUN.out w1 _ P1.doc
   have HP1 : Hid (PE w ro db D w1 ro) := P1
   have HOW : Hid (w1.ownsRow w.heap.size 32 1 (.slice la A.length lc) A.length (hvals A)) := hown
   have HRO : Hid (∀ k, (Value.slice la A.length lc).ownBlock = some k -> ro k = 0) := fun k hk => by
    by_cases e : ro k = 0
    ·exact e
    ·obtain ⟨sa, scap, ra, rcap, L, hp⟩ := HD.out
     have := hp.lt k e
     have := (own_block_lt hown k hk).1
     omega
   clear hal hown hb P1 HUN
   go_wp2_with fail
   refine hun1.mono ?_
   rintro e w2 h2
   obtain ⟨rfl, ro2, p2⟩ := h2.pe
   have P2 := HP1.out.trans p2
   have HOW2 : Hid (w2.ownsRow w.heap.size 32 1 (.slice la A.length lc) A.length (hvals A)) := own_of_block HOW.out (fun k hk => p2.turn.block k (own_block_lt HOW.out k hk).2 (fun hne => hne (HRO.out k hk)))
   have HRO2 : Hid (∀ k, (Value.slice la A.length lc).ownBlock = some k -> ro2 k = 0) := fun k hk => by
    by_cases e : ro2 k = 0
    ·exact e
    ·rcases p2.from' k e with h1 | h1
     ·exact absurd (HRO.out k hk) h1
     ·have := (own_block_lt HOW.out k hk).2
      omega
   obtain ⟨sa, scap, ra, rcap, L, hpd⟩ := P2.doc
   have HT0 : Hid (∃ sa scap ra rcap L, PdT w2 ro2 db E (cnt Sl.live E.S) sa scap ra rcap L) := ⟨_, _, _, _, _, hpd.toT⟩
   have HP2 : Hid (PE w ro db E w2 ro2) := P2
   have hlc : A.length <= lc := (row_cell HOW2.out).1
   clear hun1 h2 p2 P2 hpd HP1 HOW HRO
   go_wp2
   go_loopw [27] (fun vi wr => ∃ j : Nat, j <= A.length /\ vi = .int .i64 (j : Int) /\ Hid (∃ sa scap ra rcap L, PdT wr ro2 db (killA E (A.take j)) (cnt Sl.live E.S) sa scap ra rcap L) /\ Hid (cnt Sl.live (killA E (A.take j)).S + j = cnt Sl.live E.S) /\ Hid (Turn (fun b => ro2 b ≠ 0) w2 wr)) (fun vi _ => A.length - (intOf vi).toNat)
   case atStart => exact ⟨0, by omega, rfl, HT0, by show _ = _; rfl, Turn.refl _ _⟩
   case round =>
    obtain ⟨j, hj, rfl, hT, hC, hTu⟩ := hrel
    obtain ⟨sa, scap, ra, rcap, L, hT⟩ := hT.out
    have hown := own_of_block HOW2.out (w' := wr) (fun k hk => hTu.out.block k (own_block_lt HOW2.out k hk).2 (fun hne => hne (HRO2.out k hk)))
    by_cases hlt : j < A.length
    ·obtain ⟨x, hx⟩ : ∃ x, A[j]? = some x := ⟨_, List.getElem?_eq_getElem hlt⟩
     have hxm := List.mem_of_getElem? hx
     obtain ⟨t0, ht0⟩ := HLIVE.out x hxm
     have ht := sl_killA_ne (A.take j) E x t0 ht0 (not_mem_take HND.out hx)
     have hxl := HBIG.out x hxm
     have hfj := Fits.killA (A.take j) HFITS.out
     have hsn := killA_snoc (D := E) hx
     obtain ⟨hlc, -, hrow⟩ := row_cell hown
     obtain ⟨b, rfl, hbl, hbs, hcx⟩ := hrow j _ (by simp only [hvals, List.getElem?_map, hx]; rfl)
     generalize killA E (A.take j) = Ej at *
     obtain ⟨i, hai, hsi, hlive, -⟩ := sl_live ht
     obtain ⟨g, p, rfl, hg2, hp, hcap, hhd, hcl⟩ := hT.slot hsi
     have hat := find_some wr _ db Ej x i hT.view hfj hxl hai g 0 scap hhd
     rw [Nat.zero_add] at hat
     rw [kill_at hai hsi] at hsn
     have HSN : Hid (killA E (A.take (j + 1)) = { Ej with S := Ej.S.set i (zeroSl t0.gen) }) := hsn
     have HK : Hid (∀ W, Below wr.heap.size wr W -> (∃ sa scap ra rcap L', PdT (killW W g i t0.gen) ro2 db { Ej with S := Ej.S.set i (zeroSl t0.gen) } (cnt Sl.live E.S) sa scap ra rcap L') /\ Turn (fun b => ro2 b ≠ 0) w2 (killW W g i t0.gen)) := fun W hb => by
      obtain ⟨L', hk⟩ := (hT.below hb).kill hsi
      refine ⟨⟨_, _, _, _, L', hk⟩, Turn.killA' (A := fun b => ro2 b ≠ 0) ⟨hb.os.trans hTu.out.os, hb.tape.trans hTu.out.tape, hb.output.trans hTu.out.output, Nat.le_trans hTu.out.size hb.size, fun k hk hne => (hb.block k (Nat.lt_of_lt_of_le hk hTu.out.size)).trans (hTu.out.block k hk hne)⟩ (by show ro2 g ≠ 0; omega) i t0.gen⟩
     have HCN : Hid (cnt Sl.live (Ej.S.set i (zeroSl t0.gen)) + (j + 1) = cnt Sl.live E.S) := by
      show _ = _
      have := cnt_kill hsi hlive
      have := hC.out
      omega
     have hgl := hT.lt g (by omega)
     have HCL : Hid (∀ W, Below wr.heap.size wr W -> ∀ j u, (slotCells t0 p)[j]? = some u -> W.cell? ⟨g, i * 8 + j, none⟩ = some u /\ W.frozen? ⟨g, i * 8 + j, none⟩ = false) := fun W hb j u hu => ⟨(hb.cell (p := ⟨g, _, none⟩) hgl).trans (hcl j u hu).1, (hb.frozen (p := ⟨g, _, none⟩) hgl).trans (hcl j u hu).2⟩
     clear hT hcl hp hsn hai hsi ht ht0 hxm hx hrow hown hfj hhd hTu hC hlive
     go_wp2_with fail
     refine hat.mono ?_
     rintro e w4 ⟨rfl, hb⟩
     have hc := HCL.out w4 hb
     obtain ⟨k1, k2⟩ := HK.out w4 hb
     have HK1 : Hid (∃ sa scap ra rcap L', PdT (killW w4 g i t0.gen) ro2 db { Ej with S := Ej.S.set i (zeroSl t0.gen) } (cnt Sl.live E.S) sa scap ra rcap L') := k1
     have HK2 : Hid (Turn (fun b => ro2 b ≠ 0) w2 (killW w4 g i t0.gen)) := k2
     have c0 : w4.cell? ⟨g, i * 8, none⟩ = _ := (hc 0 _ rfl).1
     have c1 := (hc 1 _ rfl).1
     have c2 := (hc 2 _ rfl).1
     have c3 := (hc 3 _ rfl).1
     have c4 := (hc 4 _ rfl).1
     have c5 := (hc 5 _ rfl).1
     have c6 := (hc 6 _ rfl).1
     have c7 := (hc 7 _ rfl).1
     have f0 : w4.frozen? ⟨g, i * 8, none⟩ = _ := (hc 0 _ rfl).2
     have f1 := (hc 1 _ rfl).2
     have f2 := (hc 2 _ rfl).2
     have f3 := (hc 3 _ rfl).2
     have f4 := (hc 4 _ rfl).2
     have f5 := (hc 5 _ rfl).2
     have f6 := (hc 6 _ rfl).2
     have f7 := (hc 7 _ rfl).2
     clear hat hb hc k1 k2 HK HCL
     go_wp2
     go_roundw
     case rel => exact ⟨j + 1, by omega, by go_num, by rw [HSN.out]; exact HK1, by rw [HSN.out]; exact HCN, HK2⟩
     case measure => simp [intOf]; omega
    ·have hje : j = A.length := by omega
     subst hje
     rw [List.take_length] at hT
     have hC' := hC.out
     rw [List.take_length] at hC'
     have hcn : (cnt Sl.live E.S : Int) - (A.length : Int) = (cnt Sl.live (killA E A).S : Int) := by omega
     have hcl1 : cnt Sl.live E.S <= 4096 := Nat.le_trans (cnt_le _ _) HFITS.out.len
     have hc2 : wr.cell? ⟨db, 2, none⟩ = some (.int .i64 (cnt Sl.live E.S : Int)) := by rw [hT.head.cell]; rfl
     have hf2 : wr.frozen? ⟨db, 2, none⟩ = false := hT.head.frozen 2
     have HFin : Hid (PdS (wr.setCell ⟨db, 2, none⟩ (.int .i64 ((cnt Sl.live E.S : Int) - (A.length : Int)))) ro2 db (killA E A) sa scap ra rcap L) := (hT.count _).toS hcn
     have hrd : ro2 db ≠ 0 := by rw [hT.rdb]; omega
     have hcb : (cnt Sl.live E.S : Int) <= 4096 := by omega
     have hcb2 : (0 : Int) <= (cnt Sl.live E.S : Int) := by omega
     have hlb : (A.length : Int) <= 4096 := by omega
     clear hT hC hC' hcn hown HT0
     generalize cnt Sl.live E.S = z at *
     go_wp2
     go_ret
     refine (HP2.out.trans (ro2 := ro2) ⟨?_, ⟨_, _, _, _, _, HFin.out⟩, fun b hb => .inl hb⟩).post
     exact Turn.setCell (A := fun b => ro2 b ≠ 0) hTu.out (p := ⟨db, 2, none⟩) hrd _
end Go.Proofs.YtmapmkogjhinmaaGreat
/- Attributes by their names: their order, and where one stands (findAttr). -/
namespace Go.Proofs.YtmapmkogjhinmaaGreat
open Go.RowKit
set_option linter.unusedVariables false
set_option linter.unusedSimpArgs false
set_option maxRecDepth 100000
set_option maxHeartbeats 2000000
def ltN (a b : ByteArray) : Prop := a.data.toList < b.data.toList
instance (a b : ByteArray) : Decidable (ltN a b) := by unfold ltN; infer_instance
theorem bl_eq : ∀ (x y : List UInt8), Op.bytesLess x y = decide (x < y)
 | [], [] => by simp [Op.bytesLess]
 | _ :: _, [] => by simp [Op.bytesLess]
 | [], _ :: _ => by simp [Op.bytesLess]
 | a :: x, b :: y => by
  rw [Op.bytesLess, bl_eq x y]
  simp only [List.cons_lt_cons_iff]
  by_cases h1 : a < b <;> by_cases h2 : a = b <;> by_cases h3 : x < y <;> simp [h1, h2, h3]
theorem less_ltN (a b : ByteArray) : Op.bytesLess a.toList b.toList = decide (ltN a b) := by
 rw [bl_eq, ByteArray.toList_eq, ByteArray.toList_eq]
 rfl
theorem ltN_irr (a : ByteArray) : ¬ ltN a a := List.lt_irrefl _
theorem ltN_trans {a b c : ByteArray} (h : ltN a b) (k : ltN b c) : ltN a c := List.lt_trans h k
theorem ltN_tri (a b : ByteArray) : ltN a b \/ a = b \/ ltN b a := by
 unfold ltN
 by_cases h1 : a.data.toList < b.data.toList
 ·exact .inl h1
 ·by_cases h2 : b.data.toList < a.data.toList
  ·exact .inr (.inr h2)
  ·refine .inr (.inl ?_)
   have := List.le_antisymm (List.not_lt.1 h2) (List.not_lt.1 h1)
   obtain ⟨⟨l⟩⟩ := a
   obtain ⟨⟨m⟩⟩ := b
   simp at this
   rw [this]
theorem cmpB : ∀ (x y : List UInt8), (Lib.compareBytes x y < 0 ↔ x < y) /\ (Lib.compareBytes x y = 0 ↔ x = y)
 | [], [] => by simp [Lib.compareBytes]
 | _ :: _, [] => by simp [Lib.compareBytes]
 | [], _ :: _ => by simp [Lib.compareBytes]
 | a :: x, b :: y => by
  obtain ⟨i1, i2⟩ := cmpB x y
  unfold Lib.compareBytes
  by_cases h1 : a < b
  ·rw [if_pos h1]
   refine ⟨⟨fun _ => by simp [List.cons_lt_cons_iff, h1], fun _ => by decide⟩, ⟨(fun h => by cases h), fun h => ?_⟩⟩
   simp only [List.cons.injEq] at h
   rw [h.1] at h1
   exact absurd h1 (UInt8.lt_irrefl _)
  ·rw [if_neg h1]
   by_cases h2 : b < a
   ·rw [if_pos h2]
    refine ⟨⟨(fun h => by cases h), fun h => ?_⟩, ⟨(fun h => by cases h), fun h => ?_⟩⟩
    ·simp only [List.cons_lt_cons_iff] at h
     rcases h with h | ⟨h, _⟩
     ·exact absurd h h1
     ·rw [h] at h2
      exact absurd h2 (UInt8.lt_irrefl _)
    ·simp only [List.cons.injEq] at h
     rw [h.1] at h2
     exact absurd h2 (UInt8.lt_irrefl _)
   ·rw [if_neg h2]
    have hab : a = b := UInt8.le_antisymm (UInt8.not_lt.1 h2) (UInt8.not_lt.1 h1)
    subst hab
    simp only [List.cons_lt_cons_iff, h1, false_or, true_and, List.cons.injEq]
    exact ⟨i1, i2⟩
def SortA (l : List (ByteArray × ByteArray)) : Prop := l.Pairwise fun p q => ltN p.1 q.1
theorem leB_ltN {a b : ByteArray} : leB a b = false ↔ ltN b a := by
 unfold leB
 rw [less_ltN]
 rcases ltN_tri a b with h | h | h
 ·constructor
  ·intro e
   simp [h] at e
  ·intro h2
   exact absurd (ltN_trans h h2) (ltN_irr _)
 ·subst h
  constructor
  ·intro e
   simp at e
  ·intro h2
   exact absurd h2 (ltN_irr _)
 ·constructor
  ·intro _
   exact h
  ·intro _
   have h1 : ¬ ltN a b := fun h3 => ltN_irr _ (ltN_trans h h3)
   have h2 : ¬ (a.toList = b.toList) := fun e => by
    rw [ByteArray.toList_eq, ByteArray.toList_eq] at e
    unfold ltN at h
    rw [e] at h
    exact List.lt_irrefl _ h
   simp [h1, h2]
theorem sortA_go : ∀ (l : List (ByteArray × ByteArray)) (prev : Option ByteArray), attrsGo prev l = 0 -> (∀ q, prev = some q -> ∀ p ∈ l, ltN q p.1) /\ SortA l
 | [], prev, h => ⟨(fun _ _ p hp => by cases hp), List.Pairwise.nil⟩
 | p :: r, prev, h => by
  unfold attrsGo at h
  split at h
  ·cases h
  ·rename_i hc
   split at h
   ·obtain ⟨i1, i2⟩ := sortA_go r (some p.1) h
    have i3 := i1 p.1 rfl
    refine ⟨fun q hq x hx => ?_, List.pairwise_cons.2 ⟨i3, i2⟩⟩
    have hqp : ltN q p.1 := by
     rw [<- leB_ltN]
     cases hb : leB p.1 q with
     | false => rfl
     | true => exact absurd (.inr ⟨q, hq, hb⟩) hc
    rcases List.mem_cons.1 hx with rfl | hx
    ·exact hqp
    ·exact ltN_trans hqp (i3 x hx)
   ·rename_i ht
    exact absurd h ht
theorem sortA_of {l : List (ByteArray × ByteArray)} (h : attrsE l = 0) : SortA l /\ l.length <= 32 := by
 unfold attrsE at h
 split at h
 ·cases h
 ·exact ⟨(sortA_go l none h).2, by omega⟩
def lowN (l : List (ByteArray × ByteArray)) (nm : ByteArray) : Nat := (l.filter fun p => decide (ltN p.1 nm)).length
def hasN (l : List (ByteArray × ByteArray)) (nm : ByteArray) : Bool := match l[lowN l nm]? with
 | some p => decide (p.1 = nm)
 | none => false
theorem lowN_le (l : List (ByteArray × ByteArray)) (nm : ByteArray) : lowN l nm <= l.length := List.length_filter_le _ _
theorem low_cut : ∀ {l : List (ByteArray × ByteArray)}, SortA l -> ∀ {nm : ByteArray} {i : Nat} {p : ByteArray × ByteArray}, l[i]? = some p -> (i < lowN l nm ↔ ltN p.1 nm)
 | [], _, _, i, y, h => by simp at h
 | a :: l, hr, nm, i, y, h => by
  obtain ⟨h1, h2⟩ := List.pairwise_cons.1 hr
  by_cases ha : ltN a.1 nm
  ·have e : lowN (a :: l) nm = lowN l nm + 1 := by simp [lowN, ha]
   rw [e]
   cases i with
   | zero =>
    simp at h
    subst h
    exact ⟨fun _ => ha, fun _ => by omega⟩
   | succ i =>
    simp at h
    have ih := low_cut h2 (nm := nm) h
    rw [<- ih]
    omega
  ·have h0 : ∀ p ∈ a :: l, ¬ ltN p.1 nm := by
    intro p hp
    rcases List.mem_cons.1 hp with rfl | hp
    ·exact ha
    ·exact fun h3 => ha (ltN_trans (h1 p hp) h3)
   have e : lowN (a :: l) nm = 0 := by
    unfold lowN
    rw [List.length_eq_zero_iff, List.filter_eq_nil_iff]
    intro p hp
    simpa using h0 p hp
   rw [e]
   exact ⟨fun h => by omega, fun h' => absurd h' (h0 y (List.mem_of_getElem? h))⟩
theorem compare_any (w : World) (x y : ByteArray) : Calls Tryz.prog 94 #[.string x, .string y] w fun e w' => e = .returned (.int .i64 (Lib.compareBytes x.data.toList y.data.toList)) /\ w' = w := by
 have h167 : ∀ w, (callFunc 119 #[.string x, .string y]).run Tryz.prog w = .ok (.value (.int .i64 (Lib.compareBytes x.data.toList y.data.toList))) w := fun w => by
  rw [run_callFunc_extern Tryz.func119 (by kernel_rfl) (by kernel_rfl) (by kernel_rfl) (e := Extern.BytealgCompare.compare) (by kernel_rfl), Lib.run_compareString]
  rfl
 have h165 : Calls Tryz.prog 114 #[.string x, .string y] w fun e w' => e = .returned (.int .i64 (Lib.compareBytes x.data.toList y.data.toList)) /\ w' = w := by
  go_enter Tryz.func114, Tryz.ntmps114
  go_wp2_with (simp only [h167])
  go_ret
  exact ⟨rfl, rfl⟩
 go_enter Tryz.func94, Tryz.ntmps94
 go_wp2_with fail
 refine h165.mono ?_
 rintro e w1 ⟨rfl, rfl⟩
 clear h165
 go_wp2
 go_ret
 exact ⟨rfl, rfl⟩
theorem cmpA_any (w : World) (p : ByteArray × ByteArray) (nm : ByteArray) : Calls Tryz.prog 93 #[.agg #[.string p.1, .string p.2], .string nm] w fun e w' => e = .returned (.int .i64 (Lib.compareBytes p.1.data.toList nm.data.toList)) /\ Below w.heap.size w w' := by
 have hc := compare_any (w.alloc (.cells #[.string p.1, .string p.2] 52)) p.1 nm
 have HB : Hid (Below w.heap.size w (w.alloc (.cells #[.string p.1, .string p.2] 52))) := (Below.refl _ _).alloc (Nat.le_refl _) _
 go_enter Tryz.func93, Tryz.ntmps93
 go_wp2_with fail
 refine hc.mono ?_
 rintro e w1 ⟨rfl, rfl⟩
 clear hc
 go_wp2
 go_ret
 exact ⟨rfl, HB.out⟩
theorem bsearch_any (w : World) (R : Nat -> Prop) (a : Option Addr) (l : List (ByteArray × ByteArray)) (cap : Nat) (nm : ByteArray) (n k : Nat) (hn : l.length = n) (hn2 : n <= 1048576) (hat : AttrsR w R a l) (hR : ∀ b, R b -> b < w.heap.size) (hs : SortA l) (hk : lowN l nm = k) :
  Calls Tryz.prog 92 #[.slice a n cap, .string nm, .func (.func 93) #[] #[]] w fun e w' => e = .returned (.tuple #[.int .i64 (k : Int), .bool (hasN l nm)]) /\ Below w.heap.size w w' := by
 have hn' : (n : Int) <= 1048576 := by omega
 have hkn : k <= n := by rw [<- hk, <- hn]; exact lowN_le l nm
 have HA : Hid (AttrsR w R a l) := hat
 have HR : Hid (∀ b, R b -> b < w.heap.size) := hR
 have Hn : Hid (l.length = n) := hn
 have Hcut : Hid (∀ i p, l[i]? = some p -> (i < k ↔ ltN p.1 nm)) := fun i p hp => by rw [<- hk]; exact low_cut hs hp
 have Hhas : Hid (hasN l nm = match l[k]? with | some p => decide (p.1 = nm) | none => false) := by show _ = _; unfold hasN; rw [hk]
 have eg : ∀ args w, (callFunc 93 args).run Tryz.prog w = .ok (.enter 93 args) w := enters_of Tryz.func93 (by kernel_rfl) rfl
 clear hat hR hn hs hk
 go_enter Tryz.func92, Tryz.ntmps92
 go_wp2
 go_loopw [9, 10] (fun i j wr => ∃ (lo hi : Nat), lo <= k /\ k <= hi /\ hi <= n /\ i = .int .i64 (lo : Int) /\ j = .int .i64 (hi : Int) /\ Hid (Below w.heap.size w wr)) (fun i j _ => (intOf j - intOf i).toNat)
 case atStart => exact ⟨0, n, Nat.zero_le _, hkn, Nat.le_refl _, rfl, rfl, Below.refl _ _⟩
 case round =>
  obtain ⟨lo, hi, h1, h2, h3, rfl, rfl, hB⟩ := hrel
  by_cases hlt : lo < hi
  ·obtain ⟨h, hh⟩ : ∃ h : Nat, ((lo : Int) + (hi : Int)) / 2 = (h : Int) := ⟨(lo + hi) / 2, by omega⟩
   have hh1 : lo <= h := by omega
   have hh2 : h < hi := by omega
   have hy := List.getElem?_eq_getElem (l := l) (i := h) (by have := Hn.out; omega)
   generalize l[h]'(by have := Hn.out; omega) = y at *
   obtain ⟨b, o, rfl, hrb, hc1', hc2'⟩ := HA.out h y hy
   have hbl := HR.out b hrb
   have hc1 : wr.cell? ⟨b, o + h * 2, none⟩ = some (.string y.1) := (hB.out.cell (p := ⟨b, _, none⟩) hbl).trans hc1'
   have hc2 : wr.cell? ⟨b, o + h * 2 + 1, none⟩ = some (.string y.2) := (hB.out.cell (p := ⟨b, _, none⟩) hbl).trans hc2'
   have hcm := cmpA_any wr y nm
   have hci := (cmpB y.1.data.toList nm.data.toList).1
   have hck := Hcut.out h y hy
   have hh3 : (h : Int) < (n : Int) := by omega
   have hh4 : (0 : Int) <= (h : Int) := by omega
   generalize Lib.compareBytes y.1.data.toList nm.data.toList = c at *
   clear hy hc1' hc2' hrb
   by_cases hp : h < k
   ·have hcl : c < 0 := hci.2 (hck.1 hp)
    have hcd : decide (c < 0) = true := by simpa using hcl
    clear hci hck
    go_wp2_with fail
    refine hcm.mono ?_
    rintro e w1 ⟨rfl, hb⟩
    have HB1 : Hid (Below w.heap.size w w1) := hB.out.trans (hb.mono hB.out.size)
    clear hb hcm
    go_wp2
    go_roundw
    case rel => exact ⟨h + 1, hi, by omega, h2, h3, by go_num, rfl, HB1⟩
    case measure => simp [intOf]; omega
   ·have hcl : ¬ c < 0 := fun e => hp (hck.2 (hci.1 e))
    have hcd : decide (c < 0) = false := by simpa using hcl
    clear hci hck
    go_wp2_with fail
    refine hcm.mono ?_
    rintro e w1 ⟨rfl, hb⟩
    have HB1 : Hid (Below w.heap.size w w1) := hB.out.trans (hb.mono hB.out.size)
    clear hb hcm
    go_wp2
    go_roundw
    case rel => exact ⟨lo, h, h1, by omega, by omega, rfl, rfl, HB1⟩
    case measure => simp [intOf]; omega
  ·have hlk : lo = k := by omega
   subst hlk
   by_cases hkl : lo < n
   ·have hy := List.getElem?_eq_getElem (l := l) (i := lo) (by have := Hn.out; omega)
    generalize l[lo]'(by have := Hn.out; omega) = y at *
    obtain ⟨b, o, rfl, hrb, hc1', hc2'⟩ := HA.out lo y hy
    have hbl := HR.out b hrb
    have hc1 : wr.cell? ⟨b, o + lo * 2, none⟩ = some (.string y.1) := (hB.out.cell (p := ⟨b, _, none⟩) hbl).trans hc1'
    have hc2 : wr.cell? ⟨b, o + lo * 2 + 1, none⟩ = some (.string y.2) := (hB.out.cell (p := ⟨b, _, none⟩) hbl).trans hc2'
    have hcm := cmpA_any wr y nm
    have hci := (cmpB y.1.data.toList nm.data.toList).2
    have hh3 : (lo : Int) < (n : Int) := by omega
    have hh4 : (0 : Int) <= (lo : Int) := by omega
    have HH : Hid (hasN l nm = decide (Lib.compareBytes y.1.data.toList nm.data.toList = 0)) := by
     show _ = _
     rw [Hhas.out, hy]
     simp only
     rw [Bool.eq_iff_iff]
     simp only [decide_eq_true_eq]
     rw [hci]
     constructor
     ·intro e
      rw [e]
     ·intro e
      rcases ltN_tri y.1 nm with h | h | h
      ·unfold ltN at h; rw [e] at h; exact absurd h (List.lt_irrefl _)
      ·exact h
      ·unfold ltN at h; rw [e] at h; exact absurd h (List.lt_irrefl _)
    generalize Lib.compareBytes y.1.data.toList nm.data.toList = c at *
    clear hy hc1' hc2' hrb hci
    go_wp2_with fail
    refine hcm.mono ?_
    rintro e w1 ⟨rfl, hb⟩
    have HB1 : Hid (Below w.heap.size w w1) := hB.out.trans (hb.mono hB.out.size)
    clear hb hcm
    go_wp2
    go_ret2
    exact ⟨by rw [HH.out]; rfl, HB1.out⟩
   ·have HH : Hid (hasN l nm = false) := by
     show _ = _
     rw [Hhas.out, List.getElem?_eq_none (by have := Hn.out; omega)]
    go_wp2
    go_ret2
    exact ⟨by rw [HH.out]; rfl, hB.out⟩
theorem findAttr_any (w : World) (R : Nat -> Prop) (a : Option Addr) (l : List (ByteArray × ByteArray)) (cap : Nat) (nm : ByteArray) (n k : Nat) (hn : l.length = n) (hn2 : n <= 1048576) (hat : AttrsR w R a l) (hR : ∀ b, R b -> b < w.heap.size) (hs : SortA l) (hk : lowN l nm = k) :
  Calls Tryz.prog 57 #[.slice a n cap, .string nm] w fun e w' => e = .returned (.tuple #[.int .i64 (k : Int), .bool (hasN l nm)]) /\ Below w.heap.size w w' := by
 have hb := bsearch_any w R a l cap nm n k hn hn2 hat hR hs hk
 obtain ⟨t, Ht⟩ : ∃ t, Hid (hasN l nm = t) := ⟨_, rfl⟩
 rw [Ht.out] at hb ⊢
 clear hat hR hs hk hn
 go_enter Tryz.func57, Tryz.ntmps57
 go_wp2_with fail
 refine hb.mono ?_
 rintro e w1 ⟨rfl, hb1⟩
 have HB : Hid (Below w.heap.size w w1) := hb1
 clear hb hb1
 go_wp2
 go_ret2
 exact ⟨rfl, HB.out⟩
end Go.Proofs.YtmapmkogjhinmaaGreat
/- slices.Insert and slices.Delete of one element: a row of one's own, at attributes. -/
namespace Go.Proofs.YtmapmkogjhinmaaGreat.A
open Go.RowKit
set_option linter.unusedVariables false
set_option linter.unusedSimpArgs false
set_option maxRecDepth 100000
set_option maxHeartbeats 2000000
theorem infoE : InfoOf Tryz.prog 52 (.agg #[.string ⟨#[]⟩, .string ⟨#[]⟩]) 2 32 := by unfold InfoOf; kernel_rfl
theorem sizeE : (Tryz.prog.info? 52).map (·.size) = some 2 := by kernel_rfl
def InsP (w : World) (base : Nat) (v : Value) (n i : Nat) (xs vs : List Value) (e : Ending) (w' : World) : Prop :=
 ∃ v', e = .returned v' /\ w'.ownsRow base 52 2 v' (n + 1) (xs.take (i * 2) ++ vs ++ xs.drop (i * 2)) /\ w.grownBy w' v.ownBlock /\ (v'.ownBlock = v.ownBlock \/ v'.ownBlock = some w.heap.size)
theorem ins_end (w : World) (base : Nat) (a : Option Addr) (n cap vb : Nat) (xs vs : List Value) (hown : w.ownsRow base 52 2 (.slice a n cap) n xs) (hv : w.heap[vb]? = some (.cells vs.toArray 52 (0, 0))) (hvl : vs.length = 2) (h1v : ∀ u ∈ vs, u.oneCell' = true)
  (hn : n <= 1048576) (hbase : base <= w.heap.size) :
  Calls Tryz.prog 58 #[.slice a n cap, .int .i64 (n : Int), .slice (some ⟨vb, 0, none⟩) 1 1] w (InsP w base (.slice a n cap) n n xs vs) := by
 have hn' : (n : Int) <= 1048576 := by omega
 obtain ⟨hnc, hxl, -⟩ := row_cell hown
 have hcm : cap <= maxLen := by
  rcases hown.2 with ⟨e, _⟩ | ⟨g, cap', cur, e, _, _, _, h, _⟩
  ·simp only [Value.slice.injEq] at e; omega
  ·simp only [Value.slice.injEq, true_and] at e; omega
 unfold maxLen at hcm
 have hcm' : (cap : Int) <= 9223372036854775807 := by omega
 have H : Hid (w.ownsRow base 52 2 (.slice a n cap) n xs) := hown
 have HV : Hid (∀ j u, vs[j]? = some u -> ∃ ad, (some ⟨vb, 0, none⟩ : Option Addr) = some ad /\ w.cell? (ad.add j) = some u) := fun j u hu => ⟨_, rfl, by
  rw [addrP, Nat.zero_add, cell_of hv]
  exact hu⟩
 clear hown hv
 go_enter Tryz.func58, Tryz.ntmps58
 cases a with
 | none =>
  go_wp2_with (at_builtin; refine wpList_app rfl _ _ rfl Tryz.underlying33 infoE rfl (by decide) base _ n xs rfl H.out _ 1 1 vs rfl (by omega) HV.out h1v (by unfold maxLen; omega) (by omega) hbase ?_; intro v' w' k1 k2 k3 k4)
  all_goals
   go_ret
   refine ⟨v', rfl, ?_, k2, k4⟩
   rw [List.take_of_length_le (by omega), List.drop_of_length_le (by omega), List.append_nil]
   exact k1
 | some ad =>
  go_wp2_with (at_builtin; refine wpList_app rfl _ _ rfl Tryz.underlying33 infoE rfl (by decide) base _ n xs rfl H.out _ 1 1 vs rfl (by omega) HV.out h1v (by unfold maxLen; omega) (by omega) hbase ?_; intro v' w' k1 k2 k3 k4)
  all_goals
   go_ret
   refine ⟨v', rfl, ?_, k2, k4⟩
   rw [List.take_of_length_le (by omega), List.drop_of_length_le (by omega), List.append_nil]
   exact k1
theorem ins_grow (w : World) (base : Nat) (a : Option Addr) (n cap vb i : Nat) (xs vs : List Value) (hown : w.ownsRow base 52 2 (.slice a n cap) n xs) (hv : w.heap[vb]? = some (.cells vs.toArray 52 (0, 0))) (hvl : vs.length = 2) (h1v : ∀ u ∈ vs, u.oneCell' = true) (h1x : ∀ u ∈ xs, u.oneCell' = true)
  (hn : n <= 1048576) (hbase : base <= w.heap.size) (hi : i < n) (hroom : cap < n + 1) :
  Calls Tryz.prog 58 #[.slice a n cap, .int .i64 (i : Int), .slice (some ⟨vb, 0, none⟩) 1 1] w (InsP w base (.slice a n cap) n i xs vs) := by
 obtain ⟨g, cur, rfl, hbg, hcur, hnc, hcm, hcl, hct⟩ := full_of_own hown (by omega)
 obtain ⟨-, hxl, -⟩ := row_cell hown
 have hgl : g < w.heap.size := (Array.getElem?_eq_some_iff.1 hcur).1
 have hvbl : vb < w.heap.size := (Array.getElem?_eq_some_iff.1 hv).1
 unfold maxLen at hcm
 have hn' : (n : Int) <= 1048576 := by omega
 have hcm' : (cap : Int) <= 9223372036854775807 := by omega
 have hc1 : (cap : Int) < (n : Int) + 1 := by omega
 have hc2 : (n : Int) <= (cap : Int) := by omega
 have hi1 : (i : Int) < (n : Int) := by omega
 have hi2 : ((i : Int) == (n : Int)) = false := by simp; omega
 have hi3 : ¬ ((i : Int) = (n : Int)) := by omega
 have hi4 : (i : Int) <= (cap : Int) := by omega
 have hi5 : ¬ (cap = i) := by omega
 have hk : (n : Int) + 1 - (i : Int) = ((n + 1 - i : Nat) : Int) := by omega
 have hik : Hid (i + (n + 1 - i) = n + 1) := by show _ = _; omega
 have Hx : Hid (∀ j u, (xs.take (i * 2))[j]? = some u -> w.cell? ((⟨g, 0, none⟩ : Addr).add j) = some u) := fun j u hu => by
  rw [addrP, Nat.zero_add, cell_of hcur]
  rw [List.getElem?_take] at hu
  split at hu
  ·rw [<- hct, List.getElem?_take] at hu
   split at hu
   ·exact hu
   ·cases hu
  ·cases hu
 have Hcur : Hid (w.heap[g]? = some (.cells cur.toArray 52 (0, 0))) := hcur
 have Hv : Hid (w.heap[vb]? = some (.cells vs.toArray 52 (0, 0))) := hv
 have Hct : Hid (cur.take (n * 2) = xs) := hct
 have Hxl : Hid (xs.length = n * 2) := hxl
 have Hvl : Hid (vs.length = 2) := hvl
 have Hcl : Hid (cur.length = cap * 2) := hcl
 have tok1 : True := trivial
 have tok2 : True := trivial
 clear hown hcur hv hct hxl hvl hcl
 go_enter Tryz.func58, Tryz.ntmps58
 go_wp2_with (first
  | (at_builtin; have _t := tok1; go_must (refine wpList_zeros _ rfl _ _ 33 3 52 .i64 .i64 rfl Tryz.underlying33 Tryz.underlying3 infoE rfl (by decide) ⟨g, 0, none⟩ i cap _ (n + 1 - i) rfl (xs.take (i * 2)) (by have := Hxl.out; simp; omega) rfl rfl Hx.out (by omega) (by omega) (by omega) (by omega) ?_; intro w1 G cur1 k1 k2 k3 k4 k5 k6 k7; rw [hik.out] at k4 ⊢; clear tok1 _t; unfold maxLen at k5; have k5' : (G : Int) <= 9223372036854775807 := (by omega); have k8 : ¬ (G = i) := (by omega); have k9 : (n : Int) + 1 <= (G : Int) := (by omega); have K1 : Hid (w1.heap[w.heap.size]? = some (.cells cur1.toArray 52 (0, 0))) := k1; clear k1; have K2 : Hid (cur1.length = G * 2) := k2; clear k2; have K3 : Hid (cur1.take (i * 2) = xs.take (i * 2)) := k3; clear k3; have K6 : Hid (w.grownBy w1 none) := k6; clear k6; have K7 : Hid (w1.heap.size = w.heap.size + 1) := k7; clear k7))
  | (have _t := tok2; have _k := K1; (refine wpList_copyK _ rfl _ _ 33 33 52 rfl 2 w.heap.size (i * 2) (n + 1 - i) (G - i) (some ⟨vb, 0, none⟩) 1 1 cur1 52 vs rfl rfl Tryz.underlying33 sizeE K1.out (by rw [Hvl.out, show Nat.min 1 (n + 1 - i) = 1 from Nat.min_eq_left (by omega)]) (fun j u hu => ⟨_, rfl, by
     rw [addrP, Nat.zero_add, World.cell?_of_block (w := w) (a := ⟨vb, j, none⟩) (K6.out.block vb hvbl (by simp)), cell_of Hv.out]; exact hu⟩) (by rw [Hvl.out, K2.out]; omega) h1v ?_; intro w2 m1 m2 m3; clear tok2 _t; have M1 : Hid (w2.heap[w.heap.size]? = some (.cells (over cur1 (i * 2) vs).toArray 52 (0, 0))) := m1; clear m1; have M2 : Hid (w1.grownBy w2 (some w.heap.size)) := m2; clear m2; have M3 : Hid (w2.heap.size = w1.heap.size) := m3; clear m3)))
 have hd0 : (i : Int) <= (n : Int) := by omega
 have hd0' : i <= n := by omega
 have hd1 : (0 : Int) <= (i : Int) + 1 := by omega
 have hd2 : (i : Int) + 1 <= (n : Int) + 1 := by omega
 have hd3 : ((i : Int) + 1).toNat = i + 1 := by omega
 have hd4 : ¬ (G = i + 1) := by omega
 have hd5 : (i : Int) + 1 <= (G : Int) := by omega
 have hd6 : IntKind.i64.wrap ((i : Int) + 1) = (i : Int) + 1 := by rw [IntKind.wrap_i64]; omega
 have Hsrc : Hid (∀ j u, (xs.drop (i * 2))[j]? = some u -> ∃ ad, (some ⟨g, i * 2, none⟩ : Option Addr) = some ad /\ w2.drew.cell? (ad.add j) = some u) := fun j u hu => ⟨_, rfl, by
  have hgg : w2.heap[g]? = w.heap[g]? := (M2.out.block g (by have := K7.out; omega) (by simp; omega)).trans (K6.out.block g hgl (by simp))
  rw [addrP]
  show w2.cell? _ = _
  rw [World.cell?_of_block (w := w) (a := ⟨g, i * 2 + j, none⟩) hgg, cell_of Hcur.out]
  rw [List.getElem?_drop] at hu
  rw [<- Hct.out, List.getElem?_take] at hu
  split at hu
  ·simpa using hu
  ·cases hu⟩
 go_region_law (go_must (refine step_copyK rfl _ _ 33 33 52 rfl 2 w.heap.size ((i + 1) * 2) (n + 1 - (i + 1)) (G - (i + 1)) (some ⟨g, i * 2, none⟩) (n - i) (cap - i) (over cur1 (i * 2) vs) 52 (xs.drop (i * 2)) (by simp [Act.eval, Act.put]) (by simp [Act.eval, Act.put]) Tryz.underlying33 sizeE M1.out (by
   have := Hxl.out
   rw [List.length_drop, show Nat.min (n - i) (n + 1 - (i + 1)) = n - i from by simp only [Nat.min_def]; split <;> omega]; omega) Hsrc.out (by
   have h1 := Hxl.out
   have h2 := K2.out
   have h3 := Hvl.out
   rw [over_length (by omega), List.length_drop]; omega) (fun u hu => h1x u (List.mem_of_mem_drop hu)) ?_; intro w3 p1 p2 p3; have P1 : Hid (w3.heap[w.heap.size]? = some (.cells (over (over cur1 (i * 2) vs) ((i + 1) * 2) (xs.drop (i * 2))).toArray 52 (0, 0))) := p1; clear p1; have P2 : Hid (w2.grownBy w3 (some w.heap.size)) := ⟨p2.os, p2.tape, p2.output, p2.size, p2.block⟩; clear p2; have P3 : Hid (w3.heap.size = w2.heap.size) := p3; clear p3))
 all_goals
  go_wp2
  go_ret
  have z1 := K7.out
  have z2 := M3.out
  have hgr : w.grownBy w3 (Value.slice (some ⟨g, 0, none⟩) n cap).ownBlock :=
   ⟨P2.out.os.trans (M2.out.os.trans K6.out.os), P2.out.tape.trans (M2.out.tape.trans K6.out.tape), P2.out.output.trans (M2.out.output.trans K6.out.output), by have := P3.out; omega, fun k hk _ =>
    (P2.out.block k (by omega) (by simp; omega)).trans ((M2.out.block k (by omega) (by simp; omega)).trans (K6.out.block k hk (by simp)))⟩
  have h1 := Hxl.out
  have h2 := K2.out
  have h3 := Hvl.out
  refine ⟨_, rfl, own_of_full P1.out hbase (by omega) (by unfold maxLen; omega) (by rw [over_length (by rw [over_length (by omega), List.length_drop]; omega), over_length (by omega)]; exact h2) ?_, hgr, .inr rfl⟩
  have := over_grow (cur := cur1) (xs := xs) (vs := vs) (i := i) (n := n) (k := 2) h1 K3.out (by omega) h3 (by omega)
  simpa using this
theorem overlaps_no (w : World) (vb b off lb cb : Nat) (hne : vb ≠ b) (vs cur : List Value) (t t' : TypeId) (hv : w.heap[vb]? = some (.cells vs.toArray t (0, 0))) (hb : w.heap[b]? = some (.cells cur.toArray t' (0, 0))) (hc : cur.length ≠ 0) :
  (callFunc 95 #[.slice (some ⟨vb, 0, none⟩) 1 1, .slice (some ⟨b, off, none⟩) lb cb]).run Tryz.prog w = .ok (.value (.bool false)) w := by
 rw [run_callFunc_extern Tryz.func95 (by kernel_rfl) (by kernel_rfl) (by kernel_rfl) (e := Extern.SlicesOverlaps.overlaps #[33, 33] #[4]) (by kernel_rfl),
  Lib.run_overlaps_apart w 33 4 52 Tryz.underlying33 2 (fun w => by obtain ⟨i0, hi, _, h1, _⟩ := infoE.parts; simp [sizeOf, typeInfo, hi, h1]) ⟨vb, 0, none⟩ ⟨b, off, none⟩ 1 1 lb cb hne t t' vs.length cur.length (by simp [World.shape?, hv]) (by simp [World.shape?, hb]) hc (by simp [World.frozen?, hv]) (by simp [World.frozen?, hv])]
 rfl
theorem ins_shift (w : World) (base : Nat) (a : Option Addr) (n cap vb i : Nat) (xs vs : List Value) (hown : w.ownsRow base 52 2 (.slice a n cap) n xs) (hv : w.heap[vb]? = some (.cells vs.toArray 52 (0, 0))) (hvl : vs.length = 2) (h1v : ∀ u ∈ vs, u.oneCell' = true) (h1x : ∀ u ∈ xs, u.oneCell' = true)
  (hn : n <= 1048576) (hbase : base <= w.heap.size) (hi : i < n) (hroom : n + 1 <= cap) (hne : (Value.slice a n cap).ownBlock ≠ some vb) :
  Calls Tryz.prog 58 #[.slice a n cap, .int .i64 (i : Int), .slice (some ⟨vb, 0, none⟩) 1 1] w (InsP w base (.slice a n cap) n i xs vs) := by
 obtain ⟨g, cur, rfl, hbg, hcur, hnc, hcm, hcl, hct⟩ := full_of_own hown (by omega)
 obtain ⟨-, hxl, -⟩ := row_cell hown
 have hgl : g < w.heap.size := (Array.getElem?_eq_some_iff.1 hcur).1
 have hvbl : vb < w.heap.size := (Array.getElem?_eq_some_iff.1 hv).1
 have hvg : vb ≠ g := fun e => hne (by rw [e]; rfl)
 have hov : ∀ lb cb, (callFunc 95 #[.slice (some ⟨vb, 0, none⟩) 1 1, .slice (some ⟨g, (i + 1) * 2, none⟩) lb cb]).run Tryz.prog w = .ok (.value (.bool false)) w := fun lb cb => overlaps_no w vb g _ lb cb hvg vs cur _ _ hv hcur (by omega)
 unfold maxLen at hcm
 have hn' : (n : Int) <= 1048576 := by omega
 have hcm' : (cap : Int) <= 9223372036854775807 := by omega
 have hc1 : (n : Int) + 1 <= (cap : Int) := by omega
 have hc2 : (n : Int) <= (cap : Int) := by omega
 have hi1 : (i : Int) < (n : Int) := by omega
 have hi2 : ((i : Int) == (n : Int)) = false := by simp; omega
 have hi3 : ¬ ((i : Int) = (n : Int)) := by omega
 have hi4 : (i : Int) <= (cap : Int) := by omega
 have hi5 : ¬ (cap = i) := by omega
 have hi6 : ¬ (cap = i + 1) := by omega
 have hi7 : (i : Int) + 1 <= (n : Int) + 1 := by omega
 have hi8 : i <= n + 1 := by omega
 have hi9 : (i : Int) <= (n : Int) + 1 := by omega
 have hd1 : (0 : Int) <= (i : Int) + 1 := by omega
 have hd3 : ((i : Int) + 1).toNat = i + 1 := by omega
 have hd6 : IntKind.i64.wrap ((i : Int) + 1) = (i : Int) + 1 := by rw [IntKind.wrap_i64]; omega
 have Hsrc : Hid (∀ j u, (xs.drop (i * 2))[j]? = some u -> ∃ ad, (some ⟨g, i * 2, none⟩ : Option Addr) = some ad /\ w.drew.cell? (ad.add j) = some u) := fun j u hu => ⟨_, rfl, by
  rw [addrP]
  show w.cell? _ = _
  rw [cell_of hcur]
  rw [List.getElem?_drop] at hu
  rw [<- hct, List.getElem?_take] at hu
  split at hu
  ·simpa using hu
  ·cases hu⟩
 have Hcur : Hid (w.heap[g]? = some (.cells cur.toArray 52 (0, 0))) := hcur
 have Hv : Hid (w.heap[vb]? = some (.cells vs.toArray 52 (0, 0))) := hv
 have Hct : Hid (cur.take (n * 2) = xs) := hct
 have Hxl : Hid (xs.length = n * 2) := hxl
 have Hvl : Hid (vs.length = 2) := hvl
 have Hcl : Hid (cur.length = cap * 2) := hcl
 have tok2 : True := trivial
 clear hown hcur hv hct hxl hvl hcl hne
 go_enter Tryz.func58, Tryz.ntmps58
 go_wp2_with (simp only [hov])
 go_region_law (go_must (refine step_copyK rfl _ _ 33 33 52 rfl 2 g ((i + 1) * 2) (n + 1 - (i + 1)) (cap - (i + 1)) (some ⟨g, i * 2, none⟩) (n + 1 - i) (cap - i) cur 52 (xs.drop (i * 2)) (by simp [Act.eval, Act.put]) (by simp [Act.eval, Act.put]) Tryz.underlying33 sizeE Hcur.out (by
   have := Hxl.out
   rw [List.length_drop, show Nat.min (n + 1 - i) (n + 1 - (i + 1)) = n - i from by simp only [Nat.min_def]; split <;> omega]; omega) Hsrc.out (by
   have h1 := Hxl.out
   have h2 := Hcl.out
   rw [List.length_drop]; omega) (fun u hu => h1x u (List.mem_of_mem_drop hu)) ?_; intro w2 p1 p2 p3; have M1 : Hid (w2.heap[g]? = some (.cells (over cur ((i + 1) * 2) (xs.drop (i * 2))).toArray 52 (0, 0))) := p1; clear p1; have M2 : Hid (w.grownBy w2 (some g)) := ⟨p2.os, p2.tape, p2.output, p2.size, p2.block⟩; clear p2; have M3 : Hid (w2.heap.size = w.heap.size) := p3; clear p3))
 all_goals
  go_wp2_with (have _t := tok2; (refine wpList_copyK _ rfl _ _ 33 33 52 rfl 2 g (i * 2) (n + 1 - i) (cap - i) (some ⟨vb, 0, none⟩) 1 1 (over cur ((i + 1) * 2) (xs.drop (i * 2))) 52 vs rfl rfl Tryz.underlying33 sizeE M1.out (by rw [Hvl.out, show Nat.min 1 (n + 1 - i) = 1 from Nat.min_eq_left (by omega)]) (fun j u hu => ⟨_, rfl, by
     rw [addrP, Nat.zero_add, World.cell?_of_block (w := w) (a := ⟨vb, j, none⟩) (M2.out.block vb hvbl (by simp; omega)), cell_of Hv.out]; exact hu⟩) (by
      have h1 := Hxl.out
      have h2 := Hcl.out
      rw [Hvl.out, over_length (by rw [List.length_drop]; omega)]; omega) h1v ?_; intro w3 m1 m2 m3; clear tok2 _t; have P1 : Hid (w3.heap[g]? = some (.cells (over (over cur ((i + 1) * 2) (xs.drop (i * 2))) (i * 2) vs).toArray 52 (0, 0))) := m1; clear m1; have P2 : Hid (w2.grownBy w3 (some g)) := m2; clear m2; have P3 : Hid (w3.heap.size = w2.heap.size) := m3; clear m3))
  go_ret
  have z2 := M3.out
  have hgr : w.grownBy w3 (Value.slice (some ⟨g, 0, none⟩) n cap).ownBlock :=
   ⟨P2.out.os.trans M2.out.os, P2.out.tape.trans M2.out.tape, P2.out.output.trans M2.out.output, by have := P3.out; omega, fun k hk hne => (P2.out.block k (by omega) hne).trans (M2.out.block k hk hne)⟩
  have h1 := Hxl.out
  have h2 := Hcl.out
  have h3 := Hvl.out
  refine ⟨_, rfl, own_of_full P1.out hbg (by omega) (by unfold maxLen; omega) (by rw [over_length (by rw [over_length (by rw [List.length_drop]; omega)]; omega), over_length (by rw [List.length_drop]; omega)]; exact h2) ?_, hgr, .inl rfl⟩
  have := over_shift (cur := cur) (xs := xs) (vs := vs) (i := i) (n := n) (k := 2) Hct.out (by omega) h3 (by omega)
  simpa using this
theorem insert_any (w : World) (base : Nat) (a : Option Addr) (n cap vb i : Nat) (xs vs : List Value) (hown : w.ownsRow base 52 2 (.slice a n cap) n xs) (hv : w.heap[vb]? = some (.cells vs.toArray 52 (0, 0))) (hvl : vs.length = 2) (h1v : ∀ u ∈ vs, u.oneCell' = true) (h1x : ∀ u ∈ xs, u.oneCell' = true)
  (hn : n <= 1048576) (hbase : base <= w.heap.size) (hi : i <= n) (hne : (Value.slice a n cap).ownBlock ≠ some vb) :
  Calls Tryz.prog 58 #[.slice a n cap, .int .i64 (i : Int), .slice (some ⟨vb, 0, none⟩) 1 1] w (InsP w base (.slice a n cap) n i xs vs) := by
 by_cases hin : i = n
 ·subst hin
  exact ins_end w base a i cap vb xs vs hown hv hvl h1v hn hbase
 ·by_cases hr : n + 1 <= cap
  ·exact ins_shift w base a n cap vb i xs vs hown hv hvl h1v h1x hn hbase (by omega) hr hne
  ·exact ins_grow w base a n cap vb i xs vs hown hv hvl h1v h1x hn hbase (by omega) (by omega)
theorem delete_any (w : World) (B : Nat) (a : Option Addr) (n cap i : Nat) (xs : List Value) (hown : w.ownsRow B 52 2 (.slice a n cap) n xs) (h1x : ∀ u ∈ xs, u.oneCell' = true) (hn : n <= 1048576) (hi : i < n) :
  Calls Tryz.prog 59 #[.slice a n cap, .int .i64 (i : Int), .int .i64 ((i : Int) + 1)] w fun e w' => e = .returned (.slice a (n - 1) cap) /\ w'.ownsRow B 52 2 (.slice a (n - 1) cap) (n - 1) (xs.take (i * 2) ++ xs.drop ((i + 1) * 2)) /\ w.grownBy w' (Value.slice a n cap).ownBlock := by
 obtain ⟨g, cur, rfl, hbg, hcur, hnc, hcm, hcl, hct⟩ := full_of_own hown (by omega)
 obtain ⟨-, hxl, -⟩ := row_cell hown
 unfold maxLen at hcm
 have hn' : (n : Int) <= 1048576 := by omega
 have hcm' : (cap : Int) <= 9223372036854775807 := by omega
 have hc2 : (n : Int) <= (cap : Int) := by omega
 have hi1 : (i : Int) + 1 <= (n : Int) := by omega
 have hi2 : ((i : Int) == (i : Int) + 1) = false := by simp; omega
 have hi3 : (i : Int) <= (n : Int) := by omega
 have hi4 : (i : Int) <= (cap : Int) := by omega
 have hi5 : ¬ (cap = i) := by omega
 have hi6 : (0 : Int) <= (i : Int) + 1 := by omega
 have hi7 : ((i : Int) + 1).toNat = i + 1 := by omega
 have hi8 : (i : Int) <= (i : Int) + 1 := by omega
 have hi9 : (0 : Int) <= (i : Int) := by omega
 have hi10 : (i : Int) + 1 <= (cap : Int) := by omega
 have hi11 : i <= cap := by omega
 have hmm : Hid (i + (n - (i + 1)) = n - 1) := by show _ = _; omega
 obtain ⟨A, hA, HA⟩ : ∃ A, (if cap = i + 1 then some (⟨g, 0, none⟩ : Addr) else some ⟨g, (i + 1) * 2, none⟩) = some A /\ Hid (∀ j u, (xs.drop ((i + 1) * 2))[j]? = some u -> w.drew.cell? (A.add j) = some u) := by
  by_cases e : cap = i + 1
  ·refine ⟨_, if_pos e, fun j u hu => ?_⟩
   rw [List.drop_of_length_le (by omega)] at hu
   simp at hu
  ·refine ⟨_, if_neg e, fun j u hu => ?_⟩
   rw [addrP]
   show w.cell? _ = _
   rw [cell_of hcur]
   rw [List.getElem?_drop] at hu
   rw [<- hct, List.getElem?_take] at hu
   split at hu
   ·exact hu
   ·cases hu
 have Hcur : Hid (w.heap[g]? = some (.cells cur.toArray 52 (0, 0))) := hcur
 have Hct : Hid (cur.take (n * 2) = xs) := hct
 have Hxl : Hid (xs.length = n * 2) := hxl
 have Hcl : Hid (cur.length = cap * 2) := hcl
 have tok1 : True := trivial
 clear hown hcur hct hxl hcl
 go_enter Tryz.func59, Tryz.ntmps59
 go_wp2
 go_region_law (have _t := tok1; go_must (refine step_moveK rfl _ _ 33 52 rfl Tryz.underlying33 infoE g i cap A (n - (i + 1)) (cap - (i + 1)) cur (xs.drop ((i + 1) * 2)) 52 (by simp [Act.eval, Act.put]) (by simp [Act.eval, Act.put]) Hcur.out (by have := Hxl.out; rw [List.length_drop]; omega) HA.out (fun u hu => h1x u (List.mem_of_mem_drop hu)) (by omega) Hcl.out ?_; intro w2 p1 p2 p3; rw [hmm.out]; have M1 : Hid (w2.heap[g]? = some (.cells (over cur (i * 2) (xs.drop ((i + 1) * 2))).toArray 52 (0, 0))) := p1; clear p1; have M2 : Hid (w.grownBy w2 (some g)) := ⟨p2.os, p2.tape, p2.output, p2.size, p2.block⟩; clear p2; have M3 : Hid (w2.heap.size = w.heap.size) := p3; clear p3 tok1 _t))
 all_goals
  have hd1 : ((n - 1 : Nat) : Int) <= (n : Int) := by omega
  have hd2 : ¬ (cap = n - 1) := by omega
  have hd3 : n - 1 <= n := by omega
  have hd4 : n <= cap := by omega
  have tok2 : True := trivial
  have Hov : Hid ((over cur (i * 2) (xs.drop ((i + 1) * 2))).length = cap * 2) := by
   show _ = _
   have h1 := Hxl.out
   have h2 := Hcl.out
   rw [over_length (by rw [List.length_drop]; omega), h2]
  go_wp2_with (have _t := tok2; have _m := M1; (refine wpList_clearK _ rfl _ 33 52 rfl Tryz.underlying33 infoE rfl (by intro u hu; simp [Value.cells] at hu; subst hu; rfl) (by decide) g ((n - 1) * 2) (n - (n - 1)) (cap - (n - 1)) (over cur (i * 2) (xs.drop ((i + 1) * 2))) 52 rfl M1.out (by omega) (by rw [Hov.out]; omega) ?_; intro w3 zs q0 q1 q2 q3; clear tok2 _t _m))
  go_ret
  have h1 := Hxl.out
  have h2 := Hcl.out
  have hzl : zs.length = 2 := by rw [q0, show n - (n - 1) = 1 by omega, Nat.one_mul]
  refine ⟨rfl, own_of_full q1 hbg (by omega) (by unfold maxLen; omega) (by rw [over_length (by rw [Hov.out]; omega), Hov.out]) ?_, ⟨q2.os.trans M2.out.os, q2.tape.trans M2.out.tape, q2.output.trans M2.out.output, by have := M3.out; omega, fun k hk hne => (q2.block k (by have := M3.out; omega) hne).trans (M2.out.block k hk hne)⟩⟩
  exact over_del (cur := cur) (xs := xs) (zs := zs) (i := i) (n := n) (k := 2) Hct.out hi hzl (by omega)
end Go.Proofs.YtmapmkogjhinmaaGreat.A
