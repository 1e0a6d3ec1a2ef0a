/- Delete of the program. -/
import Derived.Test.YtmapmkogjhinmaaA07
import Derived.Lib.Bytealg
import Derived.Shelf.Abstract
import Derived.Test.YtmapmkogjhinmaaA06
namespace Go.Proofs.Ytmapmkogjhinmaa
open Go.RowKit
set_option linter.unusedVariables false
set_option linter.unusedSimpArgs false
structure PdT (w : World) (ro : Nat -> Nat) (db : Nat) (D : Dc) (z : Int) (sa : Option Addr) (scap : Nat) (ra : Option Addr) (rcap : Nat) (L : List (Value × Value)) : Prop where
 head : IsCells w db #[.slice sa D.S.length scap, .slice ra D.roots.length rcap, .int .i64 z]
 slots : w.ownsRow 0 77 8 (.slice sa D.S.length scap) D.S.length (rowOf D.S L)
 roots : w.ownsRow 0 67 1 (.slice ra D.roots.length rcap) D.roots.length (hvals D.roots)
 len : L.length = D.S.length
 vals : ∀ (i : Nat) (s : Sl) (p : Value × Value), D.S[i]? = some s -> L[i]? = some p -> w.ownsRow 0 99 2 p.1 s.attrs.length (attrCells s.attrs) /\ w.ownsRow 0 67 1 p.2 s.kids.length (hvals s.kids)
 rdb : ro db = 1
 rs : ∀ b, (Value.slice sa D.S.length scap).ownBlock = some b -> ro b = 2
 rr : ∀ b, (Value.slice ra D.roots.length rcap).ownBlock = some b -> ro b = 3
 rat : ∀ (i : Nat) (p : Value × Value) (b : Nat), L[i]? = some p -> p.1.ownBlock = some b -> ro b = 2 * i + 4
 rk : ∀ (i : Nat) (p : Value × Value) (b : Nat), L[i]? = some p -> p.2.ownBlock = some b -> ro b = 2 * i + 5
 lt : ∀ b, ro b ≠ 0 -> b < w.heap.size
section
variable {w w' : World} {ro : Nat -> Nat} {db : Nat} {D : Dc} {z : Int} {sa : Option Addr} {scap : Nat} {ra : Option Addr} {rcap : Nat} {L : List (Value × Value)}
theorem PdS.toT (h : PdS w ro db D sa scap ra rcap L) : PdT w ro db D (cnt Sl.live D.S) sa scap ra rcap L := ⟨h.head, h.slots, h.roots, h.len, h.vals, h.rdb, h.rs, h.rr, h.rat, h.rk, h.lt⟩
theorem PdT.toS (h : PdT w ro db D z sa scap ra rcap L) (hz : z = (cnt Sl.live D.S : Int)) : PdS w ro db D sa scap ra rcap L := ⟨by rw [<- hz]; exact h.head, h.slots, h.roots, h.len, h.vals, h.rdb, h.rs, h.rr, h.rat, h.rk, h.lt⟩
theorem PdT.of_blocks (h : PdT w ro db D z sa scap ra rcap L) (hb : ∀ b, ro b ≠ 0 -> w'.heap[b]? = w.heap[b]?) (hs : w.heap.size <= w'.heap.size) : PdT w' ro db D z sa scap ra rcap L := by
 refine ⟨h.head.of_block (hb db (by rw [h.rdb]; omega)), own_of_block h.slots (fun k hk => hb k (by rw [h.rs k hk]; omega)), own_of_block h.roots (fun k hk => hb k (by rw [h.rr k hk]; omega)), h.len, fun i s p hs' hp => ?_, h.rdb, h.rs, h.rr, h.rat, h.rk, fun b hb' => Nat.lt_of_lt_of_le (h.lt b hb') hs⟩
 obtain ⟨h1, h2⟩ := h.vals i s p hs' hp
 exact ⟨own_of_block h1 (fun k hk => hb k (by rw [h.rat i p k hp hk]; omega)), own_of_block h2 (fun k hk => hb k (by rw [h.rk i p k hp hk]; omega))⟩
theorem PdT.below (h : PdT w ro db D z sa scap ra rcap L) (hb : Below w.heap.size w w') : PdT w' ro db D z sa scap ra rcap L :=
 h.of_blocks (fun b hb' => hb.block b (h.lt b hb')) hb.size
theorem PdT.count (h : PdT w ro db D z sa scap ra rcap L) (z' : Int) : PdT (w.setCell ⟨db, 2, none⟩ (.int .i64 z')) ro db D z' sa scap ra rcap L := by
 have hblk : ∀ b, ro b ≠ 1 -> (w.setCell ⟨db, 2, none⟩ (.int .i64 z')).heap[b]? = w.heap[b]? := fun b hb => Below.heap_setCell _ _ _ _ (by show b ≠ db; rintro rfl; exact hb h.rdb)
 refine ⟨by have := h.head.set 2 (.int .i64 z'); simpa using this, own_of_block h.slots (fun k hk => hblk k (by rw [h.rs k hk]; omega)), own_of_block h.roots (fun k hk => hblk k (by rw [h.rr k hk]; omega)), h.len, fun i s p hs' hp => ?_, h.rdb, h.rs, h.rr, h.rat, h.rk, fun b hb' => by simpa [World.setCell] using h.lt b hb'⟩
 obtain ⟨h1, h2⟩ := h.vals i s p hs' hp
 exact ⟨own_of_block h1 (fun k hk => hblk k (by rw [h.rat i p k hp hk]; omega)), own_of_block h2 (fun k hk => hblk k (by rw [h.rk i p k hp hk]; omega))⟩
theorem PdT.slotVals (h : PdT w ro db D z sa scap ra rcap L) {i : Nat} {s : Sl} {p : Value × Value} (hs : D.S[i]? = some s) (hp : L[i]? = some p) : SlotVals w (fun b => ro b ≠ 0) s p := by
 obtain ⟨h1, h2⟩ := h.vals i s p hs hp
 obtain ⟨aa, ac, e1, l1, v1⟩ := attrs_row' (R := fun b => ro b ≠ 0) h1 (fun b hb => by rw [h.rat i p b hp hb]; omega)
 obtain ⟨ka, kc, e2, l2, v2⟩ := hands_row (R := fun b => ro b ≠ 0) h2 (fun b hb => by rw [h.rk i p b hp hb]; omega)
 exact ⟨aa, ac, ka, kc, by rw [<- e1, <- e2], l1, l2, v1, v2⟩
theorem PdT.view (h : PdT w ro db D z sa scap ra rcap L) : View w (fun b => ro b ≠ 0) db D := by
 obtain ⟨h1, _, h3⟩ := slots_row (R := fun b => ro b ≠ 0) h.len h.slots (fun i s p hs hp => h.slotVals hs hp) (fun g e _ _ => by subst e; rw [h.rs g rfl]; omega)
 obtain ⟨a, cap, e, l, hr⟩ := hands_row (R := fun b => ro b ≠ 0) h.roots (fun b hb => by rw [h.rr b hb]; omega)
 simp only [Value.slice.injEq, true_and] at e
 obtain ⟨rfl, rfl⟩ := e
 exact ⟨by show ro db ≠ 0; rw [h.rdb]; omega, h.lt, ⟨sa, scap, by rw [h.head.cell]; rfl, h3, h1⟩, ⟨ra, rcap, by rw [h.head.cell]; rfl, l, hr⟩⟩
theorem PdT.slot (h : PdT w ro db D z sa scap ra rcap L) {i : Nat} {s : Sl} (hs : D.S[i]? = some s) :
  ∃ g p, sa = some ⟨g, 0, none⟩ /\ ro g = 2 /\ L[i]? = some p /\ D.S.length <= scap /\ w.cell? ⟨db, 0, none⟩ = some (.slice (some ⟨g, 0, none⟩) D.S.length scap) /\ ∀ j u, (slotCells s p)[j]? = some u -> w.cell? ⟨g, i * 8 + j, none⟩ = some u /\ w.frozen? ⟨g, i * 8 + j, none⟩ = false := by
 have hi := (List.getElem?_eq_some_iff.1 hs).1
 obtain ⟨p, hp⟩ : ∃ p, L[i]? = some p := ⟨_, List.getElem?_eq_getElem (by rw [h.len]; exact hi)⟩
 obtain ⟨h1, h2, h3⟩ := row_cell h.slots
 obtain ⟨g, e, _, _, _⟩ := h3 (i * 8 + 0) _ (by rw [rowOf_get hs hp (by omega)]; rfl)
 subst e
 refine ⟨g, p, rfl, h.rs g rfl, hp, h1, by rw [h.head.cell]; rfl, fun j u hu => ?_⟩
 have hj8 : j < 8 := (List.getElem?_eq_some_iff.1 hu).1
 obtain ⟨g', e1, _, _, e2⟩ := h3 (i * 8 + j) u (by rw [rowOf_get hs hp hj8]; exact hu)
 cases e1
 exact ⟨e2, own_frozen h.slots _⟩
end
section
variable {w : World} {ro : Nat -> Nat} {db : Nat} {D : Dc} {z : Int} {g scap : Nat} {ra : Option Addr} {rcap : Nat} {L : List (Value × Value)}
theorem PdT.cell (h : PdT w ro db D z (some ⟨g, 0, none⟩) scap ra rcap L) {i j : Nat} {s s' : Sl} {p p' : Value × Value} {u : Value} (hs : D.S[i]? = some s) (hp : L[i]? = some p) (hj : j < 8) (hc : slotCells s' p' = (slotCells s p).set j u)
  (hv : w.ownsRow 0 99 2 p'.1 s'.attrs.length (attrCells s'.attrs) /\ w.ownsRow 0 67 1 p'.2 s'.kids.length (hvals s'.kids)) (hq1 : ∀ b, p'.1.ownBlock = some b -> ro b = 2 * i + 4) (hq2 : ∀ b, p'.2.ownBlock = some b -> ro b = 2 * i + 5) :
  PdT (w.setCell ⟨g, i * 8 + j, none⟩ u) ro db { D with S := D.S.set i s' } z (some ⟨g, 0, none⟩) scap ra rcap (L.set i p') := by
 have hg : ro g = 2 := h.rs g rfl
 have hi := (List.getElem?_eq_some_iff.1 hs).1
 have hblk : ∀ b, ro b ≠ 2 -> (w.setCell ⟨g, i * 8 + j, none⟩ u).heap[b]? = w.heap[b]? := fun b hb => Below.heap_setCell _ _ _ _ (by show b ≠ g; rintro rfl; exact hb hg)
 refine ⟨?_, ?_, own_of_block h.roots (fun k hk => hblk k (by rw [h.rr k hk]; omega)), by simp [h.len], fun k x y hx hy => ?_, h.rdb, by simpa using h.rs, h.rr, fun k y b hy hb => ?_, fun k y b hy hb => ?_, fun b hb => by simpa [World.setCell] using h.lt b hb⟩
 ·have := h.head.of_block (hblk db (by rw [h.rdb]; omega))
  simpa using this
 ·have := own_set h.slots (i * 8 + j) u
  rw [<- rowOf_set h.len hs hp hj hc] at this
  simpa using this
 ·by_cases hk : k = i
  ·subst hk
   rw [List.getElem?_set_self hi] at hx
   rw [List.getElem?_set_self (by rw [h.len]; exact hi)] at hy
   cases hx
   cases hy
   exact ⟨own_of_block hv.1 (fun b hb => hblk b (by rw [hq1 b hb]; omega)), own_of_block hv.2 (fun b hb => hblk b (by rw [hq2 b hb]; omega))⟩
  ·rw [List.getElem?_set_ne (by omega)] at hx hy
   obtain ⟨v1, v2⟩ := h.vals k x y hx hy
   exact ⟨own_of_block v1 (fun b hb => hblk b (by rw [h.rat k y b hy hb]; omega)), own_of_block v2 (fun b hb => hblk b (by rw [h.rk k y b hy hb]; omega))⟩
 ·by_cases hk : k = i
  ·subst hk
   rw [List.getElem?_set_self (by rw [h.len]; exact hi)] at hy
   cases hy
   exact hq1 b hb
  ·rw [List.getElem?_set_ne (by omega)] at hy
   exact h.rat k y b hy hb
 ·by_cases hk : k = i
  ·subst hk
   rw [List.getElem?_set_self (by rw [h.len]; exact hi)] at hy
   cases hy
   exact hq2 b hb
  ·rw [List.getElem?_set_ne (by omega)] at hy
   exact h.rk k y b hy hb
theorem PdT.cell' {i : Nat} {s : Sl} {p : Value × Value} (h : PdT w ro db { D with S := D.S.set i s } z (some ⟨g, 0, none⟩) scap ra rcap (L.set i p)) {j : Nat} {s' : Sl} {p' : Value × Value} {u : Value} (hi : i < D.S.length) (hl : L.length = D.S.length) (hj : j < 8) (hc : slotCells s' p' = (slotCells s p).set j u)
  (hv : w.ownsRow 0 99 2 p'.1 s'.attrs.length (attrCells s'.attrs) /\ w.ownsRow 0 67 1 p'.2 s'.kids.length (hvals s'.kids)) (hq1 : ∀ b, p'.1.ownBlock = some b -> ro b = 2 * i + 4) (hq2 : ∀ b, p'.2.ownBlock = some b -> ro b = 2 * i + 5) :
  PdT (w.setCell ⟨g, i * 8 + j, none⟩ u) ro db { D with S := D.S.set i s' } z (some ⟨g, 0, none⟩) scap ra rcap (L.set i p') := by
 have := h.cell (i := i) (s := s) (p := p) (List.getElem?_set_self hi) (List.getElem?_set_self (by omega)) hj hc hv hq1 hq2
 simpa only [List.set_set] using this
theorem two_rows {i k : Nat} {p : Value × Value} {A : List (ByteArray × ByteArray)} {K : List Nat} (hg : ro g = 2) (h1 : w.ownsRow 0 99 2 p.1 A.length (attrCells A) /\ w.ownsRow 0 67 1 p.2 K.length (hvals K)) (hq1 : ∀ b, p.1.ownBlock = some b -> ro b = 2 * i + 4) (hq2 : ∀ b, p.2.ownBlock = some b -> ro b = 2 * i + 5) (u : Value) :
  (w.setCell ⟨g, k, none⟩ u).ownsRow 0 99 2 p.1 A.length (attrCells A) /\ (w.setCell ⟨g, k, none⟩ u).ownsRow 0 67 1 p.2 K.length (hvals K) :=
 ⟨own_of_block h1.1 (fun b hb => Below.heap_setCell _ _ _ _ (by show b ≠ g; rintro rfl; have := hq1 b hb; omega)), own_of_block h1.2 (fun b hb => Below.heap_setCell _ _ _ _ (by show b ≠ g; rintro rfl; have := hq2 b hb; omega))⟩
end
end Go.Proofs.Ytmapmkogjhinmaa
/- Delete of the program, walked. -/
namespace Go.Proofs.Ytmapmkogjhinmaa
open Go.RowKit
set_option linter.unusedVariables false
set_option linter.unusedSimpArgs false
end Go.Proofs.Ytmapmkogjhinmaa
/- Attributes by their names: their order, and where one stands (findAttr). -/
namespace Go.Proofs.Ytmapmkogjhinmaa
open Go.RowKit
set_option linter.unusedVariables false
set_option linter.unusedSimpArgs false
def ltN (a b : ByteArray) : Prop := a.data.toList < b.data.toList
instance (a b : ByteArray) : Decidable (ltN a b) := by unfold ltN; infer_instance
end Go.Proofs.Ytmapmkogjhinmaa
/- slices.Insert and slices.Delete of one element: a row of one's own, at attributes. -/
namespace Go.Proofs.Ytmapmkogjhinmaa.A
open Go.RowKit
set_option linter.unusedVariables false
set_option linter.unusedSimpArgs false
theorem infoE : InfoOf Try.prog 99 (.agg #[.string ⟨#[]⟩, .string ⟨#[]⟩]) 2 32 := by unfold InfoOf; kernel_rfl
theorem sizeE : (Try.prog.info? 99).map (·.size) = some 2 := by kernel_rfl
def InsP (w : World) (base : Nat) (v : Value) (n i : Nat) (xs vs : List Value) (e : Ending) (w' : World) : Prop :=
 ∃ v', e = .returned v' /\ w'.ownsRow base 99 2 v' (n + 1) (xs.take (i * 2) ++ vs ++ xs.drop (i * 2)) /\ w.grownBy w' v.ownBlock /\ (v'.ownBlock = v.ownBlock \/ v'.ownBlock = some w.heap.size)
end Go.Proofs.Ytmapmkogjhinmaa.A
/- SetAttr and DropAttr of the program. -/
namespace Go.Proofs.Ytmapmkogjhinmaa
open Go.RowKit
set_option linter.unusedVariables false
set_option linter.unusedSimpArgs false
structure AttAt (w : World) (ro : Nat -> Nat) (db : Nat) (D : Dc) (i : Nat) (s : Sl) (g scap : Nat) (aa : Option Addr) (ac : Nat) : Prop where
 hd : w.cell? ⟨db, 0, none⟩ = some (.slice (some ⟨g, 0, none⟩) D.S.length scap)
 cell : w.cell? ⟨g, i * 8 + 4, none⟩ = some (.slice aa s.attrs.length ac)
 fz : w.frozen? ⟨g, i * 8 + 4, none⟩ = false
 own : w.ownsRow 0 99 2 (.slice aa s.attrs.length ac) s.attrs.length (attrCells s.attrs)
 rog : ro g ≠ 0
 lt : g < w.heap.size
 ne : ∀ k, (Value.slice aa s.attrs.length ac).ownBlock = some k -> k ≠ g /\ ro k ≠ 0
 put : ∀ w' l' a' c', w.grownBy w' (Value.slice aa s.attrs.length ac).ownBlock -> w'.ownsRow 0 99 2 (.slice a' l'.length c') l'.length (attrCells l') -> (∀ k, (Value.slice a' l'.length c').ownBlock = some k -> (Value.slice aa s.attrs.length ac).ownBlock = some k \/ w.heap.size <= k) ->
  ∃ ro', PE w ro db { D with S := D.S.set i { s with attrs := l' } } (w'.setCell ⟨g, i * 8 + 4, none⟩ (.slice a' l'.length c')) ro'
 inp : ∀ w' l', w.grownBy w' (Value.slice aa s.attrs.length ac).ownBlock -> w'.ownsRow 0 99 2 (.slice aa s.attrs.length ac) l'.length (attrCells l') -> PE w ro db { D with S := D.S.set i { s with attrs := l' } } w' ro
theorem AttAt.below {w W : World} {ro : Nat -> Nat} {db : Nat} {D : Dc} {i : Nat} {s : Sl} {g scap : Nat} {aa : Option Addr} {ac : Nat} (h : AttAt w ro db D i s g scap aa ac) (hb : Below w.heap.size w W) :
  W.cell? ⟨g, i * 8 + 4, none⟩ = some (.slice aa s.attrs.length ac) /\ W.frozen? ⟨g, i * 8 + 4, none⟩ = false /\ W.ownsRow 0 99 2 (.slice aa s.attrs.length ac) s.attrs.length (attrCells s.attrs) :=
 ⟨(hb.cell (p := ⟨g, _, none⟩) h.lt).trans h.cell, (hb.frozen (p := ⟨g, _, none⟩) h.lt).trans h.fz, own_of_block h.own (fun k hk => hb.block k (own_block_lt h.own k hk).2)⟩
end Go.Proofs.Ytmapmkogjhinmaa
/- SetAttr of the program. -/
namespace Go.Proofs.Ytmapmkogjhinmaa
open Go.RowKit
set_option linter.unusedVariables false
set_option linter.unusedSimpArgs false
end Go.Proofs.Ytmapmkogjhinmaa
/- What every document keeps, kept: SetAttr, DropAttr. -/
namespace Go.Proofs.Ytmapmkogjhinmaa
open Go.RowKit
set_option linter.unusedVariables false
set_option linter.unusedSimpArgs false
end Go.Proofs.Ytmapmkogjhinmaa
/- A tree's nodes made in a document, in plain. -/
namespace Go.Proofs.Ytmapmkogjhinmaa
open Go.RowKit
set_option linter.unusedVariables false
set_option linter.unusedSimpArgs false
def mkS {α : Type} (gen : Nat) (t : Nd α) (p : Nat) (ks : List Nat) : Sl :=
 { gen := gen, live := true, kind := t.kind, name := if t.kind = 2 then ⟨#[]⟩ else t.name, attrs := if t.kind = 2 then [] else t.attrs, text := if t.kind = 2 then t.text else ⟨#[]⟩, parent := p, kids := ks }
def genAt (D : Dc) (i : Nat) : Nat := match D.S[i]? with | some s => s.gen | none => 0
def setKI (D : Dc) (i : Nat) (l : List Nat) : Dc := match D.S[i]? with | some s => setS D i { s with kids := l } | none => D
def growK {α : Type} (f : α -> Nat -> Dc -> Dc × Nat) (h : Nat) : List α -> Dc -> Dc × List Nat
 | [], D => (D, [])
 | k :: r, D => ((growK f h r (f k h D).1).1, (f k h D).2 :: (growK f h r (f k h D).1).2)
def seed {α : Type} (D : Dc) (t : Nd α) (p : Nat) : Dc := setS (freeD D).2 (freeD D).1 (mkS (genAt (freeD D).2 (freeD D).1 + 1) t p [])
def seedH (D : Dc) : Nat := hnd (freeD D).1 (genAt (freeD D).2 (freeD D).1 + 1)
def growD : (n : Nat) -> T n -> Nat -> Dc -> Dc × Nat
 | 0, _, _, D => (D, 0)
 | n + 1, t, p, D => (setKI (growK (growD n) (seedH D) (kidsT t) (seed D t p)).1 (freeD D).1 (growK (growD n) (seedH D) (kidsT t) (seed D t p)).2, seedH D)
structure Sane (D : Dc) : Prop where
 fits : Fits D
 gen1 : ∀ (i : Nat) (s : Sl), D.S[i]? = some s -> 1 <= s.gen
 dead : ∀ (i : Nat) (s : Sl), D.S[i]? = some s -> s.live = false -> s = zeroSl s.gen
 own : ∀ (i : Nat) (s : Sl), D.S[i]? = some s -> s.live = true -> ownE (ndOf s) = 0
 used : ∀ (i : Nat) (s : Sl), D.S[i]? = some s -> s.live = true -> (s.kind = 2 -> s.kids = [] /\ s.name = ⟨#[]⟩ /\ s.attrs = []) /\ (s.kind = 1 -> s.text = ⟨#[]⟩)
theorem WF.sane {D : Dc} (h : WF D) : Sane D := ⟨h.fits, h.gen1, h.dead, h.own, h.used⟩
theorem free_facts {D : Dc} (hs : Sane D) (hc : cnt takenB D.S + 1 <= 4096) :
  (freeD D).1 <= D.S.length /\ (freeD D).2.roots = D.roots /\ (freeD D).1 < (freeD D).2.S.length /\ (freeD D).2.S.length <= 4096 /\ D.S.length <= (freeD D).2.S.length /\ genAt (freeD D).2 (freeD D).1 + 1 < 4294967296 /\
  (∃ s0, (freeD D).2.S[(freeD D).1]? = some s0 /\ s0.live = false /\ s0.gen < 4294967295 /\ s0.gen = genAt (freeD D).2 (freeD D).1) /\ (∀ j, j ≠ (freeD D).1 -> (freeD D).2.S[j]? = D.S[j]?) /\ (∀ s, D.S[(freeD D).1]? = some s -> s.live = false) := by
 unfold freeD
 cases hi : D.S.findIdx? freeB with
 | some i =>
  simp only
  rw [List.findIdx?_eq_some_iff_getElem] at hi
  obtain ⟨h1, h2, _⟩ := hi
  have hg : D.S[i]? = some D.S[i] := List.getElem?_eq_getElem h1
  have hb : D.S[i].live = false /\ D.S[i].gen < 4294967295 := by
   unfold freeB at h2
   simpa using h2
  have hga : genAt D i = D.S[i].gen := by unfold genAt; rw [hg]
  refine ⟨by omega, trivial, h1, hs.fits.len, Nat.le_refl _, by rw [hga]; omega, ⟨D.S[i], hg, hb.1, hb.2, hga.symm⟩, fun _ _ => trivial, fun s h => ?_⟩
  rw [hg] at h
  cases h
  exact hb.1
 | none =>
  simp only
  rw [List.findIdx?_eq_none_iff] at hi
  have hall : cnt takenB D.S = D.S.length := by
   unfold cnt
   rw [List.filter_eq_self.2]
   intro s hm
   have := hi s hm
   obtain ⟨j, hj⟩ := List.getElem?_of_mem hm
   have hg := hs.fits.gen j s hj
   unfold freeB at this
   unfold takenB
   cases hl : s.live with
   | true => rfl
   | false =>
    rw [hl] at this
    simp only [Bool.not_false, Bool.true_and, decide_eq_false_iff_not] at this
    simp only [Bool.false_or, decide_eq_true_eq]
    omega
  have hg : (D.S ++ [zeroSl 0])[D.S.length]? = some (zeroSl 0) := by simp
  have hga : genAt { D with S := D.S ++ [zeroSl 0] } D.S.length = 0 := by unfold genAt; simp only [hg]; rfl
  refine ⟨Nat.le_refl _, trivial, by simp, by simp; omega, by simp, by rw [hga]; omega, ⟨zeroSl 0, hg, rfl, by simp [zeroSl], by rw [hga]; rfl⟩, fun j hj => ?_, fun s h => ?_⟩
  ·by_cases hlt : j < D.S.length
   ·exact List.getElem?_append_left hlt
   ·rw [List.getElem?_eq_none (by simp; omega), List.getElem?_eq_none (by omega)]
  ·rw [List.getElem?_eq_none (Nat.le_refl _)] at h
   cases h
theorem hnd_idx {i g : Nat} (hi : i < 4294967295) : (hnd i g) % 4294967296 = i + 1 /\ (hnd i g) / 4294967296 = g := by
 unfold hnd
 omega
theorem sl_iff {D : Dc} {x : Nat} {s : Sl} : sl D x = some s ↔ x % 4294967296 ≠ 0 /\ D.S[x % 4294967296 - 1]? = some s /\ s.live = true /\ s.gen = x / 4294967296 := by
 unfold sl atI
 by_cases h0 : x % 4294967296 = 0
 ·simp [h0]
 ·simp only [if_neg h0]
  cases h : D.S[x % 4294967296 - 1]? with
  | none => simp
  | some t =>
   simp only
   by_cases hc : t.live = true /\ t.gen = x / 4294967296
   ·rw [if_pos hc]
    simp only [Option.bind_some, h, Option.some.injEq]
    constructor
    ·rintro rfl
     exact ⟨h0, rfl, hc.1, hc.2⟩
    ·rintro ⟨_, e, _, _⟩
     exact e
   ·rw [if_neg hc]
    simp only [Option.bind_none]
    constructor
    ·intro e
     cases e
    ·rintro ⟨_, e, h1, h2⟩
     cases e
     exact absurd ⟨h1, h2⟩ hc
theorem mkS_own {α : Type} {t : Nd α} {g p : Nat} {ks : List Nat} (h : ownE t = 0) : ownE (ndOf (mkS g t p ks)) = 0 /\ (t.kind = 1 \/ t.kind = 2) := by
 unfold ownE at h
 by_cases h1 : t.kind = 1
 ·refine ⟨?_, .inl h1⟩
  rw [if_pos h1] at h
  unfold ownE
  have hk : (ndOf (mkS g t p ks)).kind = 1 := h1
  have h2 : ¬ t.kind = 2 := by omega
  rw [if_pos hk]
  show (if nameL (if t.kind = 2 then (⟨#[]⟩ : ByteArray) else t.name).data.toList then attrsE (if t.kind = 2 then [] else t.attrs) else 6) = 0
  rw [if_neg h2, if_neg h2]
  exact h
 ·rw [if_neg h1] at h
  by_cases h2 : t.kind = 2
  ·refine ⟨?_, .inr h2⟩
   rw [if_pos h2] at h
   unfold ownE
   have hk1 : ¬ (ndOf (mkS g t p ks)).kind = 1 := h1
   have hk2 : (ndOf (mkS g t p ks)).kind = 2 := h2
   rw [if_neg hk1, if_pos hk2]
   show (tans (if t.kind = 2 then t.text else (⟨#[]⟩ : ByteArray)).data.toList).2 = 0
   rw [if_pos h2]
   exact h
  ·rw [if_neg h2] at h
   cases h
theorem seed_facts {α : Type} {D : Dc} (hs : Sane D) (hc : cnt takenB D.S + 1 <= 4096) (t : Nd α) (p : Nat) (ho : ownE t = 0) :
  Sane (seed D t p) /\ (seed D t p).roots = D.roots /\ cnt takenB (seed D t p).S = cnt takenB D.S + 1 /\ cnt Sl.live (seed D t p).S = cnt Sl.live D.S + 1 /\ sl D (seedH D) = none /\
  atI (seed D t p).S (seedH D) = some (freeD D).1 /\ (seed D t p).S[(freeD D).1]? = some (mkS (genAt (freeD D).2 (freeD D).1 + 1) t p []) /\ (∀ y, y ≠ seedH D -> sl (seed D t p) y = sl D y) /\ seedH D ≠ 0 /\ seedH D < 18446744073709551616 := by
 obtain ⟨f1, f2, f3, f4, f5, f6, ⟨s0, f7, f8, f9, f10⟩, f11, f12⟩ := free_facts hs hc
 have hget : (seed D t p).S[(freeD D).1]? = some (mkS (genAt (freeD D).2 (freeD D).1 + 1) t p []) := List.getElem?_set_self f3
 have hoth : ∀ j, j ≠ (freeD D).1 -> (seed D t p).S[j]? = D.S[j]? := fun j hj => by
  show ((freeD D).2.S.set (freeD D).1 _)[j]? = _
  rw [List.getElem?_set_ne (Ne.symm hj), f11 j hj]
 obtain ⟨o1, o2⟩ := mkS_own (g := genAt (freeD D).2 (freeD D).1 + 1) (p := p) (ks := []) ho
 have hil : (freeD D).1 < 4294967295 := by omega
 obtain ⟨e1, e2⟩ := hnd_idx (i := (freeD D).1) (g := genAt (freeD D).2 (freeD D).1 + 1) hil
 have hcntD : ∀ f : Sl -> Bool, f (zeroSl 0) = false -> cnt f (freeD D).2.S = cnt f D.S := fun f hf => by
  unfold freeD
  cases hi : D.S.findIdx? freeB with
  | some i => rfl
  | none => simp [cnt, List.filter_append, hf]
 have hcset : ∀ f : Sl -> Bool, f s0 = false -> f (mkS (genAt (freeD D).2 (freeD D).1 + 1) t p []) = true -> cnt f (seed D t p).S = cnt f (freeD D).2.S + 1 := fun f h1 h2 => by
  unfold cnt
  have hsp : (freeD D).2.S = (freeD D).2.S.take (freeD D).1 ++ s0 :: (freeD D).2.S.drop ((freeD D).1 + 1) := by
   rw [<- (List.getElem?_eq_some_iff.1 f7).2, <- List.drop_eq_getElem_cons f3, List.take_append_drop]
  have hst : (seed D t p).S = (freeD D).2.S.take (freeD D).1 ++ mkS (genAt (freeD D).2 (freeD D).1 + 1) t p [] :: (freeD D).2.S.drop ((freeD D).1 + 1) := by
   show (freeD D).2.S.set (freeD D).1 _ = _
   rw [List.set_eq_take_append_cons_drop, if_pos f3]
  rw [hst]
  conv => rhs; rw [hsp]
  rw [List.filter_append, List.filter_append, List.filter_cons, List.filter_cons, if_pos h2, if_neg (by simp [h1])]
  simp
  omega
 have hall : ∀ (j : Nat) (s : Sl), (seed D t p).S[j]? = some s -> (j = (freeD D).1 /\ s = mkS (genAt (freeD D).2 (freeD D).1 + 1) t p []) \/ (j ≠ (freeD D).1 /\ D.S[j]? = some s) := fun j s h => by
  by_cases e : j = (freeD D).1
  ·left
   rw [e, hget] at h
   cases h
   exact ⟨e, rfl⟩
  ·right
   rw [hoth j e] at h
   exact ⟨e, h⟩
 refine ⟨⟨⟨?_, fun j s h => ?_⟩, fun j s h => ?_, fun j s h hd => ?_, fun j s h hl => ?_, fun j s h hl => ?_⟩, f2, ?_, ?_, ?_, ?_, hget, fun y hy => ?_, ?_, ?_⟩
 ·show ((freeD D).2.S.set (freeD D).1 _).length <= 4096
  simpa using f4
 ·rcases hall j s h with ⟨_, rfl⟩ | ⟨_, h1⟩
  ·exact f6
  ·exact hs.fits.gen j s h1
 ·rcases hall j s h with ⟨_, rfl⟩ | ⟨_, h1⟩
  ·show 1 <= genAt (freeD D).2 (freeD D).1 + 1
   omega
  ·exact hs.gen1 j s h1
 ·rcases hall j s h with ⟨_, rfl⟩ | ⟨_, h1⟩
  ·cases hd
  ·exact hs.dead j s h1 hd
 ·rcases hall j s h with ⟨_, rfl⟩ | ⟨_, h1⟩
  ·exact o1
  ·exact hs.own j s h1 hl
 ·rcases hall j s h with ⟨_, rfl⟩ | ⟨_, h1⟩
  ·refine ⟨fun hk => ?_, fun hk => ?_⟩
   ·have hk' : t.kind = 2 := hk
    exact ⟨rfl, by show (if t.kind = 2 then _ else _) = _; rw [if_pos hk'], by show (if t.kind = 2 then _ else _) = _; rw [if_pos hk']⟩
   ·have hk' : t.kind = 1 := hk
    show (if t.kind = 2 then _ else _) = _
    rw [if_neg (by omega)]
  ·exact hs.used j s h1 hl
 ·rw [hcset takenB (by unfold takenB; rw [f8]; simp; omega) (by simp [takenB, mkS]), hcntD takenB (by simp [takenB, zeroSl])]
 ·rw [hcset Sl.live f8 rfl, hcntD Sl.live rfl]
 ·cases h : sl D (seedH D) with
  | none => rfl
  | some s =>
   obtain ⟨_, h2, h3, _⟩ := sl_iff.1 h
   unfold seedH at h2
   rw [e1] at h2
   simp only [Nat.add_sub_cancel] at h2
   rw [f12 s h2] at h3
   cases h3
 ·have := atI_hnd (S := (seed D t p).S) hget rfl hil
  exact this
 ·cases h : sl D y with
  | some s =>
   obtain ⟨h1, h2, h3, h4⟩ := sl_iff.1 h
   rw [sl_iff]
   refine ⟨h1, ?_, h3, h4⟩
   rw [hoth _ (fun e => ?_)]
   ·exact h2
   ·rw [e] at h2
    rw [f12 s h2] at h3
    cases h3
  | none =>
   cases h2 : sl (seed D t p) y with
   | none => rfl
   | some s =>
    exfalso
    obtain ⟨k1, k2, k3, k4⟩ := sl_iff.1 h2
    rcases hall _ s k2 with ⟨e, rfl⟩ | ⟨e, k5⟩
    ·apply hy
     unfold seedH hnd
     have k4' : genAt (freeD D).2 (freeD D).1 + 1 = y / 4294967296 := k4
     rw [k4']
     omega
    ·have := sl_iff.2 ⟨k1, k5, k3, k4⟩
     rw [h] at this
     cases this
 ·unfold seedH hnd
  omega
 ·unfold seedH hnd
  omega
end Go.Proofs.Ytmapmkogjhinmaa
/- Trees made in a document, in plain: what is new, what stays. -/
namespace Go.Proofs.Ytmapmkogjhinmaa
open Go.RowKit
set_option linter.unusedVariables false
set_option linter.unusedSimpArgs false
structure Grown (D E : Dc) (p : Nat) (N hs : List Nat) (k ht : Nat) : Prop where
 sane : Sane E
 roots : E.roots = D.roots
 tk : cnt takenB E.S = cnt takenB D.S + k
 cl : cnt Sl.live E.S = cnt Sl.live D.S + k
 new : ∀ x ∈ N, sl D x = none /\ x ≠ 0
 old : ∀ y, y ∉ N -> sl E y = sl D y
 sub : ∀ x ∈ hs, x ∈ N
 nod : hs.Nodup
 kids : ∀ x ∈ N, ∃ s, sl E x = some s /\ s.kids.Nodup /\ ∀ y ∈ s.kids, y ∈ N /\ y ∉ hs /\ ∃ t, sl E y = some t /\ t.parent = x
 par : ∀ x ∈ N, ∃ s, sl E x = some s /\ ((x ∈ hs /\ s.parent = p) \/ (x ∉ hs /\ s.parent ∈ N /\ ∃ q, sl E s.parent = some q /\ x ∈ q.kids))
 lev : ∃ lv : Nat -> Nat, ∀ x ∈ N, lv x + 1 <= ht /\ ∀ s, sl E x = some s -> (x ∈ hs -> lv x = 0) /\ (x ∉ hs -> lv x = lv s.parent + 1)
theorem Grown.none {D : Dc} (hs : Sane D) (p : Nat) : Grown D D p [] [] 0 0 :=
 ⟨hs, rfl, rfl, rfl, (fun x h => by cases h), (fun _ _ => rfl), (fun x h => by cases h), .nil, (fun x h => by cases h), (fun x h => by cases h), ⟨fun _ => 0, fun x h => by cases h⟩⟩
theorem Grown.cons {D D1 E : Dc} {p h : Nat} {N1 N2 hs : List Nat} {k1 k2 t1 t2 : Nat} (a : Grown D D1 p N1 [h] k1 t1) (b : Grown D1 E p N2 hs k2 t2) : Grown D E p (N1 ++ N2) (h :: hs) (k1 + k2) (max t1 t2) := by
 have dis : ∀ x ∈ N1, x ∉ N2 := fun x h1 h2 => by
  obtain ⟨s, h3, _⟩ := a.kids x h1
  rw [(b.new x h2).1] at h3
  cases h3
 have hh : h ∈ N1 := a.sub h (by simp)
 have e1 : ∀ x ∈ N1, sl E x = sl D1 x := fun x hx => b.old x (dis x hx)
 have hn : ∀ x ∈ N1, (x ∈ h :: hs ↔ x ∈ [h]) := fun x hx => by
  simp only [List.mem_cons, List.not_mem_nil, or_false]
  exact ⟨fun e => e.resolve_right (fun e2 => dis x hx (b.sub x e2)), .inl⟩
 have hn2 : ∀ x ∈ N2, (x ∈ h :: hs ↔ x ∈ hs) := fun x hx => by
  simp only [List.mem_cons]
  exact ⟨fun e => e.resolve_left (fun e2 => dis x (e2 ▸ hh) hx), .inr⟩
 obtain ⟨lv1, l1⟩ := a.lev
 obtain ⟨lv2, l2⟩ := b.lev
 refine ⟨b.sane, b.roots.trans a.roots, by rw [b.tk, a.tk]; omega, by rw [b.cl, a.cl]; omega, fun x hx => ?_, fun y hy => ?_, fun x hx => ?_, ?_, fun x hx => ?_, fun x hx => ?_, fun x => if x ∈ N1 then lv1 x else lv2 x, fun x hx => ?_⟩
 ·rcases List.mem_append.1 hx with h1 | h1
  ·exact a.new x h1
  ·have := b.new x h1
   refine ⟨?_, this.2⟩
   rw [<- a.old x (fun h2 => dis x h2 h1)]
   exact this.1
 ·simp only [List.mem_append, not_or] at hy
  rw [b.old y hy.2, a.old y hy.1]
 ·rcases List.mem_cons.1 hx with rfl | h1
  ·exact List.mem_append_left _ hh
  ·exact List.mem_append_right _ (b.sub x h1)
 ·exact List.nodup_cons.2 ⟨fun e => dis h hh (b.sub h e), b.nod⟩
 ·rcases List.mem_append.1 hx with h1 | h1
  ·obtain ⟨s, h2, h3, h4⟩ := a.kids x h1
   refine ⟨s, by rw [e1 x h1]; exact h2, h3, fun y hy => ?_⟩
   obtain ⟨g1, g2, t, g3, g4⟩ := h4 y hy
   exact ⟨List.mem_append_left _ g1, fun e => g2 ((hn y g1).1 e), t, by rw [e1 y g1]; exact g3, g4⟩
  ·obtain ⟨s, h2, h3, h4⟩ := b.kids x h1
   refine ⟨s, h2, h3, fun y hy => ?_⟩
   obtain ⟨g1, g2, g3⟩ := h4 y hy
   exact ⟨List.mem_append_right _ g1, fun e => g2 ((hn2 y g1).1 e), g3⟩
 ·rcases List.mem_append.1 hx with h1 | h1
  ·obtain ⟨s, h2, h3⟩ := a.par x h1
   refine ⟨s, by rw [e1 x h1]; exact h2, ?_⟩
   rcases h3 with ⟨g1, g2⟩ | ⟨g1, g2, q, g3, g4⟩
   ·exact .inl ⟨(hn x h1).2 g1, g2⟩
   ·exact .inr ⟨fun e => g1 ((hn x h1).1 e), List.mem_append_left _ g2, q, by rw [e1 _ g2]; exact g3, g4⟩
  ·obtain ⟨s, h2, h3⟩ := b.par x h1
   refine ⟨s, h2, ?_⟩
   rcases h3 with ⟨g1, g2⟩ | ⟨g1, g2, q, g3, g4⟩
   ·exact .inl ⟨(hn2 x h1).2 g1, g2⟩
   ·exact .inr ⟨fun e => g1 ((hn2 x h1).1 e), List.mem_append_right _ g2, q, g3, g4⟩
 ·rcases List.mem_append.1 hx with h1 | h1
  ·obtain ⟨g1, g2⟩ := l1 x h1
   simp only [if_pos h1]
   refine ⟨by omega, fun s hs1 => ?_⟩
   rw [e1 x h1] at hs1
   refine ⟨fun e => (g2 s hs1).1 ((hn x h1).1 e), fun e => ?_⟩
   obtain ⟨s', h2, h3⟩ := a.par x h1
   rw [hs1] at h2
   cases h2
   have e' : x ∉ [h] := fun e3 => e ((hn x h1).2 e3)
   rcases h3 with ⟨g3, _⟩ | ⟨_, g4, _⟩
   ·exact absurd g3 e'
   ·rw [if_pos g4]
    exact (g2 s hs1).2 e'
  ·have hx1 : x ∉ N1 := fun e => dis x e h1
   obtain ⟨g1, g2⟩ := l2 x h1
   simp only [if_neg hx1]
   refine ⟨by omega, fun s hs1 => ?_⟩
   refine ⟨fun e => (g2 s hs1).1 ((hn2 x h1).1 e), fun e => ?_⟩
   obtain ⟨s', h2, h3⟩ := b.par x h1
   rw [hs1] at h2
   cases h2
   have e' : x ∉ hs := fun e3 => e ((hn2 x h1).2 e3)
   rcases h3 with ⟨g3, _⟩ | ⟨_, g4, _⟩
   ·exact absurd g3 e'
   ·rw [if_neg (fun e4 => dis _ e4 g4)]
    exact (g2 s hs1).2 e'
theorem setKI_some {D : Dc} {i : Nat} {s : Sl} (h : D.S[i]? = some s) (l : List Nat) : setKI D i l = setS D i { s with kids := l } := by
 unfold setKI
 rw [h]
theorem sane_setKI {D : Dc} (hs : Sane D) {i : Nat} {s : Sl} (h : D.S[i]? = some s) (hl : s.live = true) {l : List Nat} (hk : s.kind = 2 -> l = []) : Sane (setKI D i l) := by
 rw [setKI_some h]
 have hi := (List.getElem?_eq_some_iff.1 h).1
 have hall : ∀ (j : Nat) (t : Sl), (setS D i { s with kids := l }).S[j]? = some t -> (j = i /\ t = { s with kids := l }) \/ (j ≠ i /\ D.S[j]? = some t) := fun j t ht => by
  by_cases e : j = i
  ·left
   have : (D.S.set i { s with kids := l })[j]? = some t := ht
   rw [e, List.getElem?_set_self hi] at this
   cases this
   exact ⟨e, rfl⟩
  ·right
   have : (D.S.set i { s with kids := l })[j]? = some t := ht
   rw [List.getElem?_set_ne (Ne.symm e)] at this
   exact ⟨e, this⟩
 refine ⟨⟨?_, fun j t ht => ?_⟩, fun j t ht => ?_, fun j t ht hd => ?_, fun j t ht hv => ?_, fun j t ht hv => ?_⟩
 ·show (D.S.set i _).length <= 4096
  simpa using hs.fits.len
 ·rcases hall j t ht with ⟨_, rfl⟩ | ⟨_, h1⟩
  ·exact hs.fits.gen i s h
  ·exact hs.fits.gen j t h1
 ·rcases hall j t ht with ⟨_, rfl⟩ | ⟨_, h1⟩
  ·exact hs.gen1 i s h
  ·exact hs.gen1 j t h1
 ·rcases hall j t ht with ⟨_, rfl⟩ | ⟨_, h1⟩
  ·have hd' : s.live = false := hd
   rw [hl] at hd'
   cases hd'
  ·exact hs.dead j t h1 hd
 ·rcases hall j t ht with ⟨_, rfl⟩ | ⟨_, h1⟩
  ·exact hs.own i s h hl
  ·exact hs.own j t h1 hv
 ·rcases hall j t ht with ⟨_, rfl⟩ | ⟨_, h1⟩
  ·obtain ⟨u1, u2⟩ := hs.used i s h hl
   exact ⟨fun e => ⟨hk e, (u1 e).2⟩, u2⟩
  ·exact hs.used j t h1 hv
theorem Grown.node {α : Type} {D E : Dc} (hs : Sane D) (hc : cnt takenB D.S + 1 <= 4096) (t : Nd α) (p : Nat) (hp : p = 0 \/ ∃ q, sl D p = some q) (ho : ownE t = 0) {N hk : List Nat} {k ht : Nat} (g : Grown (seed D t p) E (seedH D) N hk k ht) (hk2 : t.kind = 2 -> hk = []) :
  Grown D (setKI E (freeD D).1 hk) p (seedH D :: N) [seedH D] (k + 1) (ht + 1) /\ sl E (seedH D) = some (mkS (genAt (freeD D).2 (freeD D).1 + 1) t p []) /\ atI E.S (seedH D) = some (freeD D).1 /\ E.S[(freeD D).1]? = some (mkS (genAt (freeD D).2 (freeD D).1 + 1) t p []) := by
 obtain ⟨s1, s2, s3, s4, s5, s6, s7, s8, s9, s10⟩ := seed_facts hs hc t p ho
 have hsl : sl (seed D t p) (seedH D) = some (mkS (genAt (freeD D).2 (freeD D).1 + 1) t p []) := by unfold sl; rw [s6]; exact s7
 have hN : seedH D ∉ N := fun e => by
  have := (g.new _ e).1
  rw [hsl] at this
  cases this
 have hslE : sl E (seedH D) = some (mkS (genAt (freeD D).2 (freeD D).1 + 1) t p []) := by rw [g.old _ hN]; exact hsl
 obtain ⟨i, ha, hi, hlv, hhnd⟩ := sl_live hslE
 have hii : i = (freeD D).1 := by
  have f := free_facts hs hc
  have hil : (freeD D).1 < 4294967295 := by omega
  have hlen := g.sane.fits.len
  have hi' := (List.getElem?_eq_some_iff.1 hi).1
  have e1 := (hnd_idx (i := (freeD D).1) (g := genAt (freeD D).2 (freeD D).1 + 1) hil).1
  have e2 := (hnd_idx (i := i) (g := (mkS (genAt (freeD D).2 (freeD D).1 + 1) t p []).gen) (by omega)).1
  rw [<- hhnd] at e2
  unfold seedH at e2
  omega
 rw [hii] at ha hi
 refine ⟨?_, hslE, ha, hi⟩
 have hpn : p ≠ seedH D := fun e => by
  rcases hp with h0 | ⟨q, hq⟩
  ·exact s9 (e ▸ h0)
  ·rw [e, s5] at hq
   cases hq
 have hset := setKI_some hi hk
 have hsl' : ∀ x, sl (setKI E (freeD D).1 hk) x = if x = seedH D then some (mkS (genAt (freeD D).2 (freeD D).1 + 1) t p hk) else sl E x := fun x => by
  have hh := sl_setS (s' := mkS (genAt (freeD D).2 (freeD D).1 + 1) t p hk) hi rfl rfl x
  have he : setKI E (freeD D).1 hk = setS E (freeD D).1 (mkS (genAt (freeD D).2 (freeD D).1 + 1) t p hk) := hset
  rw [he, hh]
  by_cases e : x = seedH D
  ·rw [if_pos e, e, if_pos ha]
  ·rw [if_neg e, if_neg (fun e2 => e (at_same ha e2))]
 obtain ⟨lv, hl⟩ := g.lev
 refine ⟨sane_setKI g.sane hi hlv hk2, ?_, ?_, ?_, fun x hx => ?_, fun y hy => ?_, fun x hx => ?_, by simp, fun x hx => ?_, fun x hx => ?_, fun x => if x = seedH D then 0 else lv x + 1, fun x hx => ?_⟩
 ·rw [hset]
  show E.roots = _
  rw [g.roots, s2]
 ·rw [hset]
  show cnt takenB (E.S.set _ _) = _
  rw [cnt_set hi (by rfl), g.tk, s3]
  omega
 ·rw [hset]
  show cnt Sl.live (E.S.set _ _) = _
  rw [cnt_set hi (by rfl), g.cl, s4]
  omega
 ·rcases List.mem_cons.1 hx with rfl | h1
  ·exact ⟨s5, s9⟩
  ·have := g.new x h1
   refine ⟨?_, this.2⟩
   rw [<- s8 x (fun e => hN (e ▸ h1))]
   exact this.1
 ·simp only [List.mem_cons, not_or] at hy
  rw [hsl', if_neg hy.1, g.old y hy.2, s8 y hy.1]
 ·simp only [List.mem_singleton] at hx
  simp [hx]
 ·by_cases e : x = seedH D
  ·refine ⟨_, by rw [hsl', if_pos e], g.nod, fun y hy => ?_⟩
   have hy' : y ∈ hk := hy
   have hyN := g.sub y hy'
   have hyne : y ≠ seedH D := fun e => hN (e ▸ hyN)
   obtain ⟨s, h1, h2⟩ := g.par y hyN
   refine ⟨List.mem_cons_of_mem _ hyN, by simpa using hyne, s, by rw [hsl', if_neg hyne]; exact h1, ?_⟩
   rcases h2 with ⟨_, h3⟩ | ⟨h3, _⟩
   ·rw [h3, e]
   ·exact absurd hy' h3
  ·have hxN : x ∈ N := (List.mem_cons.1 hx).resolve_left e
   obtain ⟨s, h1, h2, h3⟩ := g.kids x hxN
   refine ⟨s, by rw [hsl', if_neg e]; exact h1, h2, fun y hy => ?_⟩
   obtain ⟨g1, g2, t', g3, g4⟩ := h3 y hy
   have hyne : y ≠ seedH D := fun e => hN (e ▸ g1)
   exact ⟨List.mem_cons_of_mem _ g1, by simpa using hyne, t', by rw [hsl', if_neg hyne]; exact g3, g4⟩
 ·by_cases e : x = seedH D
  ·exact ⟨_, by rw [hsl', if_pos e], .inl ⟨by simpa using e, rfl⟩⟩
  ·have hxN : x ∈ N := (List.mem_cons.1 hx).resolve_left e
   obtain ⟨s, h1, h2⟩ := g.par x hxN
   refine ⟨s, by rw [hsl', if_neg e]; exact h1, .inr ⟨by simpa using e, ?_⟩⟩
   rcases h2 with ⟨h3, h4⟩ | ⟨h3, h4, q, h5, h6⟩
   ·exact ⟨by rw [h4]; simp, _, by rw [hsl', if_pos h4], h3⟩
   ·exact ⟨List.mem_cons_of_mem _ h4, q, by rw [hsl', if_neg (fun (e2 : s.parent = seedH D) => hN (e2 ▸ h4))]; exact h5, h6⟩
 ·by_cases e : x = seedH D
  ·simp only [if_pos e]
   exact ⟨by omega, fun s _ => ⟨fun _ => trivial, fun e2 => absurd (by simpa using e) e2⟩⟩
  ·have hxN : x ∈ N := (List.mem_cons.1 hx).resolve_left e
   simp only [if_neg e]
   obtain ⟨g1, g2⟩ := hl x hxN
   refine ⟨by omega, fun s hs1 => ⟨fun e2 => absurd (by simpa using e2) e, fun _ => ?_⟩⟩
   rw [hsl', if_neg e] at hs1
   obtain ⟨s', h1, h2⟩ := g.par x hxN
   rw [hs1] at h1
   cases h1
   rcases h2 with ⟨h3, h4⟩ | ⟨h3, h4, _⟩
   ·rw [if_pos h4, (g2 s hs1).1 h3]
   ·rw [if_neg (fun (e2 : s.parent = seedH D) => hN (e2 ▸ h4)), (g2 s hs1).2 h3]
theorem foldl_max_cons (a : Nat) (l : List Nat) : (a :: l).foldl max 0 = max a (l.foldl max 0) := by
 have hm : ∀ (l : List Nat) (x y : Nat), l.foldl max (max x y) = max x (l.foldl max y) := fun l => by
  induction l with
  | nil => intro x y; rfl
  | cons z r ih =>
   intro x y
   simp only [List.foldl_cons]
   rw [Nat.max_assoc, ih]
 have := hm l a 0
 simpa [Nat.max_comm] using this
theorem grow_spec : ∀ (n : Nat) (t : T n) (p : Nat) (D : Dc), Sane D -> cnt takenB D.S + ndT n t <= 4096 -> (p = 0 \/ ∃ q, sl D p = some q) -> okT n t ->
  ∃ N, Grown D (growD n t p D).1 p N [(growD n t p D).2] (ndT n t) (htT n t) := by
 intro n
 induction n with
 | zero => intro t; cases t
 | succ n ih =>
  intro t p D hs hc hp hok
  have hlist : ∀ (l : List (T n)) (h : Nat) (D : Dc), Sane D -> cnt takenB D.S + (l.map (ndT n)).sum <= 4096 -> (h = 0 \/ ∃ q, sl D h = some q) -> (∀ k ∈ l, okT n k) ->
    ∃ N, Grown D (growK (growD n) h l D).1 h N (growK (growD n) h l D).2 (l.map (ndT n)).sum ((l.map (htT n)).foldl max 0) := by
   intro l
   induction l with
   | nil =>
    intro h D hs _ _ _
    exact ⟨[], Grown.none hs h⟩
   | cons k r ihl =>
    intro h D hs hc hh hk
    simp only [List.map_cons, List.sum_cons] at hc
    obtain ⟨N1, g1⟩ := ih k h D hs (by omega) hh (hk k (by simp))
    have hh1 : h = 0 \/ ∃ q, sl (growD n k h D).1 h = some q := hh.imp id (fun ⟨q, hq⟩ => ⟨q, by
     rw [g1.old h (fun e => ?_)]
     ·exact hq
     ·have := (g1.new h e).1
      rw [hq] at this
      cases this⟩)
    obtain ⟨N2, g2⟩ := ihl h (growD n k h D).1 g1.sane (by rw [g1.tk]; omega) hh1 (fun x hx => hk x (by simp [hx]))
    refine ⟨N1 ++ N2, ?_⟩
    have := g1.cons g2
    rw [List.map_cons, List.sum_cons, List.map_cons, foldl_max_cons]
    exact this
  have hnd : ndT (n + 1) t = ((kidsT t).map (ndT n)).sum + 1 := rfl
  rw [hnd] at hc
  obtain ⟨ho, hks⟩ := hok
  obtain ⟨s1, s2, s3, s4, s5, s6, s7, s8, s9, s10⟩ := seed_facts hs (by omega) t p ho
  have hsl : sl (seed D t p) (seedH D) = some (mkS (genAt (freeD D).2 (freeD D).1 + 1) t p []) := by unfold sl; rw [s6]; exact s7
  obtain ⟨N, g⟩ := hlist (kidsT t) (seedH D) (seed D t p) s1 (by rw [s3]; omega) (.inr ⟨_, hsl⟩) hks
  refine ⟨seedH D :: N, (Grown.node hs (by omega) t p hp ho g (fun h2 => ?_)).1⟩
  have : kidsT t = [] := by unfold kidsT; rw [if_neg (by omega)]
  rw [this]
  rfl
end Go.Proofs.Ytmapmkogjhinmaa
/- A tree put in: what every document keeps. -/
namespace Go.Proofs.Ytmapmkogjhinmaa
open Go.RowKit
set_option linter.unusedVariables false
set_option linter.unusedSimpArgs false
theorem Grown.notin {D E : Dc} {p : Nat} {N hs : List Nat} {k ht q : Nat} (g : Grown D E p N hs k ht) (hq : q = 0 \/ ∃ s, sl D q = some s) : q ∉ N := fun e => by
 obtain ⟨h1, h2⟩ := g.new q e
 rcases hq with h0 | ⟨s, hs⟩
 ·exact h2 h0
 ·rw [h1] at hs
  cases hs
theorem Grown.lst_old {D E : Dc} {p : Nat} {N hs : List Nat} {k ht q : Nat} (g : Grown D E p N hs k ht) (hq : q ∉ N) : lst E q = lst D q := by
 unfold lst
 by_cases h0 : q = 0
 ·rw [if_pos h0, if_pos h0, g.roots]
 ·rw [if_neg h0, if_neg h0, g.old q hq]
theorem lst_of {D : Dc} {q : Nat} {s : Sl} (h : sl D q = some s) : lst D q = s.kids := by
 have h0 : q ≠ 0 := by rintro rfl; rw [sl_zero] at h; cases h
 unfold lst
 rw [if_neg h0, h]
theorem WF.ins {D E : Dc} (hw : WF D) {p k h m ht : Nat} {N : List Nat} (g : Grown D E p N [h] m ht) (hp : p = 0 \/ ∃ q, sl D p = some q) (hkd : ∀ q, sl D p = some q -> q.kind ≠ 2) (hht : (ups D p).length + ht <= 64) :
  WF (setL E p (ins (lst E p) k h)) := by
 obtain ⟨lv, hl⟩ := hw.lev
 obtain ⟨lvN, hlN⟩ := g.lev
 have hpN := g.notin hp
 have hhN : h ∈ N := g.sub h (by simp)
 rw [g.lst_old hpN]
 have hne : h ∉ lst D p := fun e => by
  obtain ⟨s, h1, _⟩ := hw.down p hp h e
  rw [(g.new h hhN).1] at h1
  cases h1
 obtain ⟨hins, hind⟩ := ins_facts (k := k) (hw.nodup p) hne
 generalize hl2 : Go.Proofs.Ytmapmkogjhinmaa.ins (lst D p) k h = l2 at *
 have hpE : p = 0 \/ ∃ q, sl E p = some q := hp.imp id (fun ⟨q, hq⟩ => ⟨q, by rw [g.old p hpN]; exact hq⟩)
 have hlF : ∀ q, lst (setL E p l2) q = if q = p then l2 else lst E q := fun q => by
  by_cases e : q = p
  ·rw [if_pos e, e, lst_setL_eq hpE]
  ·rw [if_neg e, lst_setL_ne e]
 have hslN : ∀ x ∈ N, sl (setL E p l2) x = sl E x := fun x hx => sl_setL_ne (fun e => hpN (e ▸ hx))
 have hfrom : ∀ x, x ∉ N -> ∀ t, sl (setL E p l2) x = some t -> ∃ t0, sl D x = some t0 /\ t.parent = t0.parent := fun x hx t ht => by
  obtain ⟨t0, h1, h2⟩ := sl_setL_from ht
  rw [g.old x hx] at h1
  exact ⟨t0, h1, h2⟩
 have hinto : ∀ x t0, sl D x = some t0 -> ∃ t, sl (setL E p l2) x = some t /\ t.parent = t0.parent := fun x t0 h0 => by
  have : sl E x = some t0 := by rw [g.old x (g.notin (.inr ⟨t0, h0⟩))]; exact h0
  exact sl_setL_into this
 have hdp : (ups D p).length = dep lv p := ups_length hl hp
 obtain ⟨d1, d2⟩ := slots_setL (D := E) (p := p) (l' := l2)
 have hS : ∀ (j : Nat) (t : Sl), (setL E p l2).S[j]? = some t -> ∃ t1, E.S[j]? = some t1 /\ (t = t1 \/ (t1.live = true /\ t1.kind ≠ 2 /\ t = { t1 with kids := l2 })) := fun j t ht => by
  obtain ⟨t1, h1, h2⟩ := d2 j t ht
  refine ⟨t1, h1, h2.imp id (fun ⟨e1, e2, e3⟩ => ?_)⟩
  obtain ⟨_, _, _, h4, _⟩ := sl_live e1
  rw [g.old p hpN] at e1
  exact ⟨h4, hkd t1 e1, e3⟩
 have hs := g.sane
 refine ⟨⟨by rw [d1]; exact hs.fits.len, fun j t ht => ?_⟩, fun j t ht => ?_, fun j t ht hd => ?_, fun j t ht hd => ?_, fun j t ht hd => ?_, ⟨fun x => if x ∈ N then lvN x + dep lv p else lv x, fun x t ht => ?_⟩, fun x t ht => ?_, fun q hq x hx => ?_, fun q => ?_⟩
 ·obtain ⟨t1, h1, rfl | ⟨_, _, rfl⟩⟩ := hS j t ht
  ·exact hs.fits.gen j t h1
  ·exact hs.fits.gen j t1 h1
 ·obtain ⟨t1, h1, rfl | ⟨_, _, rfl⟩⟩ := hS j t ht
  ·exact hs.gen1 j t h1
  ·exact hs.gen1 j t1 h1
 ·obtain ⟨t1, h1, rfl | ⟨h2, _, rfl⟩⟩ := hS j t ht
  ·exact hs.dead j t h1 hd
  ·have hd' : t1.live = false := hd
   rw [h2] at hd'
   cases hd'
 ·obtain ⟨t1, h1, rfl | ⟨h2, _, rfl⟩⟩ := hS j t ht
  ·exact hs.own j t h1 hd
  ·exact hs.own j t1 h1 h2
 ·obtain ⟨t1, h1, rfl | ⟨h2, h3, rfl⟩⟩ := hS j t ht
  ·exact hs.used j t h1 hd
  ·exact ⟨fun e => absurd e h3, (hs.used j t1 h1 h2).2⟩
 ·by_cases hx : x ∈ N
  ·rw [hslN x hx] at ht
   obtain ⟨g1, g2⟩ := hlN x hx
   obtain ⟨s, h1, h2⟩ := g.par x hx
   rw [ht] at h1
   cases h1
   simp only [if_pos hx]
   refine ⟨by omega, ?_⟩
   rcases h2 with ⟨h3, h4⟩ | ⟨h3, h4, q, h5, h6⟩
   ·rw [(g2 t ht).1 h3, h4]
    rcases hp with rfl | ⟨q, hq⟩
    ·exact .inl ⟨rfl, by simp [dep]⟩
    ·right
     obtain ⟨q', e1, _⟩ := hinto p q hq
     refine ⟨q', e1, ?_⟩
     rw [if_neg hpN]
     have h0 : p ≠ 0 := fun e => by rw [e, sl_zero] at hq; cases hq
     simp [dep, h0]
   ·right
    refine ⟨q, by rw [hslN _ h4]; exact h5, ?_⟩
    rw [if_pos h4, (g2 t ht).2 h3]
    omega
  ·obtain ⟨t0, h1, h2⟩ := hfrom x hx t ht
   obtain ⟨g1, g2⟩ := hl x t0 h1
   simp only [if_neg hx]
   refine ⟨g1, ?_⟩
   rw [h2]
   rcases g2 with g2 | ⟨q, hq, g3⟩
   ·exact .inl g2
   ·right
    obtain ⟨q', e1, _⟩ := hinto t0.parent q hq
    refine ⟨q', e1, ?_⟩
    rw [if_neg (g.notin (.inr ⟨q, hq⟩))]
    exact g3
 ·by_cases hx : x ∈ N
  ·rw [hslN x hx] at ht
   obtain ⟨s, h1, h2⟩ := g.par x hx
   rw [ht] at h1
   cases h1
   rw [hlF]
   rcases h2 with ⟨h3, h4⟩ | ⟨h3, h4, q, h5, h6⟩
   ·rw [if_pos h4, hins]
    exact .inl (by simpa using h3)
   ·rw [if_neg (fun (e : t.parent = p) => hpN (e ▸ h4)), lst_of h5]
    exact h6
  ·obtain ⟨t0, h1, h2⟩ := hfrom x hx t ht
   have hu := hw.up x t0 h1
   rw [h2, hlF]
   by_cases e : t0.parent = p
   ·rw [if_pos e, hins]
    exact .inr (e ▸ hu)
   ·rw [if_neg e, g.lst_old (g.notin (dep_par hl h1).2)]
    exact hu
 ·rw [hlF] at hx
  have hold : ∀ q, (q = 0 \/ ∃ s, sl D q = some s) -> x ∈ lst D q -> ∃ s, sl (setL E p l2) x = some s /\ s.parent = q := fun q hq hx => by
   obtain ⟨s, h1, h2⟩ := hw.down q hq x hx
   obtain ⟨t, h3, h4⟩ := hinto x s h1
   exact ⟨t, h3, h4.trans h2⟩
  by_cases e : q = p
  ·rw [if_pos e, hins] at hx
   rcases hx with rfl | hx
   ·obtain ⟨s, h1, h2⟩ := g.par x hhN
    refine ⟨s, by rw [hslN x hhN]; exact h1, ?_⟩
    rcases h2 with ⟨_, h3⟩ | ⟨h3, _⟩
    ·rw [h3, e]
    ·exact absurd (by simp) h3
   ·rw [e]
    exact hold p hp hx
  ·rw [if_neg e] at hx
   by_cases hqN : q ∈ N
   ·obtain ⟨s, h1, h2, h3⟩ := g.kids q hqN
    rw [lst_of h1] at hx
    obtain ⟨g1, _, t, g3, g4⟩ := h3 x hx
    exact ⟨t, by rw [hslN x g1]; exact g3, g4⟩
   ·rw [g.lst_old hqN] at hx
    exact hold q (hq.imp id (fun ⟨t, ht⟩ => by obtain ⟨t0, h1, _⟩ := hfrom q hqN t ht; exact ⟨t0, h1⟩)) hx
 ·rw [hlF]
  by_cases e : q = p
  ·rw [if_pos e]
   exact hind
  ·rw [if_neg e]
   by_cases hqN : q ∈ N
   ·obtain ⟨s, h1, h2, h3⟩ := g.kids q hqN
    rw [lst_of h1]
    exact h2
   ·rw [g.lst_old hqN]
    exact hw.nodup q
theorem setPar_same {D : Dc} {n p : Nat} {s : Sl} (hs : sl D n = some s) (hp : s.parent = p) : setPar D n p = D := by
 obtain ⟨i, h1, h2, h3⟩ := setPar_of (p := p) hs
 rw [h3]
 unfold setS
 have : ({ s with parent := p } : Sl) = s := by rw [<- hp]
 rw [this]
 have hi := (List.getElem?_eq_some_iff.1 h2)
 have : D.S.set i s = D.S := by
  rw [<- hi.2]
  exact List.set_getElem_self hi.1
 rw [this]
end Go.Proofs.Ytmapmkogjhinmaa
/- The free places of a document, in their order. -/
namespace Go.Proofs.Ytmapmkogjhinmaa
open Go.RowKit
set_option linter.unusedVariables false
set_option linter.unusedSimpArgs false
def frB (D : Dc) (i : Nat) : Bool := match D.S[i]? with | some s => freeB s | none => true
def frL (D : Dc) : List Nat := (List.range 4096).filter (frB D)
theorem filter_range_len {α : Type} (f : α -> Bool) (g : Nat -> Bool) (l : List α) (h : ∀ i a, l[i]? = some a -> g i = f a) : ((List.range l.length).filter g).length = (l.filter f).length := by
 have key : ∀ k, k <= l.length -> ((List.range k).filter g).length = ((l.take k).filter f).length := fun k => by
  induction k with
  | zero => intro _; rfl
  | succ k ih =>
   intro hk
   have hl : l[k]? = some l[k] := List.getElem?_eq_getElem (by omega)
   rw [List.range_succ, List.filter_append, List.length_append, ih (by omega), List.take_add_one, List.filter_append, List.length_append, hl]
   have := h k _ hl
   simp only [List.filter_cons, List.filter_nil, Option.toList_some, this]
   split <;> rfl
 have := key l.length (Nat.le_refl _)
 rw [List.take_length] at this
 exact this
theorem cnt_not {S : List Sl} (hg : ∀ s ∈ S, s.gen < 4294967296) : cnt takenB S + cnt freeB S = S.length := by
 induction S with
 | nil => rfl
 | cons a r ih =>
  have := ih (fun s hs => hg s (by simp [hs]))
  have ha := hg a (by simp)
  have hn : takenB a = !freeB a := by
   unfold takenB freeB
   cases a.live with
   | true => rfl
   | false =>
    by_cases e : a.gen < 4294967295
    ·simp [e]; omega
    ·simp [e]; omega
  unfold cnt at *
  rw [List.filter_cons, List.filter_cons, hn]
  cases freeB a with
  | true => simp; omega
  | false => simp; omega
theorem frL_len {D : Dc} (hf : Fits D) : (frL D).length + cnt takenB D.S = 4096 := by
 have hl := hf.len
 have e : List.range 4096 = List.range D.S.length ++ (List.range (4096 - D.S.length)).map (D.S.length + ·) := by
  rw [<- List.range_add]
  congr 1
  omega
 unfold frL
 rw [e, List.filter_append, List.length_append, filter_range_len freeB (frB D) D.S (fun i a h => by unfold frB; rw [h])]
 have h2 : ((List.range (4096 - D.S.length)).map (D.S.length + ·)).filter (frB D) = (List.range (4096 - D.S.length)).map (D.S.length + ·) := by
  rw [List.filter_eq_self]
  intro x hx
  simp only [List.mem_map, List.mem_range] at hx
  obtain ⟨y, _, rfl⟩ := hx
  unfold frB
  rw [List.getElem?_eq_none (by omega)]
 rw [h2, List.length_map, List.length_range]
 have := cnt_not (S := D.S) (fun s hs => by
  obtain ⟨j, hj⟩ := List.getElem?_of_mem hs
  exact hf.gen j s hj)
 unfold cnt at *
 omega
theorem free_least {D : Dc} : ∀ j, j < (freeD D).1 -> frB D j = false := by
 unfold freeD
 intro j hj
 cases hi : D.S.findIdx? freeB with
 | some i =>
  rw [hi] at hj
  simp only at hj
  rw [List.findIdx?_eq_some_iff_getElem] at hi
  obtain ⟨h1, h2, h3⟩ := hi
  unfold frB
  rw [List.getElem?_eq_getElem (by omega)]
  simpa using h3 j hj
 | none =>
  rw [hi] at hj
  simp only at hj
  rw [List.findIdx?_eq_none_iff] at hi
  unfold frB
  rw [List.getElem?_eq_getElem (by omega)]
  simpa using hi _ (List.getElem_mem _)
theorem filter_range_head {p p' : Nat -> Bool} {n i : Nat} (hi : i < n) (h1 : p i = true) (h2 : ∀ j, j < i -> p j = false) (h3 : p' i = false) (h4 : ∀ j, j ≠ i -> p' j = p j) : (List.range n).filter p = i :: (List.range n).filter p' := by
 have e : List.range n = List.range i ++ i :: (List.range (n - i - 1)).map (fun k => i + 1 + k) := by
  have h := List.range_add (n := i + 1) (m := n - i - 1)
  rw [show i + 1 + (n - i - 1) = n by omega, List.range_succ] at h
  rw [h]
  simp
 rw [e, List.filter_append, List.filter_append, List.filter_cons, List.filter_cons, if_pos h1, if_neg (by simp [h3])]
 have e1 : (List.range i).filter p = [] := by
  rw [List.filter_eq_nil_iff]
  intro x hx
  simp [h2 x (List.mem_range.1 hx)]
 have e2 : (List.range i).filter p' = [] := by
  rw [List.filter_eq_nil_iff]
  intro x hx
  have := List.mem_range.1 hx
  rw [h4 x (by omega), h2 x this]
  simp
 rw [e1, e2, List.nil_append, List.nil_append]
 congr 1
 apply List.filter_congr
 intro x hx
 simp only [List.mem_map, List.mem_range] at hx
 obtain ⟨y, _, rfl⟩ := hx
 exact (h4 _ (by omega)).symm
theorem frL_seed {α : Type} {D : Dc} (hs : Sane D) (hc : cnt takenB D.S + 1 <= 4096) (t : Nd α) (p : Nat) : frL D = (freeD D).1 :: frL (seed D t p) := by
 obtain ⟨f1, f2, f3, f4, f5, f6, ⟨s0, f7, f8, f9, f10⟩, f11, f12⟩ := free_facts hs hc
 refine filter_range_head (by omega) ?_ free_least ?_ (fun j hj => ?_)
 ·unfold freeD
  cases hi : D.S.findIdx? freeB with
  | some i =>
   rw [List.findIdx?_eq_some_iff_getElem] at hi
   obtain ⟨h1, h2, _⟩ := hi
   unfold frB
   rw [List.getElem?_eq_getElem h1]
   exact h2
  | none =>
   unfold frB
   rw [List.getElem?_eq_none (Nat.le_refl _)]
 ·unfold frB seed setS
  simp only
  rw [List.getElem?_set_self f3]
  rfl
 ·unfold frB seed setS
  simp only
  rw [List.getElem?_set_ne (Ne.symm hj), f11 j hj]
theorem frL_setKI {D : Dc} (i : Nat) (l : List Nat) : frL (setKI D i l) = frL D := by
 unfold frL
 apply List.filter_congr
 intro j _
 unfold setKI
 cases h : D.S[i]? with
 | none => rfl
 | some s =>
  unfold frB setS
  simp only
  by_cases e : j = i
  ·subst e
   rw [List.getElem?_set_self ((List.getElem?_eq_some_iff.1 h).1), h]
   rfl
  ·rw [List.getElem?_set_ne (Ne.symm e)]
theorem growK_frL (n : Nat) (ih : ∀ (t : T n) (p : Nat) (D : Dc), Sane D -> cnt takenB D.S + ndT n t <= 4096 -> (p = 0 \/ ∃ q, sl D p = some q) -> okT n t -> frL D = (frL D).take (ndT n t) ++ frL (growD n t p D).1) :
  ∀ (l : List (T n)) (h : Nat) (D : Dc), Sane D -> cnt takenB D.S + (l.map (ndT n)).sum <= 4096 -> (h = 0 \/ ∃ q, sl D h = some q) -> (∀ k ∈ l, okT n k) -> frL D = (frL D).take (l.map (ndT n)).sum ++ frL (growK (growD n) h l D).1 := by
 intro l
 induction l with
 | nil => intro h D hs _ _ _; simp [growK]
 | cons k r ihl =>
  intro h D hs hc hh hk
  simp only [List.map_cons, List.sum_cons] at hc
  obtain ⟨N1, g1⟩ := grow_spec n k h D hs (by omega) hh (hk k (by simp))
  have hh1 : h = 0 \/ ∃ q, sl (growD n k h D).1 h = some q := hh.imp id (fun ⟨q, hq⟩ => ⟨q, by rw [g1.old h (g1.notin (.inr ⟨q, hq⟩))]; exact hq⟩)
  have e1 := ih k h D hs (by omega) hh (hk k (by simp))
  have e2 := ihl h (growD n k h D).1 g1.sane (by rw [g1.tk]; omega) hh1 (fun x hx => hk x (by simp [hx]))
  have hlen := frL_len hs.fits
  have hcut : (frL D).take (ndT n k + (r.map (ndT n)).sum) = (frL D).take (ndT n k) ++ (frL (growD n k h D).1).take (r.map (ndT n)).sum := by
   have key : ∀ (A B : List Nat) (a b : Nat), A = A.take a ++ B -> a <= A.length -> A.take (a + b) = A.take a ++ B.take b := fun A B a b h ha => by
    conv => lhs; rw [h]
    rw [List.take_append, List.length_take, Nat.min_eq_left ha, Nat.add_sub_cancel_left, List.take_take, Nat.min_eq_right (by omega)]
   exact key _ _ _ _ e1 (by omega)
  simp only [List.map_cons, List.sum_cons]
  rw [hcut, List.append_assoc]
  conv => lhs; rw [e1, e2]
  rfl
theorem grow_frL : ∀ (n : Nat) (t : T n) (p : Nat) (D : Dc), Sane D -> cnt takenB D.S + ndT n t <= 4096 -> (p = 0 \/ ∃ q, sl D p = some q) -> okT n t -> frL D = (frL D).take (ndT n t) ++ frL (growD n t p D).1 := by
 intro n
 induction n with
 | zero => intro t; cases t
 | succ n ih =>
  intro t p D hs hc hp hok
  have hnd : ndT (n + 1) t = ((kidsT t).map (ndT n)).sum + 1 := rfl
  rw [hnd] at hc ⊢
  obtain ⟨ho, hks⟩ := hok
  obtain ⟨s1, s2, s3, s4, s5, s6, s7, s8, s9, s10⟩ := seed_facts hs (by omega) t p ho
  have hsl : sl (seed D t p) (seedH D) = some (mkS (genAt (freeD D).2 (freeD D).1 + 1) t p []) := by unfold sl; rw [s6]; exact s7
  have e1 := growK_frL n ih (kidsT t) (seedH D) (seed D t p) s1 (by rw [s3]; omega) (.inr ⟨_, hsl⟩) hks
  have e0 := frL_seed hs (by omega) t p
  have eg : frL (growD (n + 1) t p D).1 = frL (growK (growD n) (seedH D) (kidsT t) (seed D t p)).1 := frL_setKI _ _
  rw [eg, e0, List.take_succ_cons, List.cons_append, <- e1]
end Go.Proofs.Ytmapmkogjhinmaa
