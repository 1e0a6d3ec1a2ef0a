/- What a call leaves as it was. -/
import Derived.Test.YtoabgmpcdnikeaaGreatDoorWords
namespace Go.Proofs.YtoabgmpcdnikeaaGreatDoor
open Go.RowKit
set_option linter.unusedVariables false

def IsCells (w : World) (b : Nat) (cs : Array Value) : Prop := ∃ T, w.heap[b]? = some (.cells cs T (0, 0))

theorem IsCells.lt {w : World} {b : Nat} {cs : Array Value} (h : IsCells w b cs) : b < w.heap.size := by
  obtain ⟨T, h⟩ := h
  exact (Array.getElem?_eq_some_iff.1 h).1
theorem IsCells.cell {w : World} {b : Nat} {cs : Array Value} (h : IsCells w b cs) (o : Nat) : w.cell? ⟨b, o, none⟩ = cs[o]? := by
  obtain ⟨T, h⟩ := h
  simp [World.cell?, h]
theorem IsCells.frozen {w : World} {b : Nat} {cs : Array Value} (h : IsCells w b cs) (o : Nat) : w.frozen? ⟨b, o, none⟩ = false := by
  obtain ⟨T, h⟩ := h
  simp [World.frozen?, h]
theorem IsCells.of_block {w w' : World} {b : Nat} {cs : Array Value} (h : IsCells w b cs) (hb : w'.heap[b]? = w.heap[b]?) : IsCells w' b cs := by
  obtain ⟨T, h⟩ := h
  exact ⟨T, hb.trans h⟩
theorem IsCells.alloc {w : World} {b : Nat} {cs : Array Value} (h : IsCells w b cs) (o : Obj) : IsCells (w.alloc o) b cs :=
  h.of_block (Below.heap_alloc _ _ _ h.lt)
theorem IsCells.other {w : World} {b : Nat} {cs : Array Value} (h : IsCells w b cs) {a : Addr} (hne : b ≠ a.block) (v : Value) : IsCells (w.setCell a v) b cs :=
  h.of_block (Below.heap_setCell _ _ _ _ hne)
theorem IsCells.set {w : World} {b : Nat} {cs : Array Value} (h : IsCells w b cs) (o : Nat) (v : Value) : IsCells (w.setCell ⟨b, o, none⟩ v) b (cs.setIfInBounds o v) := by
  obtain ⟨T, h⟩ := h
  refine ⟨T, ?_⟩
  simp [World.setCell, Array.getElem?_modify, h]
theorem isCells_new (w : World) (cs : Array Value) (T : TypeId) : IsCells (w.alloc (.cells cs T)) w.heap.size cs := ⟨T, heap_alloc_new w _⟩

/-- Blocks of which A does not hold are as they were. -/
structure Turn (A : Nat → Prop) (w w' : World) : Prop where
  os : w'.os = w.os
  tape : w'.tape = w.tape
  output : w'.output = w.output
  size : w.heap.size ≤ w'.heap.size
  block : ∀ k, k < w.heap.size → ¬ A k → w'.heap[k]? = w.heap[k]?

theorem Turn.refl (A : Nat → Prop) (w : World) : Turn A w w := ⟨rfl, rfl, rfl, Nat.le_refl _, fun _ _ _ => rfl⟩
theorem Turn.trans {A : Nat → Prop} {a b c : World} (h : Turn A a b) (k : Turn A b c) : Turn A a c :=
  ⟨k.os.trans h.os, k.tape.trans h.tape, k.output.trans h.output, Nat.le_trans h.size k.size, fun i hi ha => (k.block i (Nat.lt_of_lt_of_le hi h.size) ha).trans (h.block i hi ha)⟩
theorem Turn.mono {A B : Nat → Prop} {a b : World} (h : Turn A a b) (hAB : ∀ k, k < a.heap.size → A k → B k) : Turn B a b :=
  ⟨h.os, h.tape, h.output, h.size, fun i hi hb => h.block i hi (fun ha => hb (hAB i hi ha))⟩
theorem Turn.drew {A : Nat → Prop} {a w : World} (h : Turn A a w) : Turn A a w.drew := ⟨h.os, h.tape, h.output, h.size, h.block⟩
theorem Turn.drewN {A : Nat → Prop} {a w : World} (h : Turn A a w) (n : Nat) : Turn A a (w.drewN n) := ⟨h.os, h.tape, h.output, h.size, h.block⟩
theorem Turn.alloc {A : Nat → Prop} {a w : World} (h : Turn A a w) (o : Obj) : Turn A a (w.alloc o) :=
  h.trans ⟨rfl, rfl, rfl, by simp, fun k hk _ => Below.heap_alloc _ _ _ hk⟩
theorem Turn.setCell {A : Nat → Prop} {a w : World} (h : Turn A a w) {p : Addr} (hp : A p.block) (u : Value) : Turn A a (w.setCell p u) :=
  h.trans ⟨rfl, rfl, rfl, by simp [World.setCell], fun _ _ ha => Below.heap_setCell _ _ _ _ (fun e => ha (by rw [e]; exact hp))⟩
/-- A store into a block that was not there at the start. -/
theorem Turn.setNew {A : Nat → Prop} {a w : World} (h : Turn A a w) {p : Addr} (hp : a.heap.size ≤ p.block) (u : Value) : Turn A a (w.setCell p u) :=
  ⟨h.os, h.tape, h.output, Nat.le_trans h.size (by simp [World.setCell]), fun k hk ha => (Below.heap_setCell _ _ _ _ (by omega)).trans (h.block k hk ha)⟩
theorem Turn.below {A : Nat → Prop} {B : Nat} {w w' : World} (h : Turn A w w') (hB : B ≤ w.heap.size) (hA : ∀ k, A k → B ≤ k) : Below B w w' :=
  ⟨h.os, h.tape, h.output, h.size, fun k hk => h.block k (by omega) (fun ha => by have := hA k ha; omega)⟩
/-- What came behind left alone all that was there. -/
theorem Turn.then {A : Nat → Prop} {a b c : World} (h : Turn A a b) {B : Nat} (k : Below B b c) (hB : a.heap.size ≤ B) : Turn A a c :=
  ⟨k.os.trans h.os, k.tape.trans h.tape, k.output.trans h.output, Nat.le_trans h.size k.size, fun i hi ha => (k.block i (by omega)).trans (h.block i hi ha)⟩

end Go.Proofs.YtoabgmpcdnikeaaGreatDoor
