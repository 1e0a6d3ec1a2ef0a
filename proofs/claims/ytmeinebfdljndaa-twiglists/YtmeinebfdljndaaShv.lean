/- A node put into the lists of all places at which one of its name may stand. -/
import Derived.Test.YtmeinebfdljndaaCrd
import Derived.Deep.RegionLaw
import Derived.Deep.AppendSrc
namespace Go.Proofs.Ytmeinebfdljndaa
open Go.RowKit
set_option linter.unusedVariables false

/-- Whether one of a name may stand at a place. -/
def mt (p : Plc) (nm : ByteArray) : Bool := p.nm.toList.isEmpty || (p.nm.toList == nm.toList)
/-- Slices as the cells of a row. -/
def slA (n : Nat) (R : Nat → List Pl) (sl : Nat → Option Addr × Nat) : Array Value := Array.ofFn (fun i : Fin n => .slice (sl i).1 (R i).length (sl i).2)
theorem slA_at {n k : Nat} {R : Nat → List Pl} {sl : Nat → Option Addr × Nat} (h : k < n) : (slA n R sl)[k]? = some (.slice (sl k).1 (R k).length (sl k).2) := by simp [slA, h]
theorem slA_set {n k : Nat} {R R' : Nat → List Pl} {sl sl' : Nat → Option Addr × Nat} {v : Value} (hk : v = .slice (sl' k).1 (R' k).length (sl' k).2) (hj : ∀ j, j ≠ k → R' j = R j ∧ sl' j = sl j) : (slA n R sl).setIfInBounds k v = slA n R' sl' := by
  apply Array.ext
  · simp [slA]
  · intro i h1 h2
    rw [Array.getElem_setIfInBounds]
    · by_cases e : k = i
      · subst e
        simp [slA, hk]
      · rw [if_neg e]
        obtain ⟨e1, e2⟩ := hj i (Ne.symm e)
        simp [slA, e1, e2]
    · simpa [slA] using h1
/-- Lists under way: a row of slices, each with a row of its own, all apart. -/
structure Shv (lb B n : Nat) (R : Nat → List Pl) (sl : Nat → Option Addr × Nat) (w : World) : Prop where
  low : lb < B
  size : B ≤ w.heap.size
  cells : IsCells w lb (slA n R sl)
  own : ∀ i, i < n → w.ownsRow B 38 4 (.slice (sl i).1 (R i).length (sl i).2) (R i).length (plCells (R i))
  apart : ∀ i j b, i ≠ j → i < n → j < n → (Value.slice (sl i).1 (R i).length (sl i).2).ownBlock = some b → (Value.slice (sl j).1 (R j).length (sl j).2).ownBlock ≠ some b
theorem Shv.tn {lb B n : Nat} {R : Nat → List Pl} {sl : Nat → Option Addr × Nat} {w w' : World} {A : Nat → Prop} (h : Shv lb B n R sl w) (t : Tn A w w') (hA : ∀ b, A b → b ≠ lb ∧ b < B) : Shv lb B n R sl w' :=
  ⟨h.low, Nat.le_trans h.size t.size, h.cells.tn t (fun ha => (hA _ ha).1 rfl), fun i hi => own_tn (h.own i hi) t (fun k hk ha => by have := (own_block_lt (h.own i hi) k hk).1; have := (hA _ ha).2; omega), h.apart⟩
/-- One more in a list. -/
theorem Shv.put {lb B n : Nat} {R : Nat → List Pl} {sl : Nat → Option Addr × Nat} {w w1 w3 : World} {k : Nat} {x : Pl} (h : Shv lb B n R sl w) (hk : k < n) (t : Tn (fun _ => False) w w1) {va : Option Addr} {vc : Nat} (hown : w3.ownsRow B 38 4 (.slice va ((R k).length + 1) vc) ((R k).length + 1) (plCells (R k) ++ plCells [x]))
    (hg : w1.grownBy w3 (Value.slice (sl k).1 (R k).length (sl k).2).ownBlock) (hat : (Value.slice va ((R k).length + 1) vc).ownBlock = (Value.slice (sl k).1 (R k).length (sl k).2).ownBlock ∨ (Value.slice va ((R k).length + 1) vc).ownBlock = some w1.heap.size) :
    IsCells w3 lb (slA n R sl) ∧ ∃ sl', Shv lb B n (fun j => if j = k then R k ++ [x] else R j) sl' (w3.setCell ⟨lb, k, none⟩ (.slice va ((R k).length + 1) vc)) ∧ Tn (fun b => b = lb ∨ B ≤ b) w (w3.setCell ⟨lb, k, none⟩ (.slice va ((R k).length + 1) vc)) ∧
      ∀ xb, xb < w.heap.size → xb ≠ lb → (∀ i, i < n → (Value.slice (sl i).1 (R i).length (sl i).2).ownBlock ≠ some xb) → (w3.setCell ⟨lb, k, none⟩ (.slice va ((R k).length + 1) vc)).heap[xb]? = w.heap[xb]? ∧ ∀ i, i < n → (Value.slice (sl' i).1 (if i = k then R k ++ [x] else R i).length (sl' i).2).ownBlock ≠ some xb := by
  have hlow := h.low
  have hsz := h.size
  have ts := t.size
  have gs := hg.size
  have hob : ∀ i, i < n → ∀ b, (Value.slice (sl i).1 (R i).length (sl i).2).ownBlock = some b → B ≤ b ∧ b < w.heap.size := fun i hi b hb => own_block_lt (h.own i hi) b hb
  have far : ∀ b, b < w.heap.size → (Value.slice (sl k).1 (R k).length (sl k).2).ownBlock ≠ some b → w3.heap[b]? = w.heap[b]? := fun b hb hne => (hg.block b (by omega) (fun e => hne e.symm)).trans (t.block b hb id)
  have hlb : w3.heap[lb]? = w.heap[lb]? := far lb h.cells.lt (fun e => by have := hob k hk _ e; omega)
  have ic : IsCells w3 lb (slA n R sl) := h.cells.of_block hlb
  refine ⟨ic, fun j => if j = k then (va, vc) else sl j, ⟨hlow, by simp [World.setCell]; omega, ?_, ?_, ?_⟩, ?_, ?_⟩
  · have := ic.set k (.slice va ((R k).length + 1) vc)
    rwa [slA_set (R' := fun j => if j = k then R k ++ [x] else R j) (sl' := fun j => if j = k then (va, vc) else sl j) (by simp) (fun j hj => by simp [hj])] at this
  · intro i hi
    have keep : ∀ b, b ≠ lb → (w3.setCell ⟨lb, k, none⟩ (.slice va ((R k).length + 1) vc)).heap[b]? = w3.heap[b]? := fun b hb => Below.heap_setCell _ _ _ _ hb
    by_cases e : i = k
    · subst e
      simp only [if_pos]
      rw [plCells_append, List.length_append]
      exact own_of_block hown (fun b hb => keep b (by
        have := (own_block_lt hown b hb).1
        omega))
    · simp only [if_neg e]
      refine own_of_block (h.own i hi) (fun b hb => ?_)
      have hb2 := hob i hi b hb
      exact (keep b (by omega)).trans (far b hb2.2 (h.apart i k b e hi hk hb))
  · intro i j b hij hi hj
    by_cases e : i = k
    · subst e
      simp only [if_pos, if_neg (Ne.symm hij)]
      intro hb hb2
      rw [List.length_append] at hb
      rcases hat with hat | hat
      · have hb' : (Value.slice (sl i).1 (R i).length (sl i).2).ownBlock = some b := by rw [← hat]; exact hb
        exact h.apart i j b hij hi hj hb' hb2
      · have hb' : some w1.heap.size = some b := by rw [← hat]; exact hb
        simp only [Option.some.injEq] at hb'
        have := (hob j hj b hb2).2
        omega
    · by_cases e2 : j = k
      · subst e2
        simp only [if_pos, if_neg e]
        intro hb hb2
        rw [List.length_append] at hb2
        rcases hat with hat | hat
        · have hb' : (Value.slice (sl j).1 (R j).length (sl j).2).ownBlock = some b := by rw [← hat]; exact hb2
          exact h.apart i j b hij hi hj hb hb'
        · have hb' : some w1.heap.size = some b := by rw [← hat]; exact hb2
          simp only [Option.some.injEq] at hb'
          have := (hob i hi b hb).2
          omega
      · simp only [if_neg e, if_neg e2]
        exact h.apart i j b hij hi hj
  · refine Tn.set ?_ (.inl (.inl rfl)) _
    exact ⟨hg.os.trans t.os, hg.tape.trans t.tape, hg.output.trans t.output, Nat.le_trans ts gs, fun b hb ha => far b hb (fun e => ha (.inr (hob k hk b e).1))⟩
  · intro xb hx hxl hxo
    refine ⟨(Below.heap_setCell _ _ _ _ hxl).trans (far xb hx (hxo k hk)), fun i hi => ?_⟩
    by_cases e : i = k
    · subst e
      simp only [if_pos]
      intro hb
      rw [List.length_append] at hb
      rcases hat with hat | hat
      · exact hxo i hi (by rw [← hat]; exact hb)
      · have hb' : some w1.heap.size = some xb := by rw [← hat]; exact hb
        simp only [Option.some.injEq] at hb'
        omega
    · simp only [if_neg e]
      exact hxo i hi

end Go.Proofs.Ytmeinebfdljndaa
