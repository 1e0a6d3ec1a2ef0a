/- The names that are told, one by one, in a row under way. -/
import Derived.Test.YtmeinebfdljndaaRlw
import Derived.Test.YtmeinebfdljndaaKpt
namespace Go.Proofs.Ytmeinebfdljndaa
open Go.RowKit
set_option linter.unusedVariables false

/-- The names that are told, one by one. -/
def calN (A : List ByteArray) (i : Nat) : ByteArray := match A[i % A.length]? with | some s => s | none => ⟨#[]⟩
def calL (A : List ByteArray) (n : Nat) : List ByteArray := (List.range n).map (calN A)
theorem calL_len (A : List ByteArray) (n : Nat) : (calL A n).length = n := by simp [calL]
theorem calL_snoc (A : List ByteArray) (n : Nat) : calL A (n + 1) = calL A n ++ [calN A n] := by simp [calL, List.range_succ]
def strs (l : List ByteArray) : List Value := l.map (fun s => .string s)
theorem strs_length (l : List ByteArray) : (strs l).length = l.length * 1 := by simp [strs]
theorem info9 : InfoOf Try.prog 9 (.string ⟨#[]⟩) 1 16 := by unfold InfoOf; kernel_rfl
/-- The names under way: their box, their row. -/
structure CaS (Wc wr : World) (l : List ByteArray) (ra : Option Addr) (rc : Nat) : Prop where
  bel : Below Wc.heap.size Wc wr
  box : IsCells wr Wc.heap.size #[.slice ra l.length rc]
  own : wr.ownsRow (Wc.heap.size + 1) 9 1 (.slice ra l.length rc) l.length (strs l)
theorem CaS.put {Wc wr w4 : World} {l : List ByteArray} {ra : Option Addr} {rc : Nat} (h : CaS Wc wr l ra rc) {s : ByteArray} {o : Obj} {va : Option Addr} {vc : Nat} (q1 : w4.ownsRow (Wc.heap.size + 1) 9 1 (.slice va (l.length + 1) vc) (l.length + 1) (strs l ++ [.string s])) (q2 : (wr.alloc o).grownBy w4 (Value.slice ra l.length rc).ownBlock) :
    IsCells w4 Wc.heap.size #[.slice ra l.length rc] ∧ CaS Wc (w4.setCell ⟨Wc.heap.size, 0, none⟩ (.slice va (l.length + 1) vc)) (l ++ [s]) va vc := by
  have hl := h.box.lt
  have hob := own_block_lt h.own
  have i4 : IsCells w4 Wc.heap.size #[.slice ra l.length rc] := (h.box.alloc o).of_block (q2.block _ (by simp; omega) (fun e => by have := hob _ e.symm; omega))
  refine ⟨i4, ?_, ?_, ?_⟩
  · exact ((h.bel.alloc h.bel.size o).grown q2 (by have := h.bel.size; simp; omega) (fun k hk => by have := hob k hk; omega)).setCell (p := ⟨Wc.heap.size, 0, none⟩) (Nat.le_refl _) _
  · rw [List.length_append]
    exact i4.set1
  · rw [List.length_append, show strs (l ++ [s]) = strs l ++ [.string s] by simp [strs]]
    refine own_of_block q1 (fun k hk => Below.heap_setCell _ _ _ _ ?_)
    have := (own_block_lt q1 k hk).1
    simp only
    omega
theorem CaS.st {Wc wr : World} {l : List ByteArray} {ra : Option Addr} {rc : Nat} (h : CaS Wc wr l ra rc) {i : Nat} {s : ByteArray} (hs : l[i]? = some s) : ∃ g, ra = some ⟨g, 0, none⟩ ∧ Wc.heap.size + 1 ≤ g ∧ g < wr.heap.size ∧ wr.cell? ⟨g, i, none⟩ = some (.string s) := by
  obtain ⟨-, -, hcell⟩ := row_cell h.own
  exact hcell i _ (by simp [strs, hs])

end Go.Proofs.Ytmeinebfdljndaa
