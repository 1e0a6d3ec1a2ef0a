/- What Name and Blank answer, the program's and the document's. -/
import Derived.Test.YtoabgmpcdnikeabGreatDoorText
namespace Go.Proofs.YtoabgmpcdnikeabGreatDoor
open Go.RowKit
set_option linter.unusedVariables false

def blankL (l : List UInt8) : Bool := l.all fun b => blankB b.toNat
def nameL (l : List UInt8) : Bool := decide (1 ≤ l.length ∧ l.length ≤ 32) && (l.take 1).all (fun b => beginB b.toNat) && l.all fun b => inB b.toNat

theorem take_snoc {α : Type} {l : List α} {i : Nat} (h : i < l.length) : l.take (i + 1) = l.take i ++ [l[i]] := by rw [List.take_add_one, List.getElem?_eq_getElem h]; rfl

theorem name_false_of {l : List UInt8} {i : Nat} (hi : i < l.length) (h : inB (l[i]).toNat = false ∨ (i = 0 ∧ beginB (l[i]).toNat = false)) : nameL l = false := by
  rcases h with h | ⟨h0, h⟩
  · have : (l.all fun b => inB b.toNat) = false := by
      rw [List.all_eq_false]
      exact ⟨l[i], List.getElem_mem _, by simp [h]⟩
    simp [nameL, this]
  · subst h0
    have : ((l.take 1).all fun b => beginB b.toNat) = false := by
      rw [List.all_eq_false]
      refine ⟨l[0], ?_, by simp [h]⟩
      rw [List.mem_take_iff_getElem]
      exact ⟨0, by omega, rfl⟩
    simp [nameL, this]

end Go.Proofs.YtoabgmpcdnikeabGreatDoor
