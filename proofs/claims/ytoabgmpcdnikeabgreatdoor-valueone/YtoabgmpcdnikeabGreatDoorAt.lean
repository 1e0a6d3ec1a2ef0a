/- What the document's At and First answer. -/
import Derived.Test.YtoabgmpcdnikeabGreatDoorFirst
import Derived.Test.YtoabgmpcdnikeabGreatDoorBytes
namespace Go.Proofs.YtoabgmpcdnikeabGreatDoor
open Go.RowKit
set_option linter.unusedVariables false

/-- What At answers of what is there from the place on. -/
def aans (l : List UInt8) : Int × Int :=
  match first l with
  | none => (0, 0)
  | some (r, n) => ((r : Int), (n : Int))

theorem get_list {s : ByteArray} {a : Nat} (h : a < s.size) : ∃ h' : a < s.data.toList.length, s.data.toList[a] = s[a]'h :=
  ⟨by rw [size_list]; exact h, by simp [ByteArray.getElem_eq_getElem_data]⟩

theorem drop_get {s : ByteArray} {a : Nat} (h : a < s.size) : s.data.toList.drop a = (s[a]'h) :: s.data.toList.drop (a + 1) := by
  obtain ⟨h1, h2⟩ := get_list h
  rw [← h2, ← List.drop_eq_getElem_cons h1]

end Go.Proofs.YtoabgmpcdnikeabGreatDoor
