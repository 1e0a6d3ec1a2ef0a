/- What Cut of the program answers. -/
import Derived.Test.YtfccijpmgjcmiabLen
import Derived.Test.YtfccijpmgjcmiabShelf
namespace Go.Proofs.Ytfccijpmgjcmiab
open Go.RowKit
set_option linter.unusedVariables false

/-- What Cut answers. -/
def cans (l : List UInt8) (f n : Int) : List UInt8 × Int :=
  if (tans l).2 = 0 then (if f < 0 ∨ n < 0 then ([], 1) else (bytes (((scan l).1.drop f.toNat).take n.toNat), 0)) else ([], (tans l).2)

theorem v_strint {k : IntKind} {a b : ByteArray} {c d : Int} (h : a = b) (h' : c = d) : Value.tuple #[.string a, .int k c] = .tuple #[.string b, .int k d] := by rw [h, h']
theorem v_str {a b : ByteArray} (h : a = b) : Value.string a = .string b := by rw [h]
theorem str_of {s : ByteArray} {l : List UInt8} (h : s.data.toList = l) : s = ⟨l.toArray⟩ := by
  subst h
  rfl

end Go.Proofs.Ytfccijpmgjcmiab
