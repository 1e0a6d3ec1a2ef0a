/- What Len, place and Clone of the program answer. -/
import Derived.Test.YtfccijpmgjcmiabText
namespace Go.Proofs.Ytfccijpmgjcmiab
open Go.RowKit
set_option linter.unusedVariables false

/-- What Len answers. -/
def lans (l : List UInt8) : Int × Int := if (tans l).2 = 0 then (((scan l).1.length : Int), 0) else (0, (tans l).2)

theorem tans_ok {l : List UInt8} (h : (tans l).2 = 0) : l.length ≤ 16384 ∧ l = bytes (scan l).1 ∧ (∀ r ∈ (scan l).1, Ch r) := by
  unfold tans at h
  split at h
  · simp at h
  · rename_i h1
    unfold bans at h
    split at h
    · rename_i h2
      have h3 := scan_spec l
      refine ⟨by omega, ?_, h3.2.1⟩
      rw [h2, List.append_nil] at h3
      exact h3.1
    · simp at h

theorem scan_bytes {rs : List Nat} (hc : ∀ r ∈ rs, Ch r) : scan (bytes rs) = (rs, []) := by
  have := scan_of (rest := []) hc first_nil
  rwa [List.append_nil] at this

end Go.Proofs.Ytfccijpmgjcmiab
