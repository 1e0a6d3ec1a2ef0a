/- CharsEscapes' walk. -/
import Derived.Test.YtfccijpmgjcmiaaEscape
namespace Go.Proofs.Ytfccijpmgjcmiaa
open Go.RowKit
set_option linter.unusedVariables false

set_option maxRecDepth 100000 in
set_option maxHeartbeats 1000000 in
theorem escapes_walk (w : World) (s : ByteArray) (q : Bool) :
    Calls Try.prog 4 #[.string s, .bool q] w fun e w' => e = .returned (.bool true) ∧ Below w.heap.size w w' := by
  have h1 := escape_any w s q
  have h2 := fun W => rescape_any W s q
  generalize (⟨(eans q s.data.toList).1.toArray⟩ : ByteArray) = X at *
  generalize (eans q s.data.toList).2.1 = x at *
  generalize (eans q s.data.toList).2.2 = y at *
  go_enter Try.func4, Try.ntmps4
  go_wp2_with fail
  refine h1.mono ?_
  rintro e w1 ⟨rfl, hb1⟩
  go_wp2_with fail
  refine (h2 w1).mono ?_
  rintro e w2 ⟨rfl, hb2⟩
  go_wp2
  go_ret
  exact ⟨rfl, hb1.trans (hb2.mono hb1.size)⟩

end Go.Proofs.Ytfccijpmgjcmiaa
