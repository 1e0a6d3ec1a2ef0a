/- The document's examples come out as it says. -/
import Derived.Test.YtfccijpmgjcmiabUnesc
namespace Go.Proofs.Ytfccijpmgjcmiab
open Go.RowKit
set_option linter.unusedVariables false

theorem live1 : fans [195, 169] = (233, 2, 0) := by decide
theorem live2 : eans true [97, 60, 98, 32, 38, 32, 34, 99, 34] = ([97, 38, 108, 116, 59, 98, 32, 38, 97, 109, 112, 59, 32, 38, 113, 117, 111, 116, 59, 99, 38, 113, 117, 111, 116, 59], 0, 0) := by decide +kernel
theorem live3 : uans [38, 35, 120, 52, 49, 59, 38, 35, 54, 54, 59] = ([65, 66], 0, 0) := by decide +kernel
theorem live4 : tans [97, 0] = (1, 7) := by decide +kernel
theorem live5 : nameL [97, 45, 98, 46, 99] = true := by decide
theorem live6 : nameL [] = false := by decide

set_option maxRecDepth 100000 in
set_option maxHeartbeats 2000000 in
theorem lives_any (w : World) : Calls Try.prog 4 #[] w fun e w' => e = .returned (.bool true) ∧ Below w.heap.size w w' := by
  have h1 := first_any w ⟨#[195, 169]⟩
  have h2 := fun W => escape_any W ⟨#[97, 60, 98, 32, 38, 32, 34, 99, 34]⟩ true
  have h3 := fun W => unescape_any W ⟨#[38, 35, 120, 52, 49, 59, 38, 35, 54, 54, 59]⟩ (by decide)
  have h4 := fun W => text_any W ⟨#[97, 0]⟩
  have h5 := fun W => name_any W ⟨#[97, 45, 98, 46, 99]⟩
  have h6 := fun W => name_any W ⟨#[]⟩
  have e1 : fans (⟨#[195, 169]⟩ : ByteArray).data.toList = (233, 2, 0) := live1
  have e2 : eans true (⟨#[97, 60, 98, 32, 38, 32, 34, 99, 34]⟩ : ByteArray).data.toList = _ := live2
  have e3 : uans (⟨#[38, 35, 120, 52, 49, 59, 38, 35, 54, 54, 59]⟩ : ByteArray).data.toList = _ := live3
  have e4 : tans (⟨#[97, 0]⟩ : ByteArray).data.toList = _ := live4
  have e5 : nameL (⟨#[97, 45, 98, 46, 99]⟩ : ByteArray).data.toList = _ := live5
  have e6 : nameL (⟨#[]⟩ : ByteArray).data.toList = _ := live6
  rw [e1] at h1
  rw [e2] at h2
  rw [e3] at h3
  rw [e4] at h4
  rw [e5] at h5
  rw [e6] at h6
  have HST : Hid (∀ W W' : World, Hid (Below w.heap.size w W) → Below W.heap.size W W' → Hid (Below w.heap.size w W')) := fun W W' h k => h.out.trans (k.mono h.out.size)
  clear e1 e2 e3 e4 e5 e6
  go_enter Try.func4, Try.ntmps4
  go_wp2_with fail
  refine h1.mono ?_
  rintro e w1 ⟨rfl, k1⟩
  have K1 : Hid (Below w.heap.size w w1) := k1
  clear k1
  go_wp2_with fail
  refine (h2 w1).mono ?_
  rintro e w2 ⟨rfl, k2⟩
  have K2 := HST.out _ _ K1 k2
  clear k2 K1
  go_wp2_with fail
  refine (h3 w2).mono ?_
  rintro e w3 ⟨rfl, k3⟩
  have K3 := HST.out _ _ K2 k3
  clear k3 K2
  go_wp2_with fail
  refine (h4 w3).mono ?_
  rintro e w4 ⟨rfl, k4⟩
  have K4 := HST.out _ _ K3 k4
  clear k4 K3
  go_wp2_with fail
  refine (h5 w4).mono ?_
  rintro e w5 ⟨rfl, k5⟩
  have K5 := HST.out _ _ K4 k5
  clear k5 K4
  go_wp2_with fail
  refine (h6 w5).mono ?_
  rintro e w6 ⟨rfl, k6⟩
  have K6 := HST.out _ _ K5 k6
  clear k6 K5
  go_wp2
  go_ret
  exact ⟨rfl, K6.out⟩

end Go.Proofs.Ytfccijpmgjcmiab
