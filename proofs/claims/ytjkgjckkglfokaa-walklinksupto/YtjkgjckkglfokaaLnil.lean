/- List of nothing, and of too small a lid. -/
import Derived.Test.YtjkgjckkglfokaaRun
namespace Go.Proofs.Ytjkgjckkglfokaa
open Go.RowKit Go.Shelf
set_option linter.unusedVariables false

set_option maxRecDepth 100000 in
set_option maxHeartbeats 1000000 in
theorem list_nil (W : World) (most : Int) : Calls Try.prog 16 #[.nilFunc, .int .i64 most] W fun e Y => e = .returned (.tuple #[.slice none 0 0, .int .i64 1]) ∧ Tn (fun _ => False) W Y := by
  have hq1 : ∀ w, (binOp .eql 50 .nilFunc .nilFunc).run Try.prog w = .ok (.bool true) w := fun _ => by kernel_rfl
  have HT : Hid (Tn (fun _ => False) W ((W.alloc (.cells #[.nilFunc] 50)).alloc (.cells #[.int .i64 most] 3))) := ((Tn.refl _ _).alloc _).alloc _
  go_enter Try.func16, Try.ntmps16
  go_wp2
  go_ret2
  exact ⟨rfl, HT.out⟩

set_option maxRecDepth 100000 in
set_option maxHeartbeats 1000000 in
theorem list_neg (W : World) (gf : Nat) (lb : Array Value) (most : Int) (hm : most < 0) : Calls Try.prog 16 #[.func (.func gf) #[] lb, .int .i64 most] W fun e Y => e = .returned (.tuple #[.slice none 0 0, .int .i64 1]) ∧ Tn (fun _ => False) W Y := by
  have hq1 : ∀ w, (binOp .eql 50 (.func (.func gf) #[] lb) .nilFunc).run Try.prog w = .ok (.bool false) w := fun _ => by kernel_rfl
  have HT : Hid (Tn (fun _ => False) W ((W.alloc (.cells #[.func (.func gf) #[] lb] 50)).alloc (.cells #[.int .i64 most] 3))) := ((Tn.refl _ _).alloc _).alloc _
  go_enter Try.func16, Try.ntmps16
  go_wp2
  go_ret2
  exact ⟨rfl, HT.out⟩

end Go.Proofs.Ytjkgjckkglfokaa
