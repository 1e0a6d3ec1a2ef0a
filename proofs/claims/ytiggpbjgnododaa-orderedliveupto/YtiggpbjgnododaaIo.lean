/- Put, Has, Rank of a list that rises by a key, at whole numbers: what is answered and what is there, in plain. -/
import Derived.Test.YtiggpbjgnododaaIl
import Derived.Test.YtiggpbjgnododaaOrd
namespace Go.Proofs.Ytiggpbjgnododaa.I
open Go.RowKit Go.Shelf
set_option linter.unusedVariables false

theorem cut_of {key : Int → Int} {L : List (Int)} (hr : Rise key L) (x : Int) : Cut (ltK key) L x (rk key L (key x)) :=
  ⟨rk_le key L _, fun i y hy hi => by simp [ltK]; exact (rise_cut key hr hy).1 hi, fun i y hy hi => by
    simp only [ltK, decide_eq_false_iff_not]
    rw [← rise_cut key hr hy]
    omega⟩

theorem there_iff {key : Int → Int} {L : List (Int)} (hr : Rise key L) (x : Int) : thereB (ltK key) L x (rk key L (key x)) = true ↔ ∃ y ∈ L, key y = key x := by
  rw [← rise_there key hr]
  unfold thereB
  cases h : L[rk key L (key x)]? with
  | none => simp
  | some y => simp [ltK]

set_option maxRecDepth 100000 in
set_option maxHeartbeats 1000000 in
theorem new_any (w : World) (g : Nat) (caps : Array Value) : Calls Try.prog 12 #[.func (.func g) #[] caps] w fun e w' => e = .returned (.tuple #[.pointer (some ⟨w.heap.size, 0, none⟩), .int .i64 0]) ∧ w' = w.alloc (.cells #[.func (.func g) #[] caps, .slice none 0 0, .bool false, .int .u64 0] 92) := by
  have hq : ∀ w, (binOp .eql 61 (.func (.func g) #[] caps) .nilFunc).run Try.prog w = .ok (.bool false) w := fun _ => by kernel_rfl
  go_enter Try.func12, Try.ntmps12
  go_wp2
  go_ret2
  exact ⟨rfl, rfl⟩

theorem LAt.new (w : World) (g B : Nat) (caps : Array Value) : LAt (w.alloc (.cells #[.func (.func g) #[] caps, .slice none 0 0, .bool false, .int .u64 0] 92)) B w.heap.size g caps [] none 0 false 0 :=
  ⟨isCells_new w _ _, ⟨by simp [cellsOf], .inl ⟨rfl, rfl⟩⟩, fun k hk => (by cases hk), Nat.zero_le _⟩

end Go.Proofs.Ytiggpbjgnododaa.I
