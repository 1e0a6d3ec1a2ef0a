/- Two numbers held against each other. -/
import Derived.Test.YtoabgmpcdnikeaaGreatDoorVa
namespace Go.Proofs.YtoabgmpcdnikeaaGreatDoor
open Go.RowKit
set_option linter.unusedVariables false

theorem isNaN_any (w : World) (x : Int) : Calls Tryz.prog 143 #[.int .i64 x] w fun e w' => e = .returned (.bool false) ∧ w' = w := by
  go_enter Tryz.func143, Tryz.ntmps143
  go_wp2
  go_ret
  exact ⟨rfl, rfl⟩
/-- How two numbers lie. -/
def cmpI (x y : Int) : Int := if x < y then -1 else if y < x then 1 else 0
set_option maxRecDepth 100000 in
theorem cmp_any (w : World) (x y : Int) : Calls Tryz.prog 109 #[.int .i64 x, .int .i64 y] w fun e w' => e = .returned (.int .i64 (cmpI x y)) ∧ w' = w := by
  by_cases h1 : x < y
  · have HZ : Hid (cmpI x y = -1) := by show _ = _; simp [cmpI, h1]
    generalize cmpI x y = z at *
    go_enter Tryz.func109, Tryz.ntmps109
    go_wp2_with (refine (isNaN_any _ _).mono ?_; rintro e w' ⟨rfl, rfl⟩)
    go_ret
    exact ⟨congrArg _ (v_int HZ.out.symm), rfl⟩
  · by_cases h2 : y < x
    · have HZ : Hid (cmpI x y = 1) := by show _ = _; simp [cmpI, h1, h2]
      generalize cmpI x y = z at *
      go_enter Tryz.func109, Tryz.ntmps109
      go_wp2_with (refine (isNaN_any _ _).mono ?_; rintro e w' ⟨rfl, rfl⟩)
      go_ret
      exact ⟨congrArg _ (v_int HZ.out.symm), rfl⟩
    · have HZ : Hid (cmpI x y = 0) := by show _ = _; simp [cmpI, h1, h2]
      generalize cmpI x y = z at *
      go_enter Tryz.func109, Tryz.ntmps109
      go_wp2_with (refine (isNaN_any _ _).mono ?_; rintro e w' ⟨rfl, rfl⟩)
      go_ret
      exact ⟨congrArg _ (v_int HZ.out.symm), rfl⟩
/-- Two numbers, each of which may be none. -/
def nmB (op : ByteArray) (x : Int) (p : Bool) (y : Int) (q : Bool) : Bool := if p && q then mt op (cmpI x y) else decide (op = ⟨#[33, 61]⟩)
set_option maxRecDepth 100000 in
theorem meet_any (w : World) (op : ByteArray) (h : IsOp op) (x y : Int) (p q : Bool) :
    Calls Tryz.prog 71 #[.string op, .agg #[.int .i64 x, .bool p], .agg #[.int .i64 y, .bool q]] w fun e w' => e = .returned (.bool (nmB op x p y q)) ∧ Below w.heap.size w w' := by
  cases p with
  | false =>
    have HZ : Hid (nmB op x false y q = decide (op = ⟨#[33, 61]⟩)) := by show _ = _; simp [nmB]
    generalize nmB op x false y q = z at *
    rcases h with rfl | rfl | rfl | rfl | rfl | rfl <;> (go_enter Tryz.func71, Tryz.ntmps71; go_wp2; go_ret; exact ⟨congrArg _ (v_bool HZ.out.symm), ((Below.refl _ _).alloc (Nat.le_refl _) _).alloc (by simp) _⟩)
  | true =>
    cases q with
    | false =>
      have HZ : Hid (nmB op x true y false = decide (op = ⟨#[33, 61]⟩)) := by show _ = _; simp [nmB]
      generalize nmB op x true y false = z at *
      rcases h with rfl | rfl | rfl | rfl | rfl | rfl <;> (go_enter Tryz.func71, Tryz.ntmps71; go_wp2; go_ret; exact ⟨congrArg _ (v_bool HZ.out.symm), ((Below.refl _ _).alloc (Nat.le_refl _) _).alloc (by simp) _⟩)
    | true =>
      have HZ : Hid (nmB op x true y true = mt op (cmpI x y)) := by show _ = _; simp [nmB]
      generalize nmB op x true y true = z at *
      have hc := fun u => cmp_any u x y
      generalize cmpI x y = o at *
      have hm := fun u => meets_any u op o h
      generalize mt op o = m at *
      clear h
      go_enter Tryz.func71, Tryz.ntmps71
      go_wp2_with (first | (with_reducible refine (hc _).mono ?_; rintro e w' ⟨rfl, rfl⟩) | (with_reducible refine (hm _).mono ?_; rintro e w' ⟨rfl, rfl⟩))
      go_ret
      exact ⟨congrArg _ (v_bool HZ.out.symm), ((Below.refl _ _).alloc (Nat.le_refl _) _).alloc (by simp) _⟩

end Go.Proofs.YtoabgmpcdnikeaaGreatDoor
