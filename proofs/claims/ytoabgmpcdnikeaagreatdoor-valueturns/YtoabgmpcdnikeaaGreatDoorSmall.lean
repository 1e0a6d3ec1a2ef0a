/- What the small calls answer that look at one number or one byte. -/
import Derived.Test.YtoabgmpcdnikeaaGreatDoorScan
import Derived.Test.YtoabgmpcdnikeaaGreatDoorProg
import Derived.WalkSpells
import Derived.WalkLawsBesides
import Derived.Deep.QuietTactic
import Derived.BigQuiet
namespace Go.Proofs.YtoabgmpcdnikeaaGreatDoor
open Go.RowKit
set_option linter.unusedVariables false

theorem lead_is (b : Nat) : (b < 128 ∧ (lead b).1 = b ∧ (lead b).2 = 1) ∨ (128 ≤ b ∧ b < 192 ∧ (lead b).1 = 0 ∧ (lead b).2 = 0) ∨ (192 ≤ b ∧ b < 224 ∧ (lead b).1 = b % 32 ∧ (lead b).2 = 2) ∨
    (224 ≤ b ∧ b < 240 ∧ (lead b).1 = b % 16 ∧ (lead b).2 = 3) ∨ (240 ≤ b ∧ b < 248 ∧ (lead b).1 = b % 8 ∧ (lead b).2 = 4) ∨ (248 ≤ b ∧ (lead b).1 = 0 ∧ (lead b).2 = 0) := by
  unfold lead
  split
  · simp; omega
  · split
    · simp; omega
    · split
      · simp; omega
      · split
        · simp; omega
        · split <;> simp <;> omega
theorem v_bool {b c : Bool} (h : b = c) : Value.bool b = Value.bool c := by rw [h]
theorem v_int {k : IntKind} {b c : Int} (h : b = c) : Value.int k b = Value.int k c := by rw [h]
theorem v_two {k k' : IntKind} {b c d e : Int} (h : b = c) (h' : d = e) : Value.tuple #[.int k b, .int k' d] = .tuple #[.int k c, .int k' e] := by rw [h, h']
theorem v_three {k k' k'' : IntKind} {b c d e f g : Int} (h : b = c) (h' : d = e) (h'' : f = g) : Value.tuple #[.int k b, .int k' d, .int k'' f] = .tuple #[.int k c, .int k' e, .int k'' g] := by rw [h, h', h'']

set_option maxRecDepth 100000 in
set_option maxHeartbeats 1000000 in
theorem char_any (w : World) (r : Int) : Calls Tryz.prog 158 #[.int .i64 r] w fun e w' => e = .returned (.bool (charB r)) ∧ w' = w := by
  go_enter Tryz.func158, Tryz.ntmps158
  go_wp2
  all_goals go_ret
  all_goals refine ⟨congrArg _ (v_bool (Bool.eq_iff_iff.2 ?_)), rfl⟩
  all_goals simp [charB]
  all_goals omega

set_option maxRecDepth 100000 in
set_option maxHeartbeats 1000000 in
theorem rchar_any (w : World) (r : Int) : Calls Tryz.prog 117 #[.int .i64 r] w fun e w' => e = .returned (.bool (charB r)) ∧ w' = w := by
  go_enter Tryz.func117, Tryz.ntmps117
  go_wp2
  all_goals go_ret
  all_goals refine ⟨congrArg _ (v_bool (Bool.eq_iff_iff.2 ?_)), rfl⟩
  all_goals simp [charB]
  all_goals omega

set_option maxRecDepth 100000 in
set_option maxHeartbeats 1000000 in
theorem lead_any (w : World) (b : Nat) (hb : b < 256) : Calls Tryz.prog 156 #[.int .u8 (b : Int)] w fun e w' => e = .returned (.tuple #[.int .i64 ((lead b).1 : Int), .int .i64 ((lead b).2 : Int)]) ∧ w' = w := by
  go_enter Tryz.func156, Tryz.ntmps156
  go_wp2
  all_goals go_ret2
  all_goals refine ⟨congrArg _ (v_two ?_ ?_), rfl⟩
  all_goals have := lead_is b
  all_goals omega

set_option maxRecDepth 100000 in
set_option maxHeartbeats 1000000 in
theorem size_int (w : World) (r k : Int) (hk : (r < 128 ∧ k = 1) ∨ (128 ≤ r ∧ r < 2048 ∧ k = 2) ∨ (2048 ≤ r ∧ r < 65536 ∧ k = 3) ∨ (65536 ≤ r ∧ k = 4)) : Calls Tryz.prog 157 #[.int .i64 r] w fun e w' => e = .returned (.int .i64 k) ∧ w' = w := by
  have HK : Hid ((r < 128 ∧ k = 1) ∨ (128 ≤ r ∧ r < 2048 ∧ k = 2) ∨ (2048 ≤ r ∧ r < 65536 ∧ k = 3) ∨ (65536 ≤ r ∧ k = 4)) := hk
  clear hk
  go_enter Tryz.func157, Tryz.ntmps157
  go_wp2
  all_goals go_ret
  all_goals refine ⟨congrArg _ (v_int ?_), rfl⟩
  all_goals have := HK.out
  all_goals omega
theorem size_any (w : World) (r : Nat) : Calls Tryz.prog 157 #[.int .i64 (r : Int)] w fun e w' => e = .returned (.int .i64 (size r : Int)) ∧ w' = w :=
  size_int w r (size r) (by have := size_is r; omega)

def blankB (c : Nat) : Bool := decide (c = 9 ∨ c = 10 ∨ c = 13 ∨ c = 32)
def beginB (c : Nat) : Bool := decide ((97 ≤ c ∧ c ≤ 122) ∨ (65 ≤ c ∧ c ≤ 90) ∨ c = 95)
def inB (c : Nat) : Bool := decide (((97 ≤ c ∧ c ≤ 122) ∨ (65 ≤ c ∧ c ≤ 90) ∨ c = 95) ∨ (48 ≤ c ∧ c ≤ 57) ∨ c = 45 ∨ c = 46)

set_option maxRecDepth 100000 in
set_option maxHeartbeats 1000000 in
theorem white_any (w : World) (b : Nat) (hb : b < 256) : Calls Tryz.prog 78 #[.int .u8 (b : Int)] w fun e w' => e = .returned (.bool (blankB b)) ∧ w' = w := by
  go_enter Tryz.func78, Tryz.ntmps78
  go_wp2
  all_goals go_ret
  all_goals refine ⟨congrArg _ (v_bool (Bool.eq_iff_iff.2 ?_)), rfl⟩
  all_goals simp [blankB]
  all_goals omega

set_option maxRecDepth 100000 in
set_option maxHeartbeats 1000000 in
theorem begins_any (w : World) (b : Nat) (hb : b < 256) : Calls Tryz.prog 149 #[.int .u8 (b : Int)] w fun e w' => e = .returned (.bool (beginB b)) ∧ w' = w := by
  go_enter Tryz.func149, Tryz.ntmps149
  go_wp2
  all_goals go_ret
  all_goals refine ⟨congrArg _ (v_bool (Bool.eq_iff_iff.2 ?_)), rfl⟩
  all_goals simp [beginB]
  all_goals omega

set_option maxRecDepth 100000 in
set_option maxHeartbeats 1000000 in
theorem in_any (w : World) (b : Nat) (hb : b < 256) : Calls Tryz.prog 150 #[.int .u8 (b : Int)] w fun e w' => e = .returned (.bool (inB b)) ∧ w' = w := by
  have h0 := begins_any w b hb
  cases hB : beginB b <;> rw [hB] at h0 <;> simp [beginB] at hB
  all_goals go_enter Tryz.func150, Tryz.ntmps150
  all_goals go_wp2_with fail
  all_goals refine h0.mono ?_
  all_goals rintro e w' ⟨rfl, rfl⟩
  all_goals go_wp2
  all_goals go_ret
  all_goals refine ⟨congrArg _ (v_bool (Bool.eq_iff_iff.2 ?_)), rfl⟩
  all_goals simp [inB]
  all_goals omega

set_option maxRecDepth 100000 in
set_option maxHeartbeats 1000000 in
theorem rsize_any (w : World) (b : Nat) (hb : b < 256) : Calls Tryz.prog 116 #[.int .u8 (b : Int)] w fun e w' => e = .returned (.tuple #[.int .i64 ((lead b).2 : Int), .int .i64 ((lead b).1 : Int)]) ∧ w' = w := by
  go_enter Tryz.func116, Tryz.ntmps116
  go_wp2
  all_goals go_ret2
  all_goals refine ⟨congrArg _ (v_two ?_ ?_), rfl⟩
  all_goals have := lead_is b
  all_goals omega

end Go.Proofs.YtoabgmpcdnikeaaGreatDoor
