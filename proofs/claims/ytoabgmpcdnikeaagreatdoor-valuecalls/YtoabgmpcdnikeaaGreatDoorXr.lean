/- The document's Takes, has, and sum. -/
import Derived.Test.YtoabgmpcdnikeaaGreatDoorXi
import Derived.Test.YtoabgmpcdnikeaaGreatDoorXf
import Derived.Lib.IndexMore
namespace Go.Proofs.YtoabgmpcdnikeaaGreatDoor
open Go.RowKit
set_option linter.unusedVariables false

set_option maxRecDepth 100000 in
theorem dtakes0 (w : World) (nm : ByteArray) (h : Fn0 nm) : Calls Tryz.prog 21 #[.string nm] w fun e w' => e = .returned (.int .i64 0) ∧ w' = w := by
  rcases h with rfl | rfl | rfl | rfl | rfl <;> (go_enter Tryz.func21, Tryz.ntmps21; go_wp2; go_ret; exact ⟨rfl, rfl⟩)
set_option maxRecDepth 100000 in
theorem dtakes1 (w : World) (nm : ByteArray) (h : Fn1 nm) : Calls Tryz.prog 21 #[.string nm] w fun e w' => e = .returned (.int .i64 1) ∧ w' = w := by
  rcases h with rfl | rfl | rfl | rfl | rfl | rfl <;> (go_enter Tryz.func21, Tryz.ntmps21; go_wp2; go_ret; exact ⟨rfl, rfl⟩)
set_option maxRecDepth 100000 in
theorem dtakes2 (w : World) (nm : ByteArray) (h : Fn2 nm) : Calls Tryz.prog 21 #[.string nm] w fun e w' => e = .returned (.int .i64 2) ∧ w' = w := by
  rcases h with rfl | rfl <;> (go_enter Tryz.func21, Tryz.ntmps21; go_wp2; go_ret; exact ⟨rfl, rfl⟩)
set_option maxRecDepth 100000 in
theorem dtakesno (w : World) (nm : ByteArray) (h0 : ¬ Fn0 nm) (h1 : ¬ Fn1 nm) (h2 : ¬ Fn2 nm) : Calls Tryz.prog 21 #[.string nm] w fun e w' => e = .returned (.int .i64 (-1)) ∧ w' = w := by
  have q0 : (nm.toList == [116, 114, 117, 101]) = false := ba_ne (c := #[116, 114, 117, 101]) (fun e => h0 (.inl e))
  have q1 : (nm.toList == [102, 97, 108, 115, 101]) = false := ba_ne (c := #[102, 97, 108, 115, 101]) (fun e => h0 (.inr (.inl e)))
  have q2 : (nm.toList == [112, 111, 115, 105, 116, 105, 111, 110]) = false := ba_ne (c := #[112, 111, 115, 105, 116, 105, 111, 110]) (fun e => h0 (.inr (.inr (.inl e))))
  have q3 : (nm.toList == [108, 97, 115, 116]) = false := ba_ne (c := #[108, 97, 115, 116]) (fun e => h0 (.inr (.inr (.inr (.inl e)))))
  have q4 : (nm.toList == [110, 97, 109, 101]) = false := ba_ne (c := #[110, 97, 109, 101]) (fun e => h0 (.inr (.inr (.inr (.inr (e))))))
  have q5 : (nm.toList == [110, 111, 116]) = false := ba_ne (c := #[110, 111, 116]) (fun e => h1 (.inl e))
  have q6 : (nm.toList == [115, 116, 114, 105, 110, 103]) = false := ba_ne (c := #[115, 116, 114, 105, 110, 103]) (fun e => h1 (.inr (.inl e)))
  have q7 : (nm.toList == [110, 117, 109, 98, 101, 114]) = false := ba_ne (c := #[110, 117, 109, 98, 101, 114]) (fun e => h1 (.inr (.inr (.inl e))))
  have q8 : (nm.toList == [99, 111, 117, 110, 116]) = false := ba_ne (c := #[99, 111, 117, 110, 116]) (fun e => h1 (.inr (.inr (.inr (.inl e)))))
  have q9 : (nm.toList == [115, 117, 109]) = false := ba_ne (c := #[115, 117, 109]) (fun e => h1 (.inr (.inr (.inr (.inr (.inl e))))))
  have qa : (nm.toList == [108, 101, 110, 103, 116, 104]) = false := ba_ne (c := #[108, 101, 110, 103, 116, 104]) (fun e => h1 (.inr (.inr (.inr (.inr (.inr e))))))
  have qb : (nm.toList == [99, 111, 110, 116, 97, 105, 110, 115]) = false := ba_ne (c := #[99, 111, 110, 116, 97, 105, 110, 115]) (fun e => h2 (.inl e))
  have qc : (nm.toList == [115, 116, 97, 114, 116, 115]) = false := ba_ne (c := #[115, 116, 97, 114, 116, 115]) (fun e => h2 (.inr e))
  clear h0 h1 h2
  go_enter Tryz.func21, Tryz.ntmps21
  go_wp2
  go_ret
  exact ⟨rfl, rfl⟩

theorem occ_iff (s t : ByteArray) (i : Nat) (hi : i ≤ s.size) : Lib.occAt (Tx s) (Tx t) i = (decide (i + t.size ≤ s.size) && decide (s.extract i (i + t.size) = t)) := by
  have e1 : (s.extract i (i + t.size) = t) ↔ ((Tx s).drop i).take t.size = Tx t := by
    constructor
    · intro h
      have := congrArg Tx h
      rw [← this]
      show _ = (s.extract _ _).data.toList
      rw [Lib.extract_data, Nat.add_sub_cancel_left]
    · intro h
      have h2 : Tx (s.extract i (i + t.size)) = Tx t := by
        show (s.extract _ _).data.toList = _
        rw [Lib.extract_data, Nat.add_sub_cancel_left, ← h]
      revert h2
      generalize s.extract i (i + t.size) = x
      intro h2
      cases x; cases t; exact congrArg ByteArray.mk (Array.toList_inj.1 h2)
  have hts : t.size = (Tx t).length := by simp
  have hss : s.size = (Tx s).length := by simp
  unfold Lib.occAt
  rw [Bool.eq_iff_iff, List.isPrefixOf_iff_prefix, List.prefix_iff_eq_take, Bool.and_eq_true, decide_eq_true_eq, decide_eq_true_eq, e1, hts]
  constructor
  · intro h
    refine ⟨?_, h.symm⟩
    have := congrArg List.length h
    rw [List.length_take, List.length_drop] at this
    omega
  · rintro ⟨_, h⟩
    exact h.symm
set_option maxRecDepth 100000 in
theorem dhas_any (w : World) (s t : ByteArray) (i : Nat) (hi : i ≤ s.size) (h1 : s.size ≤ 281474976710656) (h2 : t.size ≤ 281474976710656) : Calls Tryz.prog 52 #[.string s, .string t, .int .i64 (i : Int)] w fun e w' => e = .returned (.bool (Lib.occAt (Tx s) (Tx t) i)) ∧ w' = w := by
  rw [occ_iff s t i hi]
  by_cases h : i + t.size ≤ s.size
  · have hz : (i : Int) + (t.size : Int) ≤ (s.size : Int) := by omega
    have HE : Hid (((s.extract i (i + t.size)).toList == t.toList) = (decide (i + t.size ≤ s.size) && decide (s.extract i (i + t.size) = t))) := by
      show _ = _
      rw [decide_eq_true h, Bool.true_and, Bool.eq_iff_iff, beq_iff_eq, decide_eq_true_eq, Lib.toList_data, Lib.toList_data]
      generalize s.extract i (i + t.size) = x
      exact ⟨fun h2 => by cases x; cases t; exact congrArg ByteArray.mk (Array.toList_inj.1 h2), fun h => by rw [h]⟩
    rw [← HE.out]
    clear HE
    go_enter Tryz.func52, Tryz.ntmps52
    go_wp2
    go_ret
    exact ⟨rfl, rfl⟩
  · have hz : ¬ (i : Int) + (t.size : Int) ≤ (s.size : Int) := by omega
    rw [decide_eq_false h, Bool.false_and]
    go_enter Tryz.func52, Tryz.ntmps52
    go_wp2
    go_ret
    exact ⟨rfl, rfl⟩

theorem rd_range {s : Bs} : -9223372036854775808 ≤ (rdN s).1 ∧ (rdN s).1 ≤ 9223372036854775807 := by
  rw [← rd2_eq]
  generalize Lib.trimS s blk = t
  unfold rd2
  split
  · simp
  · split
    · split
      · simp
      · split
        · simp
        · rename_i n hn
          have := accN_le _ _ _ hn (by omega)
          simp only
          omega
    · split
      · simp
      · rename_i n hn
        split
        · simp only
          omega
        · simp
theorem add_none (x : Nm) : addN (0, false) x = (0, false) := by simp [addN]
theorem fold_none : ∀ l : List Nm, l.foldl addN (0, false) = (0, false)
  | [] => rfl
  | x :: r => by rw [List.foldl_cons, add_none]; exact fold_none r
theorem add_no (m : Int) (x : Int) : addN (m, true) (x, false) = (0, false) := by simp [addN]
theorem add_over {m x : Int} (m0 : -9223372036854775808 ≤ m) (m1 : m ≤ 9223372036854775807) (x0 : -9223372036854775808 ≤ x) (x1 : x ≤ 9223372036854775807) (h : (0 < x ∧ 9223372036854775807 - x < m) ∨ (x < 0 ∧ m < -9223372036854775808 - x)) : addN (m, true) (x, true) = (0, false) := by
  unfold addN
  simp only [Bool.and_self, Bool.true_and, IntKind.wrap_i64]
  rw [if_neg]
  rw [beq_iff_eq]
  rcases h with h | h
  · have e1 : decide (0 < x) = true := by simp; omega
    have e2 : decide ((m + x + 9223372036854775808) % 18446744073709551616 - 9223372036854775808 > m) = false := by simp; omega
    simp only [gt_iff_lt] at e2 ⊢
    rw [e1, e2]
    decide
  · have e1 : decide (0 < x) = false := by simp; omega
    have e2 : decide ((m + x + 9223372036854775808) % 18446744073709551616 - 9223372036854775808 > m) = true := by simp; omega
    simp only [gt_iff_lt] at e2 ⊢
    rw [e1, e2]
    decide
theorem add_fine {m x : Int} (m0 : -9223372036854775808 ≤ m) (m1 : m ≤ 9223372036854775807) (x0 : -9223372036854775808 ≤ x) (x1 : x ≤ 9223372036854775807) (h1 : ¬ (0 < x ∧ 9223372036854775807 - x < m)) (h2 : ¬ (x < 0 ∧ m < -9223372036854775808 - x)) : addN (m, true) (x, true) = (m + x, true) ∧ -9223372036854775808 ≤ m + x ∧ m + x ≤ 9223372036854775807 := by
  have hw : IntKind.i64.wrap (m + x) = m + x := by rw [IntKind.wrap_i64]; omega
  refine ⟨?_, by omega, by omega⟩
  unfold addN
  simp only [Bool.and_self, Bool.true_and, hw]
  rw [if_pos]
  rw [beq_iff_eq, Bool.eq_iff_iff]
  simp
  omega

end Go.Proofs.YtoabgmpcdnikeaaGreatDoor
