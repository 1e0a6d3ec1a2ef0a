/- Values in plain: small functions of the program. -/
import Derived.Test.YtoabgmpcdnikeaaGreatDoorBel
import Derived.Test.YtoabgmpcdnikeaaGreatDoorLen
namespace Go.Proofs.YtoabgmpcdnikeaaGreatDoor
open Go.RowKit
set_option linter.unusedVariables false

abbrev Bs := List UInt8
abbrev Tx (s : ByteArray) : Bs := s.data.toList
theorem str_is {z : ByteArray} {c : Bs} (h : Tx z = c) : (z.toList == c) = true := by rw [Lib.toList_data]; exact beq_iff_eq.2 h
theorem str_not {z : ByteArray} {c : Bs} (h : Tx z ≠ c) : (z.toList == c) = false := by rw [Lib.toList_data]; exact beq_eq_false_iff_ne.2 h

theorem str_empty (t : ByteArray) : (!t.toList.isEmpty) = decide (Tx t ≠ []) := by
  rw [Lib.toList_data]
  show (!(Tx t).isEmpty) = _
  cases Tx t <;> simp
/-- A value as a truth. -/
def trB (k : Int) (b : Bool) (n : Int) (no : Bool) (t : Bs) (m : Nat) : Bool := if k = 1 then b else if k = 2 then !no && decide (n ≠ 0) else if k = 3 then decide (t ≠ []) else decide (0 < m)

set_option maxRecDepth 100000 in
theorem truth_any (w : World) (k n : Int) (b no : Bool) (t : ByteArray) (a : Option Addr) (m c : Nat) :
    Calls Tryz.prog 35 #[.agg #[.int .i64 k, .bool b, .int .i64 n, .bool no, .string t, .slice a m c]] w fun e w' => e = .returned (.bool (trB k b n no (Tx t) m)) ∧ Below w.heap.size w w' := by
  have HT : Hid (trB k b n no (Tx t) m = trB k b n no (Tx t) m) := rfl
  generalize hz : trB k b n no (Tx t) m = z at *
  have HZ : Hid (trB k b n no (Tx t) m = z) := hz
  clear hz HT
  by_cases h1 : k = 1
  · subst h1
    go_enter Tryz.func35, Tryz.ntmps35
    go_wp2
    go_ret
    exact ⟨congrArg _ (v_bool (by rw [← HZ.out]; rfl)), (Below.refl _ _).alloc (Nat.le_refl _) _⟩
  by_cases h2 : k = 2
  · subst h2
    cases no with
    | true =>
      go_enter Tryz.func35, Tryz.ntmps35
      go_wp2
      go_ret
      exact ⟨congrArg _ (v_bool (by rw [← HZ.out]; rfl)), (Below.refl _ _).alloc (Nat.le_refl _) _⟩
    | false =>
      by_cases hn : n = 0
      · subst hn
        go_enter Tryz.func35, Tryz.ntmps35
        go_wp2
        go_ret
        exact ⟨congrArg _ (v_bool (by rw [← HZ.out]; rfl)), (Below.refl _ _).alloc (Nat.le_refl _) _⟩
      · go_enter Tryz.func35, Tryz.ntmps35
        go_wp2
        go_ret
        exact ⟨congrArg _ (v_bool (by rw [← HZ.out]; simp [trB, hn])), (Below.refl _ _).alloc (Nat.le_refl _) _⟩
  by_cases h3 : k = 3
  · subst h3
    go_enter Tryz.func35, Tryz.ntmps35
    go_wp2
    go_ret
    exact ⟨congrArg _ (v_bool (by rw [← HZ.out]; exact str_empty t)), (Below.refl _ _).alloc (Nat.le_refl _) _⟩
  · have q1 : (k == 1) = false := by simpa using h1
    have q2 : (k == 2) = false := by simpa using h2
    have q3 : (k == 3) = false := by simpa using h3
    have HQ : Hid (trB k b n no (Tx t) m = decide (0 < m)) := by show _ = _; simp [trB, h1, h2, h3]
    clear h1 h2 h3
    go_enter Tryz.func35, Tryz.ntmps35
    go_wp2
    go_ret
    exact ⟨congrArg _ (v_bool (by rw [← HZ.out, HQ.out])), (Below.refl _ _).alloc (Nat.le_refl _) _⟩

theorem bit_any (w : World) (b : Bool) : Calls Tryz.prog 65 #[.bool b] w fun e w' => e = .returned (.agg #[.int .i64 (if b then 1 else 0), .bool true]) ∧ Below w.heap.size w w' := by
  cases b
  · go_enter Tryz.func65, Tryz.ntmps65
    go_wp2
    exact bodyPost_ret (v := .agg #[.int .i64 0, .bool true]) (by simp [results, Tryz.results65, go_sem]) rfl ⟨rfl, (Below.refl _ _).alloc (Nat.le_refl _) _⟩
  · go_enter Tryz.func65, Tryz.ntmps65
    go_wp2
    exact bodyPost_ret (v := .agg #[.int .i64 1, .bool true]) (by simp [results, Tryz.results65, go_sem]) rfl ⟨rfl, (Below.refl _ _).alloc (Nat.le_refl _) _⟩

theorem fbool_any (w : World) (b : Bool) : Calls Tryz.prog 106 #[.bool b] w fun e w' => e = .returned (.string ⟨if b then #[116, 114, 117, 101] else #[102, 97, 108, 115, 101]⟩) ∧ w' = w := by
  cases b
  · go_enter Tryz.func106, Tryz.ntmps106
    go_wp2
    go_ret
    exact ⟨rfl, rfl⟩
  · go_enter Tryz.func106, Tryz.ntmps106
    go_wp2
    go_ret
    exact ⟨rfl, rfl⟩
theorem formatBool_any (w : World) (b : Bool) : Calls Tryz.prog 67 #[.bool b] w fun e w' => e = .returned (.string ⟨if b then #[116, 114, 117, 101] else #[102, 97, 108, 115, 101]⟩) ∧ w' = w := by
  have h := fbool_any w b
  generalize (⟨if b then #[116, 114, 117, 101] else #[102, 97, 108, 115, 101]⟩ : ByteArray) = z at *
  go_enter Tryz.func67, Tryz.ntmps67
  go_wp2_with (refine h.mono ?_; rintro e w' ⟨rfl, rfl⟩)
  go_ret
  exact ⟨rfl, rfl⟩

theorem wrong_any (w : World) (s : ByteArray) : Calls Tryz.prog 63 #[.string s] w fun e w' => e = .returned (.bool (decide ((tans (Tx s)).2 ≠ 0))) ∧ Below w.heap.size w w' := by
  have h := text_any w s
  generalize hz : tans s.data.toList = z at *
  obtain ⟨x, y⟩ := z
  go_enter Tryz.func63, Tryz.ntmps63
  go_wp2_with (refine h.mono ?_; rintro e w' ⟨rfl, hb⟩)
  go_ret
  exact ⟨congrArg _ (v_bool (by by_cases h0 : y = 0 <;> simp [h0])), hb⟩

/-- One of the six signs. -/
def IsOp (op : ByteArray) : Prop := op = ⟨#[61]⟩ ∨ op = ⟨#[33, 61]⟩ ∨ op = ⟨#[60]⟩ ∨ op = ⟨#[60, 61]⟩ ∨ op = ⟨#[62]⟩ ∨ op = ⟨#[62, 61]⟩
/-- Whether a sign is so, by how two lie. -/
def mt (op : ByteArray) (o : Int) : Bool := if op = ⟨#[61]⟩ then decide (o = 0) else if op = ⟨#[33, 61]⟩ then decide (o ≠ 0) else if op = ⟨#[60]⟩ then decide (o < 0) else if op = ⟨#[60, 61]⟩ then decide (o ≤ 0) else if op = ⟨#[62]⟩ then decide (0 < o) else decide (0 ≤ o)
def isOpB (op : ByteArray) : Bool := decide (op = ⟨#[61]⟩) || decide (op = ⟨#[33, 61]⟩) || decide (op = ⟨#[60]⟩) || decide (op = ⟨#[60, 61]⟩) || decide (op = ⟨#[62]⟩) || decide (op = ⟨#[62, 61]⟩)
theorem isOpB_iff {op : ByteArray} : isOpB op = true ↔ IsOp op := by unfold isOpB IsOp; simp [or_assoc]
theorem ba_ne {z : ByteArray} {c : Array UInt8} (h : z ≠ ⟨c⟩) : (z.toList == c.toList) = false := by
  rw [Lib.toList_data]
  refine beq_eq_false_iff_ne.2 (fun e => h ?_)
  cases z with
  | mk d => exact congrArg ByteArray.mk (Array.toList_inj.1 e)
set_option maxRecDepth 100000 in
theorem sign_any (w : World) (op : ByteArray) : Calls Tryz.prog 38 #[.string op] w fun e w' => e = .returned (.bool (isOpB op)) ∧ w' = w := by
  by_cases h : IsOp op
  · have hb := isOpB_iff.2 h
    rw [hb]
    rcases h with rfl | rfl | rfl | rfl | rfl | rfl <;> (go_enter Tryz.func38, Tryz.ntmps38; go_wp2; go_ret; exact ⟨rfl, rfl⟩)
  · have hb : isOpB op = false := by
      rw [Bool.eq_false_iff]
      exact fun e => h (isOpB_iff.1 e)
    rw [hb]
    have h1 : (op.toList == [61]) = false := ba_ne (c := #[61]) (fun e => h (.inl e))
    have h2 : (op.toList == [33, 61]) = false := ba_ne (c := #[33, 61]) (fun e => h (.inr (.inl e)))
    have h3 : (op.toList == [60]) = false := ba_ne (c := #[60]) (fun e => h (.inr (.inr (.inl e))))
    have h4 : (op.toList == [60, 61]) = false := ba_ne (c := #[60, 61]) (fun e => h (.inr (.inr (.inr (.inl e)))))
    have h5 : (op.toList == [62]) = false := ba_ne (c := #[62]) (fun e => h (.inr (.inr (.inr (.inr (.inl e))))))
    have h6 : (op.toList == [62, 61]) = false := ba_ne (c := #[62, 61]) (fun e => h (.inr (.inr (.inr (.inr (.inr e))))))
    clear h hb
    go_enter Tryz.func38, Tryz.ntmps38
    go_wp2
    go_ret
    exact ⟨rfl, rfl⟩
/-- Whether a sign asks for an order. -/
def ordB (op : ByteArray) : Bool := !(decide (op = ⟨#[61]⟩) || decide (op = ⟨#[33, 61]⟩))
set_option maxRecDepth 100000 in
theorem orders_any (w : World) (op : ByteArray) (h : IsOp op) : Calls Tryz.prog 70 #[.string op] w fun e w' => e = .returned (.bool (ordB op)) ∧ w' = w := by
  rcases h with rfl | rfl | rfl | rfl | rfl | rfl <;> (go_enter Tryz.func70, Tryz.ntmps70; go_wp2; go_ret; exact ⟨rfl, rfl⟩)
set_option maxRecDepth 100000 in
theorem meets_any (w : World) (op : ByteArray) (o : Int) (h : IsOp op) : Calls Tryz.prog 108 #[.string op, .int .i64 o] w fun e w' => e = .returned (.bool (mt op o)) ∧ w' = w := by
  rcases h with rfl | rfl | rfl | rfl | rfl | rfl <;> (go_enter Tryz.func108, Tryz.ntmps108; go_wp2; go_ret; exact ⟨congrArg _ (v_bool (by simp only [mt, if_true]; first | rfl | (by_cases h0 : o = 0 <;> simp [h0]) | simp)), rfl⟩)

end Go.Proofs.YtoabgmpcdnikeaaGreatDoor
