/- The document's small functions: text, Can, Bool, Sign, first, held. -/
import Derived.Test.YtoabgmpcdnikeaaGreatDoorVu
namespace Go.Proofs.YtoabgmpcdnikeaaGreatDoor
open Go.RowKit
set_option linter.unusedVariables false

theorem dtext_any (w : World) (s : ByteArray) : Calls Tryz.prog 40 #[.string s] w fun e w' => e = .returned (.bool (decide ((tans (Tx s)).2 = 0))) ∧ Below w.heap.size w w' := by
  have h := rtext_any w s
  generalize hz : tans s.data.toList = z at *
  obtain ⟨x, y⟩ := z
  go_enter Tryz.func40, Tryz.ntmps40
  go_wp2_with (refine h.mono ?_; rintro e w' ⟨rfl, hb⟩)
  go_ret
  exact ⟨congrArg _ (v_bool (by by_cases h0 : y = 0 <;> simp [h0])), hb⟩

set_option maxRecDepth 100000 in
theorem dbool_any (w : World) (k n : Int) (b no : Bool) (t : ByteArray) (a : Option Addr) (m c : Nat) :
    Calls Tryz.prog 16 #[.agg #[.int .i64 k, .bool b, .int .i64 n, .bool no, .string t, .slice a m c]] w fun e w' => e = .returned (.bool (trB k b n no (Tx t) m)) ∧ Below w.heap.size w w' := by
  have HT : Hid (trB k b n no (Tx t) m = trB k b n no (Tx t) m) := rfl
  generalize hz : trB k b n no (Tx t) m = z at *
  have HZ : Hid (trB k b n no (Tx t) m = z) := hz
  clear hz HT
  by_cases h1 : k = 1
  · subst h1
    go_enter Tryz.func16, Tryz.ntmps16
    go_wp2
    go_ret
    exact ⟨congrArg _ (v_bool (by rw [← HZ.out]; rfl)), (Below.refl _ _).alloc (Nat.le_refl _) _⟩
  by_cases h2 : k = 2
  · subst h2
    cases no with
    | true =>
      go_enter Tryz.func16, Tryz.ntmps16
      go_wp2
      go_ret
      exact ⟨congrArg _ (v_bool (by rw [← HZ.out]; rfl)), (Below.refl _ _).alloc (Nat.le_refl _) _⟩
    | false =>
      by_cases hn : n = 0
      · subst hn
        go_enter Tryz.func16, Tryz.ntmps16
        go_wp2
        go_ret
        exact ⟨congrArg _ (v_bool (by rw [← HZ.out]; rfl)), (Below.refl _ _).alloc (Nat.le_refl _) _⟩
      · go_enter Tryz.func16, Tryz.ntmps16
        go_wp2
        go_ret
        exact ⟨congrArg _ (v_bool (by rw [← HZ.out]; simp [trB, hn])), (Below.refl _ _).alloc (Nat.le_refl _) _⟩
  by_cases h3 : k = 3
  · subst h3
    go_enter Tryz.func16, Tryz.ntmps16
    go_wp2
    go_ret
    exact ⟨congrArg _ (v_bool (by rw [← HZ.out]; exact str_empty t)), (Below.refl _ _).alloc (Nat.le_refl _) _⟩
  · have q1 : (k == 1) = false := by simpa using h1
    have q2 : (k == 2) = false := by simpa using h2
    have q3 : (k == 3) = false := by simpa using h3
    have HQ : Hid (trB k b n no (Tx t) m = decide (0 < m)) := by show _ = _; simp [trB, h1, h2, h3]
    clear h1 h2 h3
    go_enter Tryz.func16, Tryz.ntmps16
    go_wp2
    go_ret
    exact ⟨congrArg _ (v_bool (by rw [← HZ.out, HQ.out])), (Below.refl _ _).alloc (Nat.le_refl _) _⟩

set_option maxRecDepth 100000 in
theorem dsign_any (w : World) (op : ByteArray) : Calls Tryz.prog 18 #[.string op] w fun e w' => e = .returned (.bool (isOpB op)) ∧ w' = w := by
  by_cases h : IsOp op
  · have hb := isOpB_iff.2 h
    rw [hb]
    rcases h with rfl | rfl | rfl | rfl | rfl | rfl <;> (go_enter Tryz.func18, Tryz.ntmps18; go_wp2; go_ret; exact ⟨rfl, rfl⟩)
  · have hb : isOpB op = false := by
      rw [Bool.eq_false_iff]
      exact fun e => h (isOpB_iff.1 e)
    rw [hb]
    have h1 : (op.toList == [61]) = false := ba_ne (c := #[61]) (fun e => h (.inl e))
    have h2 : (op.toList == [33, 61]) = false := ba_ne (c := #[33, 61]) (fun e => h (.inr (.inl e)))
    have h3 : (op.toList == [60]) = false := ba_ne (c := #[60]) (fun e => h (.inr (.inr (.inl e))))
    have h4 : (op.toList == [60, 61]) = false := ba_ne (c := #[60, 61]) (fun e => h (.inr (.inr (.inr (.inl e)))))
    have h5 : (op.toList == [62]) = false := ba_ne (c := #[62]) (fun e => h (.inr (.inr (.inr (.inr (.inl e))))))
    have h6 : (op.toList == [62, 61]) = false := ba_ne (c := #[62, 61]) (fun e => h (.inr (.inr (.inr (.inr (.inr e))))))
    clear h hb
    go_enter Tryz.func18, Tryz.ntmps18
    go_wp2
    go_ret
    exact ⟨rfl, rfl⟩

set_option maxRecDepth 100000 in
theorem dfirst_any (w : World) {k n : Int} {b no : Bool} {t : ByteArray} {a : Option Addr} {c : Nat} {L : List ByteArray} (h : VOk w ⟨k, b, n, no, t, L⟩ a) :
    Calls Tryz.prog 42 #[.agg #[.int .i64 k, .bool b, .int .i64 n, .bool no, .string t, .slice a L.length c]] w fun e w' => e = .returned (.tuple #[.string (L.headD ⟨#[]⟩), .bool (decide (L ≠ []))]) ∧ Below w.heap.size w w' := by
  cases L with
  | nil =>
    clear h
    go_enter Tryz.func42, Tryz.ntmps42
    go_wp2
    go_ret2
    exact ⟨rfl, (Below.refl _ _).alloc (Nat.le_refl _) _⟩
  | cons z r =>
    obtain ⟨bb, o, rfl, hb, hcell⟩ := h.at_ 0 z rfl
    simp only [Nat.add_zero] at hcell
    have l0 : (0 : Int) < ((z :: r).length : Int) := by simp only [List.length_cons]; omega
    have l1 : (((z :: r).length : Int) == 0) = false := by rw [beq_eq_false_iff_ne]; omega
    have l2 : 0 < (z :: r).length := by simp
    have l3 : ((z :: r).length == 0) = false := by simp
    rw [show (z :: r).headD (⟨#[]⟩ : ByteArray) = z from rfl, show decide ((z :: r) ≠ []) = true from by simp]
    clear h
    generalize (z :: r).length = m at *
    go_enter Tryz.func42, Tryz.ntmps42
    go_wp2
    go_ret2
    exact ⟨rfl, (Below.refl _ _).alloc (Nat.le_refl _) _⟩

set_option maxRecDepth 100000 in
theorem dheld_any (w : World) (op : ByteArray) (h : IsOp op) (x y : Int) (p q : Bool) :
    Calls Tryz.prog 46 #[.string op, .agg #[.bool p, .int .i64 x], .agg #[.bool q, .int .i64 y]] w fun e w' => e = .returned (.bool (nmB op x p y q)) ∧ Below w.heap.size w w' := by
  cases p with
  | false =>
    have HZ : Hid (nmB op x false y q = decide (op = ⟨#[33, 61]⟩)) := by show _ = _; simp [nmB]
    generalize nmB op x false y q = z at *
    rcases h with rfl | rfl | rfl | rfl | rfl | rfl <;> (go_enter Tryz.func46, Tryz.ntmps46; go_wp2; go_ret; exact ⟨congrArg _ (v_bool HZ.out.symm), below2 _ _ _⟩)
  | true =>
    cases q with
    | false =>
      have HZ : Hid (nmB op x true y false = decide (op = ⟨#[33, 61]⟩)) := by show _ = _; simp [nmB]
      generalize nmB op x true y false = z at *
      rcases h with rfl | rfl | rfl | rfl | rfl | rfl <;> (go_enter Tryz.func46, Tryz.ntmps46; go_wp2; go_ret; exact ⟨congrArg _ (v_bool HZ.out.symm), below2 _ _ _⟩)
    | true =>
      have HE : Hid (nmB ⟨#[61]⟩ x true y true = (x == y)) := by show _ = _; simp only [nmB, Bool.and_self, if_true, mt, cmpI]; rw [Bool.eq_iff_iff]; simp; split <;> (try split) <;> simp <;> omega
      have HN : Hid (nmB ⟨#[33, 61]⟩ x true y true = !(x == y)) := by show _ = _; simp [nmB, mt, cmpI]; rw [Bool.eq_iff_iff]; simp; split <;> (try split) <;> simp <;> omega
      have HL : Hid (nmB ⟨#[60]⟩ x true y true = decide (x < y)) := by show _ = _; simp [nmB, mt, cmpI]; split <;> (try split) <;> simp <;> omega
      have HLE : Hid (nmB ⟨#[60, 61]⟩ x true y true = decide (x ≤ y)) := by show _ = _; simp [nmB, mt, cmpI]; split <;> (try split) <;> simp <;> omega
      have HG : Hid (nmB ⟨#[62]⟩ x true y true = decide (y < x)) := by show _ = _; simp [nmB, mt, cmpI]; split <;> (try split) <;> simp <;> omega
      have HGE : Hid (nmB ⟨#[62, 61]⟩ x true y true = decide (y ≤ x)) := by show _ = _; simp [nmB, mt, cmpI]; split <;> (try split) <;> simp <;> omega
      rcases h with rfl | rfl | rfl | rfl | rfl | rfl
      · rw [HE.out]
        go_enter Tryz.func46, Tryz.ntmps46
        go_wp2
        go_ret
        exact ⟨rfl, below2 _ _ _⟩
      · rw [HN.out]
        go_enter Tryz.func46, Tryz.ntmps46
        go_wp2
        go_ret
        exact ⟨rfl, below2 _ _ _⟩
      · rw [HL.out]
        go_enter Tryz.func46, Tryz.ntmps46
        go_wp2
        go_ret
        exact ⟨rfl, below2 _ _ _⟩
      · rw [HLE.out]
        go_enter Tryz.func46, Tryz.ntmps46
        go_wp2
        go_ret
        exact ⟨rfl, below2 _ _ _⟩
      · rw [HG.out]
        go_enter Tryz.func46, Tryz.ntmps46
        go_wp2
        go_ret
        exact ⟨rfl, below2 _ _ _⟩
      · rw [HGE.out]
        go_enter Tryz.func46, Tryz.ntmps46
        go_wp2
        go_ret
        exact ⟨rfl, below2 _ _ _⟩

end Go.Proofs.YtoabgmpcdnikeaaGreatDoor
