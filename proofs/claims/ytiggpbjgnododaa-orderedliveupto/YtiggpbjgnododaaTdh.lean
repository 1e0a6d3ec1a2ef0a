/- does: Has, Rank, At. -/
import Derived.Test.YtiggpbjgnododaaTdo
namespace Go.Proofs.Ytiggpbjgnododaa.T
open Go.RowKit Go.Shelf
set_option linter.unusedVariables false

set_option maxRecDepth 100000 in
set_option maxHeartbeats 4000000 in
theorem does_has (w : World) (B db rb : Nat) (L : List (Int × Int)) (a : Option Addr) (cap : Nat) (lent : Bool) (ed : Int) (ra : Option Addr) (rc : Nat) (stop : Int) (x : Int × Int) (h : Both w B db rb L a cap lent ed ra rc) (hr : Rise kf L) (hB : B ≤ w.heap.size) :
    Calls Try.prog 10 #[.pointer (some ⟨db, 0, none⟩), .pointer (some ⟨rb, 0, none⟩), .agg #[.int .i64 2, .int .i64 stop, .int .i64 x.1, .int .i64 x.2]] w fun e w' => e = .returned (.bool true) ∧ DoP w B db rb a L.length cap lent (.slice ra L.length rc) w' := by
  obtain ⟨W, hW⟩ : ∃ W, w.alloc (.cells #[.int .i64 2, .int .i64 stop, .int .i64 x.1, .int .i64 x.2] 36) = W := ⟨_, rfl⟩
  have hb0 : Below w.heap.size w W := by rw [← hW]; exact bel1 w _
  have hx1 : IsCells W w.heap.size #[.int .i64 2, .int .i64 stop, .int .i64 x.1, .int .i64 x.2] := by rw [← hW]; exact isCells_new w _ _
  have c0 : W.cell? ⟨w.heap.size, 0, none⟩ = some (.int .i64 2) := hx1.cell 0
  have c2 : W.cell? ⟨w.heap.size, 2, none⟩ = some (.int .i64 x.1) := hx1.cell 2
  have c3 : W.cell? ⟨w.heap.size, 3, none⟩ = some (.int .i64 x.2) := hx1.cell 3
  have hw1 := hx1.lt
  have h1 := h.below hb0
  have hrank := rrank_any W B rb L ra rc x.1 h1.ref hr
  have hth := there_has hr x
  have h39 : Calls Try.prog 39 #[.pointer (some ⟨db, 0, none⟩), .agg #[.int .i64 x.1, .int .i64 x.2]] W.drew fun e u => e = .returned (.bool (hasB L x.1)) ∧ u.cell? ⟨w.heap.size, 2, none⟩ = some (.int .i64 x.1) ∧ u.cell? ⟨w.heap.size, 3, none⟩ = some (.int .i64 x.2) ∧ Hid (Below W.heap.size W u) := by
    refine (has_any W.drew B db 9 #[] L a cap lent ed (ltK kf) (fun _ => True) x (rk kf L x.1) (h1.list.below (Below.refl _ _).drew) (byKey_is _) trivial (fun _ _ => trivial) (cut_of hr x)).mono ?_
    rintro e u ⟨he, hu⟩
    rw [hth] at he
    have hbu : Below W.heap.size W u := (Below.refl _ W).drew.trans hu
    exact ⟨he, (hbu.cell (p := ⟨w.heap.size, 2, none⟩) hw1).trans c2, (hbu.cell (p := ⟨w.heap.size, 3, none⟩) hw1).trans c3, hbu⟩
  have h40 : ∀ u, Hid (Below W.heap.size W u) → Calls Try.prog 40 #[.pointer (some ⟨rb, 0, none⟩), .int .i64 x.1] u fun e v => e = .returned (.bool (hasB L x.1)) ∧ v = u := fun u hu => rhas_any u B rb L ra rc x.1 (h1.below hu.out).ref hr
  have h41 : ∀ u, Hid (Below W.heap.size W u) → Calls Try.prog 41 #[.pointer (some ⟨db, 0, none⟩), .agg #[.int .i64 x.1, .int .i64 x.2]] u fun e v => e = .returned (.int .i64 (rk kf L x.1 : Int)) ∧ Hid (Below W.heap.size W v) := by
    intro u hu
    refine (rank_any u B db 9 #[] L a cap lent ed (ltK kf) (fun _ => True) x (rk kf L x.1) (h1.below hu.out).list (byKey_is _) trivial (fun _ _ => trivial) (cut_of hr x)).mono ?_
    rintro e v ⟨he, hv⟩
    exact ⟨he, hu.out.trans (hv.mono hu.out.size)⟩
  have HW : Hid (w.alloc (.cells #[.int .i64 2, .int .i64 stop, .int .i64 x.1, .int .i64 x.2] 36) = W) := hW
  have HF : Hid (∀ v, Below W.heap.size W v → DoP w B db rb a L.length cap lent (.slice ra L.length rc) v) := fun v hv => DoP.same h hr (hb0.trans (hv.mono hb0.size))
  clear h hr hW hx1 h1 hth
  generalize rk kf L x.1 = r at *
  generalize hasB L x.1 = v at *
  go_enter Try.func10, Try.ntmps10
  go_wp2_with fail
  rw [HW.out]
  refine hrank.mono ?_
  rintro e W2 ⟨rfl, rfl⟩
  clear hrank HW
  go_wp2
  go_region_with
    (first
      | (go_at_call 39; refine h39.mono ?_; rintro e u ⟨rfl, u2, u3, q1⟩; clear h39)
      | (go_at_call 40; refine (h40 _ q1).mono ?_; rintro e u' ⟨rfl, rfl⟩; clear h40)
      | (go_at_call 41; refine (h41 _ q1).mono ?_; rintro e u'' ⟨rfl, q2⟩; clear h41))
  all_goals
    go_wp2
    go_ret
    exact ⟨rfl, HF.out _ q2.out⟩

set_option maxRecDepth 100000 in
set_option maxHeartbeats 4000000 in
theorem does_at_none (w : World) (B db rb : Nat) (L : List (Int × Int)) (a : Option Addr) (cap : Nat) (lent : Bool) (ed : Int) (ra : Option Addr) (rc : Nat) (stop : Int) (x : Int × Int) (h : Both w B db rb L a cap lent ed ra rc) (hr : Rise kf L) (hB : B ≤ w.heap.size) (hn : x.1 < 0 ∨ (L.length : Int) ≤ x.1) :
    Calls Try.prog 10 #[.pointer (some ⟨db, 0, none⟩), .pointer (some ⟨rb, 0, none⟩), .agg #[.int .i64 3, .int .i64 stop, .int .i64 x.1, .int .i64 x.2]] w fun e w' => e = .returned (.bool true) ∧ DoP w B db rb a L.length cap lent (.slice ra L.length rc) w' := by
  obtain ⟨W, hW⟩ : ∃ W, w.alloc (.cells #[.int .i64 3, .int .i64 stop, .int .i64 x.1, .int .i64 x.2] 36) = W := ⟨_, rfl⟩
  have hb0 : Below w.heap.size w W := by rw [← hW]; exact bel1 w _
  have hx1 : IsCells W w.heap.size #[.int .i64 3, .int .i64 stop, .int .i64 x.1, .int .i64 x.2] := by rw [← hW]; exact isCells_new w _ _
  have c0 : W.cell? ⟨w.heap.size, 0, none⟩ = some (.int .i64 3) := hx1.cell 0
  have c2 : W.cell? ⟨w.heap.size, 2, none⟩ = some (.int .i64 x.1) := hx1.cell 2
  have hw1 := hx1.lt
  have h1 := h.below hb0
  have hrl := h1.ref.head.lt
  have hrank := rrank_any W B rb L ra rc x.1 h1.ref hr
  have hl8 : (L.length : Int) ≤ 8192 := by have := h.list.len; omega
  have hat : Calls Try.prog 42 #[.pointer (some ⟨db, 0, none⟩), .int .i64 x.1] W fun e u => e = .returned (.tuple #[.agg #[.int .i64 0, .int .i64 0], .bool false]) ∧ u.cell? ⟨w.heap.size, 2, none⟩ = some (.int .i64 x.1) ∧ u.cell? ⟨rb, 0, none⟩ = some (.slice ra L.length rc) ∧ w.heap.size < u.heap.size ∧ rb < u.heap.size ∧ Hid (Below W.heap.size W u) := by
    refine (at_none W B db 9 #[] L a cap lent ed x.1 h1.list hn).mono ?_
    rintro e u ⟨he, hu⟩
    exact ⟨he, (hu.cell (p := ⟨w.heap.size, 2, none⟩) hw1).trans c2, (hu.cell (p := ⟨rb, 0, none⟩) hrl).trans (h1.ref.head.cell 0), Nat.lt_of_lt_of_le hw1 hu.size, Nat.lt_of_lt_of_le hrl hu.size, hu⟩
  have HW : Hid (w.alloc (.cells #[.int .i64 3, .int .i64 stop, .int .i64 x.1, .int .i64 x.2] 36) = W) := hW
  have HF : Hid (∀ v, Below W.heap.size W v → DoP w B db rb a L.length cap lent (.slice ra L.length rc) v) := fun v hv => DoP.same h hr (hb0.trans (hv.mono hb0.size))
  clear h hr hW hx1 h1
  generalize rk kf L x.1 = r at *
  generalize L.length = n at *
  rcases hn with hn | hn
  · have d1 : decide ((0 : Int) ≤ x.1) = false := by simp; omega
    go_enter Try.func10, Try.ntmps10
    go_wp2_with fail
    rw [HW.out]
    refine hrank.mono ?_
    rintro e W2 ⟨rfl, rfl⟩
    clear hrank HW
    go_wp2_with fail
    refine hat.mono ?_
    rintro e u ⟨rfl, u1, u2, u3, u4, q⟩
    clear hat
    have n1 : ¬ (w.heap.size = u.heap.size) := by omega
    have n2 : ¬ (rb = u.heap.size) := by omega
    go_wp2
    go_quiet (fail)
    go_wp2
    go_quiet (fail)
    go_wp2
    go_ret
    exact ⟨rfl, HF.out _ (bel_drewN' (bel_drewN' (q.out.alloc q.out.size _) _) _)⟩
  · have d1 : decide ((0 : Int) ≤ x.1) = true := by simp; omega
    have d2 : decide (x.1 < (n : Int)) = false := by simp; omega
    go_enter Try.func10, Try.ntmps10
    go_wp2_with fail
    rw [HW.out]
    refine hrank.mono ?_
    rintro e W2 ⟨rfl, rfl⟩
    clear hrank HW
    go_wp2_with fail
    refine hat.mono ?_
    rintro e u ⟨rfl, u1, u2, u3, u4, q⟩
    clear hat
    have n1 : ¬ (w.heap.size = u.heap.size) := by omega
    have n2 : ¬ (rb = u.heap.size) := by omega
    go_wp2
    go_quiet (fail)
    go_wp2
    go_quiet (fail)
    go_wp2
    go_ret
    exact ⟨rfl, HF.out _ (bel_drewN' (bel_drewN' (q.out.alloc q.out.size _) _) _)⟩

set_option maxRecDepth 100000 in
set_option maxHeartbeats 4000000 in
theorem does_at_some (w : World) (B db rb : Nat) (L : List (Int × Int)) (a : Option Addr) (cap : Nat) (lent : Bool) (ed : Int) (ra : Option Addr) (rc : Nat) (stop : Int) (i : Nat) (m : Int) (h : Both w B db rb L a cap lent ed ra rc) (hr : Rise kf L) (hB : B ≤ w.heap.size) (hi : i < L.length) :
    Calls Try.prog 10 #[.pointer (some ⟨db, 0, none⟩), .pointer (some ⟨rb, 0, none⟩), .agg #[.int .i64 3, .int .i64 stop, .int .i64 (i : Int), .int .i64 m]] w fun e w' => e = .returned (.bool true) ∧ DoP w B db rb a L.length cap lent (.slice ra L.length rc) w' := by
  obtain ⟨W, hW⟩ : ∃ W, w.alloc (.cells #[.int .i64 3, .int .i64 stop, .int .i64 (i : Int), .int .i64 m] 36) = W := ⟨_, rfl⟩
  have hb0 : Below w.heap.size w W := by rw [← hW]; exact bel1 w _
  have hx1 : IsCells W w.heap.size #[.int .i64 3, .int .i64 stop, .int .i64 (i : Int), .int .i64 m] := by rw [← hW]; exact isCells_new w _ _
  have c0 : W.cell? ⟨w.heap.size, 0, none⟩ = some (.int .i64 3) := hx1.cell 0
  have c2 : W.cell? ⟨w.heap.size, 2, none⟩ = some (.int .i64 (i : Int)) := hx1.cell 2
  have hw1 := hx1.lt
  have h1 := h.below hb0
  have hrl := h1.ref.head.lt
  have hrank := rrank_any W B rb L ra rc (i : Int) h1.ref hr
  have hl8 : (L.length : Int) ≤ 8192 := by have := h.list.len; omega
  obtain ⟨y, hy⟩ : ∃ y, L[i]? = some y := ⟨_, List.getElem?_eq_getElem hi⟩
  obtain ⟨g, rfl, hg1, hg2, hg3⟩ := items_of rfl h1.ref.row i y hy
  have hat : Calls Try.prog 42 #[.pointer (some ⟨db, 0, none⟩), .int .i64 (i : Int)] W fun e u => e = .returned (.tuple #[.agg #[.int .i64 y.1, .int .i64 y.2], .bool true]) ∧ u.cell? ⟨w.heap.size, 2, none⟩ = some (.int .i64 (i : Int)) ∧ u.cell? ⟨rb, 0, none⟩ = some (.slice (some ⟨g, 0, none⟩) L.length rc) ∧ u.cell? ⟨g, i * 2, none⟩ = some (.int .i64 y.1) ∧ u.cell? ⟨g, i * 2 + 1, none⟩ = some (.int .i64 y.2) ∧ w.heap.size < u.heap.size ∧ rb < u.heap.size ∧ g < u.heap.size ∧ Hid (Below W.heap.size W u) := by
    refine (at_some W B db 9 #[] L a cap lent ed i y h1.list hy).mono ?_
    rintro e u ⟨he, hu⟩
    exact ⟨he, (hu.cell (p := ⟨w.heap.size, 2, none⟩) hw1).trans c2, (hu.cell (p := ⟨rb, 0, none⟩) hrl).trans (h1.ref.head.cell 0), (hu.cell (p := ⟨g, i * 2, none⟩) hg1).trans hg2, (hu.cell (p := ⟨g, i * 2 + 1, none⟩) hg1).trans hg3, Nat.lt_of_lt_of_le hw1 hu.size, Nat.lt_of_lt_of_le hrl hu.size, Nat.lt_of_lt_of_le hg1 hu.size, hu⟩
  have HW : Hid (w.alloc (.cells #[.int .i64 3, .int .i64 stop, .int .i64 (i : Int), .int .i64 m] 36) = W) := hW
  have HF : Hid (∀ v, Below W.heap.size W v → DoP w B db rb a L.length cap lent (.slice (some ⟨g, 0, none⟩) L.length rc) v) := fun v hv => DoP.same h hr (hb0.trans (hv.mono hb0.size))
  clear h hr hW hx1 h1 hy
  generalize rk kf L (i : Int) = r at *
  generalize L.length = n at *
  have hi1 : (i : Int) < (n : Int) := by omega
  have hi2 : (0 : Int) ≤ (i : Int) := by omega
  have d1 : decide ((0 : Int) ≤ (i : Int)) = true := by simp
  have d2 : decide ((i : Int) < (n : Int)) = true := by simp; omega
  have d3 : decide (i < n) = true := by simp; omega
  go_enter Try.func10, Try.ntmps10
  go_wp2_with fail
  rw [HW.out]
  refine hrank.mono ?_
  rintro e W2 ⟨rfl, rfl⟩
  clear hrank HW
  go_wp2_with fail
  refine hat.mono ?_
  rintro e u ⟨rfl, u1, u2, u3, u4, u5, u6, u7, q⟩
  clear hat
  have n1 : ¬ (w.heap.size = u.heap.size) := by omega
  have n2 : ¬ (rb = u.heap.size) := by omega
  have n3 : ¬ (g = u.heap.size) := by omega
  go_wp2
  go_quiet (fail)
  go_wp2
  go_quiet (fail)
  go_wp2
  go_ret
  exact ⟨rfl, HF.out _ (bel_drewN' (bel_drewN' (q.out.alloc q.out.size _) _) _)⟩

end Go.Proofs.Ytiggpbjgnododaa.T
