/- does: Put and Drop. -/
import Derived.Test.YtiggpbjgnododaaTdo
namespace Go.Proofs.Ytiggpbjgnododaa.T
open Go.RowKit Go.Shelf
set_option linter.unusedVariables false

set_option maxRecDepth 100000 in
set_option maxHeartbeats 4000000 in
theorem does_put (w : World) (B db rb : Nat) (L : List (Int × Int)) (a : Option Addr) (cap : Nat) (lent : Bool) (ed : Int) (ra : Option Addr) (rc : Nat) (stop : Int) (x : Int × Int) (h : Both w B db rb L a cap lent ed ra rc) (hr : Rise kf L) (hB : B ≤ w.heap.size) :
    Calls Try.prog 10 #[.pointer (some ⟨db, 0, none⟩), .pointer (some ⟨rb, 0, none⟩), .agg #[.int .i64 0, .int .i64 stop, .int .i64 x.1, .int .i64 x.2]] w fun e w' => e = .returned (.bool true) ∧ DoP w B db rb a L.length cap lent (.slice ra L.length rc) w' := by
  obtain ⟨W, hW⟩ : ∃ W, w.alloc (.cells #[.int .i64 0, .int .i64 stop, .int .i64 x.1, .int .i64 x.2] 36) = W := ⟨_, rfl⟩
  have hb0 : Below w.heap.size w W := by rw [← hW]; exact bel1 w _
  have hx1 : IsCells W w.heap.size #[.int .i64 0, .int .i64 stop, .int .i64 x.1, .int .i64 x.2] := by rw [← hW]; exact isCells_new w _ _
  have c0 : W.cell? ⟨w.heap.size, 0, none⟩ = some (.int .i64 0) := hx1.cell 0
  have c2 : W.cell? ⟨w.heap.size, 2, none⟩ = some (.int .i64 x.1) := hx1.cell 2
  have c3 : W.cell? ⟨w.heap.size, 3, none⟩ = some (.int .i64 x.2) := hx1.cell 3
  have hw1 := hx1.lt
  have h1 := h.below hb0
  have hdl := h.list.head.lt
  have hrl := h.ref.head.lt
  have hrank := rrank_any W B rb L ra rc x.1 h1.ref hr
  have hbd : Below W.heap.size W W.drew := (Below.refl _ _).drew
  have h2 := h1.below hbd
  obtain ⟨e1, e2, e3⟩ := putE_eq hr x
  have hp1 : Calls Try.prog 14 #[.pointer (some ⟨db, 0, none⟩), .agg #[.int .i64 x.1, .int .i64 x.2]] W.drew fun e u => e = .returned (.int .i64 (rputE L x)) ∧ u.cell? ⟨w.heap.size, 2, none⟩ = some (.int .i64 x.1) ∧ u.cell? ⟨w.heap.size, 3, none⟩ = some (.int .i64 x.2) ∧ Hid (EdP W.drew B db 9 #[] a L.length cap lent (.int .i64 (rputE L x)) (rputL L x) (.returned (.int .i64 (rputE L x))) u) := by
    refine (put_any W.drew B db 9 #[] L a cap lent ed (ltK kf) (fun _ => True) x (rk kf L x.1) h2.list (by have := hb0.size; have e : W.drew.heap.size = W.heap.size := rfl; omega) (byKey_is _) trivial (fun _ _ => trivial) (cut_of hr x)).mono ?_
    intro e u hu
    rw [e1, e2] at hu
    have he : e = .returned (.int .i64 (rputE L x)) := hu.1
    subst he
    obtain ⟨-, a', cap', lent', ed', q1, q2, q3, q4⟩ := id hu
    have hbl : u.heap[w.heap.size]? = W.heap[w.heap.size]? := q2.block w.heap.size hw1 (fun hx => by
      rcases hx with hx | ⟨_, hx⟩
      · omega
      · have := (own_block_lt h.list.row _ hx).2; omega)
    exact ⟨rfl, (hx1.of_block hbl).cell 2, (hx1.of_block hbl).cell 3, hu⟩
  have hp2 : ∀ u, Hid (EdP W.drew B db 9 #[] a L.length cap lent (.int .i64 (rputE L x)) (rputL L x) (.returned (.int .i64 (rputE L x))) u) → Calls Try.prog 16 #[.pointer (some ⟨rb, 0, none⟩), .agg #[.int .i64 x.1, .int .i64 x.2]] u fun e v => e = .returned (.int .i64 (rputE L x)) ∧ v.cell? ⟨w.heap.size, 2, none⟩ = some (.int .i64 x.1) ∧ v.cell? ⟨w.heap.size, 3, none⟩ = some (.int .i64 x.2) ∧ Hid (DoP w B db rb a L.length cap lent (.slice ra L.length rc) v) := by
    intro u hu
    obtain ⟨-, a', cap', lent', ed', q1, q2, q3, q4⟩ := id hu.out
    have hbl : u.heap[w.heap.size]? = W.heap[w.heap.size]? := q2.block w.heap.size hw1 (fun hx => by
      rcases hx with hx | ⟨_, hx⟩
      · omega
      · have := (own_block_lt h.list.row _ hx).2; omega)
    have hus : W.heap.size ≤ u.heap.size := q2.size
    have hru : RAt u B rb L ra rc := h2.ref.turned (db := db) (fun hx => by
      rcases hx with hx | ⟨_, hx⟩
      · exact h.ne hx.symm
      · exact h.rowr _ hx rfl) (fun k hk hx => by
      rcases hx with hx | ⟨_, hx⟩
      · exact h.rowd k hk hx
      · exact h.rows k hx hk) q2
    refine (rput_any u B rb L ra rc x hru hr (by have := hb0.size; omega)).mono ?_
    intro e v hv
    have he : e = .returned (.int .i64 (rputE L x)) := hv.1
    subst he
    obtain ⟨-, ra', rc', s1, s2, s3⟩ := id hv
    have hbv : v.heap[w.heap.size]? = W.heap[w.heap.size]? := (s2.block w.heap.size (by omega) (by show w.heap.size ≠ rb; omega)).trans hbl
    exact ⟨rfl, (hx1.of_block hbv).cell 2, (hx1.of_block hbv).cell 3, ((DoP.edit h2 (rise_rput hr x) hu.out hv (fun _ _ k e1 e2 hk => slice_own e1 e2 hk)).below hbd).below hb0⟩
  have HW : Hid (w.alloc (.cells #[.int .i64 0, .int .i64 stop, .int .i64 x.1, .int .i64 x.2] 36) = W) := hW
  clear h hr hW hx1 h1 hdl hrl hbd h2 e1 e2 e3
  generalize rk kf L x.1 = r at *
  generalize rputE L x = v at *
  go_enter Try.func10, Try.ntmps10
  go_wp2_with fail
  rw [HW.out]
  refine hrank.mono ?_
  rintro e W2 ⟨rfl, rfl⟩
  clear hrank HW
  go_wp2
  go_region_with
    (first
      | (refine hp1.mono ?_; rintro e u ⟨rfl, u2, u3, q1⟩; clear hp1)
      | (refine (hp2 _ q1).mono ?_; rintro e v ⟨rfl, v2, v3, q2⟩; clear hp2 q1))
  all_goals
    go_wp2
    go_ret
    exact ⟨rfl, q2.out⟩

set_option maxRecDepth 100000 in
set_option maxHeartbeats 4000000 in
theorem does_drop (w : World) (B db rb : Nat) (L : List (Int × Int)) (a : Option Addr) (cap : Nat) (lent : Bool) (ed : Int) (ra : Option Addr) (rc : Nat) (stop : Int) (x : Int × Int) (h : Both w B db rb L a cap lent ed ra rc) (hr : Rise kf L) (hB : B ≤ w.heap.size) :
    Calls Try.prog 10 #[.pointer (some ⟨db, 0, none⟩), .pointer (some ⟨rb, 0, none⟩), .agg #[.int .i64 1, .int .i64 stop, .int .i64 x.1, .int .i64 x.2]] w fun e w' => e = .returned (.bool true) ∧ DoP w B db rb a L.length cap lent (.slice ra L.length rc) w' := by
  obtain ⟨W, hW⟩ : ∃ W, w.alloc (.cells #[.int .i64 1, .int .i64 stop, .int .i64 x.1, .int .i64 x.2] 36) = W := ⟨_, rfl⟩
  have hb0 : Below w.heap.size w W := by rw [← hW]; exact bel1 w _
  have hx1 : IsCells W w.heap.size #[.int .i64 1, .int .i64 stop, .int .i64 x.1, .int .i64 x.2] := by rw [← hW]; exact isCells_new w _ _
  have c0 : W.cell? ⟨w.heap.size, 0, none⟩ = some (.int .i64 1) := hx1.cell 0
  have c2 : W.cell? ⟨w.heap.size, 2, none⟩ = some (.int .i64 x.1) := hx1.cell 2
  have c3 : W.cell? ⟨w.heap.size, 3, none⟩ = some (.int .i64 x.2) := hx1.cell 3
  have hw1 := hx1.lt
  have h1 := h.below hb0
  have hdl := h.list.head.lt
  have hrl := h.ref.head.lt
  have hrank := rrank_any W B rb L ra rc x.1 h1.ref hr
  have hbd : Below W.heap.size W W.drew := (Below.refl _ _).drew
  have h2 := h1.below hbd
  obtain ⟨e1, e2, e3⟩ := putE_eq hr x
  have hp1 : Calls Try.prog 37 #[.pointer (some ⟨db, 0, none⟩), .agg #[.int .i64 x.1, .int .i64 x.2]] W.drew fun e u => e = .returned (.bool (hasB L x.1)) ∧ u.cell? ⟨w.heap.size, 2, none⟩ = some (.int .i64 x.1) ∧ u.cell? ⟨w.heap.size, 3, none⟩ = some (.int .i64 x.2) ∧ Hid (EdP W.drew B db 9 #[] a L.length cap lent (.bool (hasB L x.1)) (rdropL L x.1) (.returned (.bool (hasB L x.1))) u) := by
    refine (drop_any W.drew B db 9 #[] L a cap lent ed (ltK kf) (fun _ => True) x (rk kf L x.1) h2.list (by have := hb0.size; have e : W.drew.heap.size = W.heap.size := rfl; omega) (byKey_is _) trivial (fun _ _ => trivial) (cut_of hr x)).mono ?_
    intro e u hu
    rw [e3, there_has hr] at hu
    have he : e = .returned (.bool (hasB L x.1)) := hu.1
    subst he
    obtain ⟨-, a', cap', lent', ed', q1, q2, q3, q4⟩ := id hu
    have hbl : u.heap[w.heap.size]? = W.heap[w.heap.size]? := q2.block w.heap.size hw1 (fun hx => by
      rcases hx with hx | ⟨_, hx⟩
      · omega
      · have := (own_block_lt h.list.row _ hx).2; omega)
    exact ⟨rfl, (hx1.of_block hbl).cell 2, (hx1.of_block hbl).cell 3, hu⟩
  have hp2 : ∀ u, Hid (EdP W.drew B db 9 #[] a L.length cap lent (.bool (hasB L x.1)) (rdropL L x.1) (.returned (.bool (hasB L x.1))) u) → Calls Try.prog 38 #[.pointer (some ⟨rb, 0, none⟩), .int .i64 x.1] u fun e v => e = .returned (.bool (hasB L x.1)) ∧ v.cell? ⟨w.heap.size, 2, none⟩ = some (.int .i64 x.1) ∧ v.cell? ⟨w.heap.size, 3, none⟩ = some (.int .i64 x.2) ∧ Hid (DoP w B db rb a L.length cap lent (.slice ra L.length rc) v) := by
    intro u hu
    obtain ⟨-, a', cap', lent', ed', q1, q2, q3, q4⟩ := id hu.out
    have hbl : u.heap[w.heap.size]? = W.heap[w.heap.size]? := q2.block w.heap.size hw1 (fun hx => by
      rcases hx with hx | ⟨_, hx⟩
      · omega
      · have := (own_block_lt h.list.row _ hx).2; omega)
    have hus : W.heap.size ≤ u.heap.size := q2.size
    have hru : RAt u B rb L ra rc := h2.ref.turned (db := db) (fun hx => by
      rcases hx with hx | ⟨_, hx⟩
      · exact h.ne hx.symm
      · exact h.rowr _ hx rfl) (fun k hk hx => by
      rcases hx with hx | ⟨_, hx⟩
      · exact h.rowd k hk hx
      · exact h.rows k hx hk) q2
    refine (rdrop_any u B rb L ra rc x.1 hru hr (by have := hb0.size; omega)).mono ?_
    intro e v hv
    have he : e = .returned (.bool (hasB L x.1)) := hv.1
    subst he
    obtain ⟨-, ra', rc', s1, s2, s3⟩ := id hv
    have hbv : v.heap[w.heap.size]? = W.heap[w.heap.size]? := (s2.block w.heap.size (by omega) (by show w.heap.size ≠ rb; omega)).trans hbl
    exact ⟨rfl, (hx1.of_block hbv).cell 2, (hx1.of_block hbv).cell 3, ((DoP.edit h2 (rise_rdrop hr x.1) hu.out hv (fun _ _ k e1 e2 hk => slice_own e1 e2 hk)).below hbd).below hb0⟩
  have HW : Hid (w.alloc (.cells #[.int .i64 1, .int .i64 stop, .int .i64 x.1, .int .i64 x.2] 36) = W) := hW
  clear h hr hW hx1 h1 hdl hrl hbd h2 e1 e2 e3
  generalize rk kf L x.1 = r at *
  generalize hasB L x.1 = v at *
  go_enter Try.func10, Try.ntmps10
  go_wp2_with fail
  rw [HW.out]
  refine hrank.mono ?_
  rintro e W2 ⟨rfl, rfl⟩
  clear hrank HW
  go_wp2
  go_region_with
    (first
      | (refine hp1.mono ?_; rintro e u ⟨rfl, u2, u3, q1⟩; clear hp1)
      | (refine (hp2 _ q1).mono ?_; rintro e v ⟨rfl, v2, v3, q2⟩; clear hp2 q1))
  all_goals
    go_wp2
    go_ret
    exact ⟨rfl, q2.out⟩

end Go.Proofs.Ytiggpbjgnododaa.T
