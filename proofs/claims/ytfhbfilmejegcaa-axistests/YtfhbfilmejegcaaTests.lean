/- AxisTests: every test of any two spans is the document's. -/
import Derived.Test.YtfhbfilmejegcaaRrel
namespace Go.Proofs.Ytfhbfilmejegcaa
open Go.RowKit
set_option linter.unusedVariables false

theorem wp_region_belOf {P : Program} {id : Nat} {Q : Exit → Act → World → Prop} {a : Act} {W : World} (u0 : Bel W) {l : List Oper} (hm : P.follows .mixedOrders = true) (hB : Region.lexB .any l.toArray = true)
    (h : Nonempty (Bel W) → wpQuiet P l.toArray (fun w' => ∃ u : Bel W, w' = u.w) (fun a' => ∀ w', (∃ u : Bel W, w' = u.w) → Q .normal a' w') l a) : (Code.region id l.toArray true).wp P Q a u0.w :=
  wp_region_quiet (C := fun w' => ∃ u : Bel W, w' = u.w) hm hB ⟨⟨u0.w.drew, u0.h.drew⟩, rfl⟩ (by simpa using h ⟨u0⟩)
theorem Bel.ofW (W : World) : ∃ u : Bel W, u.w = W := ⟨⟨W, Below.refl _ _⟩, rfl⟩

theorem rel_one : rel ⟨1, 4, 0⟩ ⟨2, 3, 1⟩ = (2, 0) := by decide

set_option maxRecDepth 100000 in
set_option maxHeartbeats 4000000 in
theorem tests_walk (w : World) (a b p : Sp) (ha : Lvl a) (hb : Lvl b) (hp : Lvl p) : Calls Try.prog 3 #[.agg (sv a), .agg (sv b), .agg (sv p)] w fun e w' => e = .returned (.bool true) ∧ Below w.heap.size w w' := by
  have c1 := fun W => self_any W a b
  have d1 := fun W => rself_any W a b
  have c2 := fun W => anc_any W a b
  have d2 := fun W => rarnd_any W a b
  have c3 := fun W => desc_any W a b
  have d3 := fun W => rarnd_any W b a
  have c4 := fun W => par_any W a b ha hb
  have d4 := fun W => rpar_any W a b ha hb
  have c5 := fun W => child_any W a b ha hb
  have d5 := fun W => rpar_any W b a hb ha
  have c6 := fun W => fol_any W a b
  have d6 := fun W => rfol_any W a b
  have c7 := fun W => prec_any W a b
  have d7 := fun W => rfol_any W b a
  have c8 := fun W (i : Bool) => rsib_any W a b p i ha hb hp
  have c9 := fun W (i : Bool) => fsib_any W a b p i ha hb hp
  have c10 := fun W (i : Bool) => psib_any W a b p i ha hb hp
  have c11 := fun W => rel_any W a b ha hb
  have d11 := fun W => rrel_any W a b ha hb
  have c12 := fun W => rel_any W ⟨1, 4, 0⟩ ⟨2, 3, 1⟩ ⟨by decide, by decide⟩ ⟨by decide, by decide⟩
  rw [rel_one] at c12
  have n1 : (slf a b != slf a b) = false := by simp
  have n2 : (anc a b != anc a b) = false := by simp
  have n3 : (anc b a != anc b a) = false := by simp
  have n4 : (par a b != par a b) = false := by simp
  have n5 : (par b a != par b a) = false := by simp
  have n6 : (fol a b != fol a b) = false := by simp
  have n7 : (fol b a != fol b a) = false := by simp
  have n8 : ((rel a b).1 == (rel a b).1) = true := by simp
  have n9 : ((rel a b).2 == (rel a b).2) = true := by simp
  generalize (rel a b).1 = y1 at *
  generalize (rel a b).2 = y2 at *
  generalize slf a b = z1 at *
  generalize anc a b = z2 at *
  generalize anc b a = z3 at *
  generalize par a b = z4 at *
  generalize par b a = z5 at *
  generalize fol a b = z6 at *
  generalize fol b a = z7 at *
  generalize sib a b p = S at *
  clear ha hb hp
  obtain ⟨a1, a2, a3⟩ := a
  obtain ⟨b1, b2, b3⟩ := b
  obtain ⟨p1, p2, p3⟩ := p
  unfold sv at *
  simp only at *
  have HW : Hid (Below w.heap.size w (((w.alloc (.cells #[.int .u64 a1, .int .u64 a2, .int .i64 a3] 24)).alloc (.cells #[.int .u64 b1, .int .u64 b2, .int .i64 b3] 24)).alloc (.cells #[.int .u64 p1, .int .u64 p2, .int .i64 p3] 24))) := below3 _ _ _ _
  have hq0 : ∀ u : Bel (((w.alloc (.cells #[.int .u64 a1, .int .u64 a2, .int .i64 a3] 24)).alloc (.cells #[.int .u64 b1, .int .u64 b2, .int .i64 b3] 24)).alloc (.cells #[.int .u64 p1, .int .u64 p2, .int .i64 p3] 24)), u.w.cell? ⟨w.heap.size, 0, none⟩ = some (.int .u64 a1) := fun u => by rw [u.cell _ _ (by simp; omega)]; simp [go_sem]
  have hq1 : ∀ u : Bel (((w.alloc (.cells #[.int .u64 a1, .int .u64 a2, .int .i64 a3] 24)).alloc (.cells #[.int .u64 b1, .int .u64 b2, .int .i64 b3] 24)).alloc (.cells #[.int .u64 p1, .int .u64 p2, .int .i64 p3] 24)), u.w.cell? ⟨w.heap.size, 1, none⟩ = some (.int .u64 a2) := fun u => by rw [u.cell _ _ (by simp; omega)]; simp [go_sem]
  have hq2 : ∀ u : Bel (((w.alloc (.cells #[.int .u64 a1, .int .u64 a2, .int .i64 a3] 24)).alloc (.cells #[.int .u64 b1, .int .u64 b2, .int .i64 b3] 24)).alloc (.cells #[.int .u64 p1, .int .u64 p2, .int .i64 p3] 24)), u.w.cell? ⟨w.heap.size, 2, none⟩ = some (.int .i64 a3) := fun u => by rw [u.cell _ _ (by simp; omega)]; simp [go_sem]
  have hq3 : ∀ u : Bel (((w.alloc (.cells #[.int .u64 a1, .int .u64 a2, .int .i64 a3] 24)).alloc (.cells #[.int .u64 b1, .int .u64 b2, .int .i64 b3] 24)).alloc (.cells #[.int .u64 p1, .int .u64 p2, .int .i64 p3] 24)), u.w.cell? ⟨w.heap.size + 1, 0, none⟩ = some (.int .u64 b1) := fun u => by rw [u.cell _ _ (by simp)]; simp [go_sem]
  have hq4 : ∀ u : Bel (((w.alloc (.cells #[.int .u64 a1, .int .u64 a2, .int .i64 a3] 24)).alloc (.cells #[.int .u64 b1, .int .u64 b2, .int .i64 b3] 24)).alloc (.cells #[.int .u64 p1, .int .u64 p2, .int .i64 p3] 24)), u.w.cell? ⟨w.heap.size + 1, 1, none⟩ = some (.int .u64 b2) := fun u => by rw [u.cell _ _ (by simp)]; simp [go_sem]
  have hq5 : ∀ u : Bel (((w.alloc (.cells #[.int .u64 a1, .int .u64 a2, .int .i64 a3] 24)).alloc (.cells #[.int .u64 b1, .int .u64 b2, .int .i64 b3] 24)).alloc (.cells #[.int .u64 p1, .int .u64 p2, .int .i64 p3] 24)), u.w.cell? ⟨w.heap.size + 1, 2, none⟩ = some (.int .i64 b3) := fun u => by rw [u.cell _ _ (by simp)]; simp [go_sem]
  have hq6 : ∀ u : Bel (((w.alloc (.cells #[.int .u64 a1, .int .u64 a2, .int .i64 a3] 24)).alloc (.cells #[.int .u64 b1, .int .u64 b2, .int .i64 b3] 24)).alloc (.cells #[.int .u64 p1, .int .u64 p2, .int .i64 p3] 24)), u.w.cell? ⟨w.heap.size + 1 + 1, 0, none⟩ = some (.int .u64 p1) := fun u => by rw [u.cell _ _ (by simp)]; simp [go_sem]
  have hq7 : ∀ u : Bel (((w.alloc (.cells #[.int .u64 a1, .int .u64 a2, .int .i64 a3] 24)).alloc (.cells #[.int .u64 b1, .int .u64 b2, .int .i64 b3] 24)).alloc (.cells #[.int .u64 p1, .int .u64 p2, .int .i64 p3] 24)), u.w.cell? ⟨w.heap.size + 1 + 1, 1, none⟩ = some (.int .u64 p2) := fun u => by rw [u.cell _ _ (by simp)]; simp [go_sem]
  have hq8 : ∀ u : Bel (((w.alloc (.cells #[.int .u64 a1, .int .u64 a2, .int .i64 a3] 24)).alloc (.cells #[.int .u64 b1, .int .u64 b2, .int .i64 b3] 24)).alloc (.cells #[.int .u64 p1, .int .u64 p2, .int .i64 p3] 24)), u.w.cell? ⟨w.heap.size + 1 + 1, 2, none⟩ = some (.int .i64 p3) := fun u => by rw [u.cell _ _ (by simp)]; simp [go_sem]
  go_enter Try.func3, Try.ntmps3
  go_wp2_with fail
  obtain ⟨v0, hv0⟩ := Bel.ofW (((w.alloc (.cells #[.int .u64 a1, .int .u64 a2, .int .i64 a3] 24)).alloc (.cells #[.int .u64 b1, .int .u64 b2, .int .i64 b3] 24)).alloc (.cells #[.int .u64 p1, .int .u64 p2, .int .i64 p3] 24))
  rw [← hv0]
  clear hv0
  generalize ((w.alloc (.cells #[.int .u64 a1, .int .u64 a2, .int .i64 a3] 24)).alloc (.cells #[.int .u64 b1, .int .u64 b2, .int .i64 b3] 24)).alloc (.cells #[.int .u64 p1, .int .u64 p2, .int .i64 p3] 24) = W0 at *
  refine wp_region_belOf v0 (by kernel_rfl) (by kernel_rfl) ?_
  intro hne
  repeat go_big_quiet_step (first
    | (go_at_call 7; with_reducible exact Calls.bel_of (c1 _))
    | (go_at_call 8; with_reducible exact Calls.bel_of (d1 _))
    | (go_at_call 9; with_reducible exact Calls.bel_of (c2 _))
    | (go_at_call 10; with_reducible exact Calls.bel_of (d2 _))
    | (go_at_call 11; with_reducible exact Calls.bel_of (c3 _))
    | (go_at_call 10; with_reducible exact Calls.bel_of (d3 _))
    | (go_at_call 12; with_reducible exact Calls.bel_of (c4 _))
    | (go_at_call 13; with_reducible exact Calls.bel_of (d4 _))
    | (go_at_call 14; with_reducible exact Calls.bel_of (c5 _))
    | (go_at_call 13; with_reducible exact Calls.bel_of (d5 _)))
  refine wpQuiet_nil ?_
  rintro _ ⟨v1, rfl⟩
  go_wp2_with fail
  refine wp_region_belOf v1 (by kernel_rfl) (by kernel_rfl) ?_
  intro hne
  repeat go_big_quiet_step (first
    | (go_at_call 15; with_reducible exact Calls.bel_of (c6 _))
    | (go_at_call 16; with_reducible exact Calls.bel_of (d6 _))
    | (go_at_call 17; with_reducible exact Calls.bel_of (c7 _))
    | (go_at_call 16; with_reducible exact Calls.bel_of (d7 _)))
  refine wpQuiet_nil ?_
  rintro _ ⟨v2, rfl⟩
  go_wp2
  clear c1 d1 c2 d2 c3 d3 c4 d4 c5 d5 n1 n2 n3 n4 n5 n6 n7 hne
  go_loopw [7] (fun v wr => ∃ (i : Nat) (u : Bel W0), i ≤ 2 ∧ v = .int .i64 (i : Int) ∧ wr = u.w) (fun v _ => 2 - (intOf v).toNat)
  case atStart => exact ⟨0, v2, by omega, rfl, rfl⟩
  case round =>
    obtain ⟨i, u0, hi, rfl, rfl⟩ := hrel
    by_cases hlt : i < 2
    · have e8 := fun W => c8 W ((i : Int) == 1)
      have e9 := fun W => c9 W ((i : Int) == 1)
      have e10 := fun W => c10 W ((i : Int) == 1)
      generalize S ((i : Int) == 1) = s at *
      clear c8 c9 c10
      cases s
      · simp only [Bool.and_false] at e9 e10
        go_wp2_with (first | (go_at_call 18; with_reducible refine (Calls.bel_of (e8 _)).mono ?_; rintro e _ ⟨rfl, u1, rfl⟩) | (go_at_call 19; with_reducible refine (Calls.bel_of (e9 _)).mono ?_; rintro e _ ⟨rfl, u2, rfl⟩) | (go_at_call 20; with_reducible refine (Calls.bel_of (e10 _)).mono ?_; rintro e _ ⟨rfl, u3, rfl⟩))
        go_roundw
        case rel => exact ⟨i + 1, u3, by omega, by go_num, rfl⟩
        case measure => simp [intOf]; omega
      · simp only [Bool.and_true] at e9 e10
        have n6 : (z6 != z6) = false := by simp
        have n7 : (z7 != z7) = false := by simp
        go_wp2_with (first | (go_at_call 18; with_reducible refine (Calls.bel_of (e8 _)).mono ?_; rintro e _ ⟨rfl, u1, rfl⟩) | (go_at_call 19; with_reducible refine (Calls.bel_of (e9 _)).mono ?_; rintro e _ ⟨rfl, u2, rfl⟩) | (go_at_call 20; with_reducible refine (Calls.bel_of (e10 _)).mono ?_; rintro e _ ⟨rfl, u3, rfl⟩) | (go_at_call 16; with_reducible refine (Calls.bel_of (d6 _)).mono ?_; rintro e _ ⟨rfl, u4, rfl⟩) | (go_at_call 16; with_reducible refine (Calls.bel_of (d7 _)).mono ?_; rintro e _ ⟨rfl, u5, rfl⟩))
        go_roundw
        case rel => exact ⟨i + 1, u5, by omega, by go_num, rfl⟩
        case measure => simp [intOf]; omega
    · clear c8 c9 c10 c6 d6 c7 d7
      go_wp2_with (first | (go_at_call 21; with_reducible refine (Calls.bel_of (c11 _)).mono ?_; rintro e _ ⟨rfl, u1, rfl⟩) | (go_at_call 22; with_reducible refine (Calls.bel_of (d11 _)).mono ?_; rintro e _ ⟨rfl, u2, rfl⟩) | (go_at_call 21; with_reducible refine (Calls.bel_of (c12 _)).mono ?_; rintro e _ ⟨rfl, u3, rfl⟩))
      go_ret
      exact ⟨rfl, rel_end HW.out u3⟩

end Go.Proofs.Ytfhbfilmejegcaa
