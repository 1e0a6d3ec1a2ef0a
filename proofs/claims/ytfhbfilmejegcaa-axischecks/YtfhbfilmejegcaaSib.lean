/- Siblings and relations: the program's answers and the document's. -/
import Derived.Test.YtfhbfilmejegcaaSp
namespace Go.Proofs.Ytfhbfilmejegcaa
open Go.RowKit
set_option linter.unusedVariables false

set_option maxRecDepth 100000 in
set_option maxHeartbeats 1000000 in
theorem sib_any (w : World) (a b p : Sp) (r : Bool) (ha : Lvl a) (hb : Lvl b) (hp : Lvl p) : Calls Try.prog 32 #[.agg (sv a), .agg (sv b), .agg (sv p), .bool r] w fun e w' => e = .returned (.bool (sib a b p r)) ∧ Below w.heap.size w w' := by
  have hc1 := fun W => par_any W p b hp hb
  have hc2 := fun W => par_any W p a hp ha
  cases r
  · have HS : Hid (sib a b p false = (par p b && par p a)) := by show _ = _; simp [sib]
    generalize par p b = y at *
    generalize par p a = z at *
    generalize sib a b p false = x at *
    obtain ⟨a1, a2, a3⟩ := a
    obtain ⟨b1, b2, b3⟩ := b
    obtain ⟨p1, p2, p3⟩ := p
    unfold sv at *
    simp only at *
    cases y
    · go_enter Try.func32, Try.ntmps32
      go_wp2_with fail
      refine (hc1 _).mono ?_
      rintro e w1 ⟨rfl, hb1⟩
      go_wp2
      go_ret
      exact ⟨ret_bool (by rw [HS.out]; simp), (below3 _ _ _ _).trans (hb1.mono (by simp; omega))⟩
    · go_enter Try.func32, Try.ntmps32
      go_wp2_with fail
      refine (hc1 _).mono ?_
      rintro e w1 ⟨rfl, hb1⟩
      obtain ⟨hq, hf⟩ := bcell hb1
      have hz := hb1.size
      simp at hz
      go_wp2_with fail
      refine (hc2 _).mono ?_
      rintro e w2 ⟨rfl, hb2⟩
      go_wp2
      go_ret
      exact ⟨ret_bool (by rw [HS.out]; simp), ((below3 _ _ _ _).trans (hb1.mono (by simp; omega))).trans (hb2.mono (by omega))⟩
  · clear hc1 hc2
    obtain ⟨a1, a2, a3⟩ := a
    obtain ⟨b1, b2, b3⟩ := b
    obtain ⟨p1, p2, p3⟩ := p
    unfold sv
    simp only
    by_cases hx : a3 = 0
    · go_enter Try.func32, Try.ntmps32
      go_wp2
      go_ret
      exact ⟨ret_bool (by rw [Bool.eq_iff_iff]; simp [sib, hx]), below3 _ _ _ _⟩
    · have hxb : (a3 == 0) = false := beq_eq_false_iff_ne.2 hx
      clear hx
      go_enter Try.func32, Try.ntmps32
      go_wp2
      go_ret
      exact ⟨ret_bool (by rw [Bool.eq_iff_iff]; simp [sib]; intro h; rw [h] at hxb; cases hxb), below3 _ _ _ _⟩

set_option maxRecDepth 100000 in
set_option maxHeartbeats 1000000 in
theorem rsib_any (w : World) (a b p : Sp) (r : Bool) (ha : Lvl a) (hb : Lvl b) (hp : Lvl p) : Calls Try.prog 18 #[.agg (sv a), .agg (sv b), .agg (sv p), .bool r] w fun e w' => e = .returned (.bool (sib a b p r)) ∧ Below w.heap.size w w' := by
  have hc1 := fun W => rpar_any W p b hp hb
  have hc2 := fun W => rpar_any W p a hp ha
  cases r
  · have HS : Hid (sib a b p false = (par p b && par p a)) := by show _ = _; simp [sib]
    generalize par p b = y at *
    generalize par p a = z at *
    generalize sib a b p false = x at *
    obtain ⟨a1, a2, a3⟩ := a
    obtain ⟨b1, b2, b3⟩ := b
    obtain ⟨p1, p2, p3⟩ := p
    unfold sv at *
    simp only at *
    cases y
    · go_enter Try.func18, Try.ntmps18
      go_wp2_with fail
      refine (hc1 _).mono ?_
      rintro e w1 ⟨rfl, hb1⟩
      go_wp2
      go_ret
      exact ⟨ret_bool (by rw [HS.out]; simp), (below3 _ _ _ _).trans (hb1.mono (by simp; omega))⟩
    · go_enter Try.func18, Try.ntmps18
      go_wp2_with fail
      refine (hc1 _).mono ?_
      rintro e w1 ⟨rfl, hb1⟩
      obtain ⟨hq, hf⟩ := bcell hb1
      have hz := hb1.size
      simp at hz
      go_wp2_with fail
      refine (hc2 _).mono ?_
      rintro e w2 ⟨rfl, hb2⟩
      go_wp2
      go_ret
      exact ⟨ret_bool (by rw [HS.out]; simp), ((below3 _ _ _ _).trans (hb1.mono (by simp; omega))).trans (hb2.mono (by omega))⟩
  · clear hc1 hc2
    obtain ⟨a1, a2, a3⟩ := a
    obtain ⟨b1, b2, b3⟩ := b
    obtain ⟨p1, p2, p3⟩ := p
    unfold sv
    simp only
    by_cases hx : a3 = 0
    · go_enter Try.func18, Try.ntmps18
      go_wp2
      go_ret
      exact ⟨ret_bool (by rw [Bool.eq_iff_iff]; simp [sib, hx]), below3 _ _ _ _⟩
    · have hxb : (a3 == 0) = false := beq_eq_false_iff_ne.2 hx
      clear hx
      go_enter Try.func18, Try.ntmps18
      go_wp2
      go_ret
      exact ⟨ret_bool (by rw [Bool.eq_iff_iff]; simp [sib]; intro h; rw [h] at hxb; cases hxb), below3 _ _ _ _⟩

set_option maxRecDepth 100000 in
set_option maxHeartbeats 1000000 in
theorem fsib_any (w : World) (a b p : Sp) (r : Bool) (ha : Lvl a) (hb : Lvl b) (hp : Lvl p) : Calls Try.prog 19 #[.agg (sv a), .agg (sv b), .agg (sv p), .bool r] w fun e w' => e = .returned (.bool (fol a b && sib a b p r)) ∧ Below w.heap.size w w' := by
  have hc1 := fun W => fol_any W a b
  have hc2 := fun W => sib_any W a b p r ha hb hp
  generalize fol a b = y at *
  generalize sib a b p r = z at *
  obtain ⟨a1, a2, a3⟩ := a
  obtain ⟨b1, b2, b3⟩ := b
  obtain ⟨p1, p2, p3⟩ := p
  unfold sv at *
  simp only at *
  cases y
  · go_enter Try.func19, Try.ntmps19
    go_wp2_with fail
    refine (hc1 _).mono ?_
    rintro e w1 ⟨rfl, hb1⟩
    go_wp2
    go_ret
    exact ⟨rfl, (below3 _ _ _ _).trans (hb1.mono (by simp; omega))⟩
  · go_enter Try.func19, Try.ntmps19
    go_wp2_with fail
    refine (hc1 _).mono ?_
    rintro e w1 ⟨rfl, hb1⟩
    obtain ⟨hq, hf⟩ := bcell hb1
    have hz := hb1.size
    simp at hz
    go_wp2_with fail
    refine (hc2 _).mono ?_
    rintro e w2 ⟨rfl, hb2⟩
    go_wp2
    go_ret
    exact ⟨ret_bool (by simp), ((below3 _ _ _ _).trans (hb1.mono (by simp; omega))).trans (hb2.mono (by omega))⟩

set_option maxRecDepth 100000 in
set_option maxHeartbeats 1000000 in
theorem psib_any (w : World) (a b p : Sp) (r : Bool) (ha : Lvl a) (hb : Lvl b) (hp : Lvl p) : Calls Try.prog 20 #[.agg (sv a), .agg (sv b), .agg (sv p), .bool r] w fun e w' => e = .returned (.bool (fol b a && sib a b p r)) ∧ Below w.heap.size w w' := by
  have hc1 := fun W => prec_any W a b
  have hc2 := fun W => sib_any W a b p r ha hb hp
  generalize fol b a = y at *
  generalize sib a b p r = z at *
  obtain ⟨a1, a2, a3⟩ := a
  obtain ⟨b1, b2, b3⟩ := b
  obtain ⟨p1, p2, p3⟩ := p
  unfold sv at *
  simp only at *
  cases y
  · go_enter Try.func20, Try.ntmps20
    go_wp2_with fail
    refine (hc1 _).mono ?_
    rintro e w1 ⟨rfl, hb1⟩
    go_wp2
    go_ret
    exact ⟨rfl, (below3 _ _ _ _).trans (hb1.mono (by simp; omega))⟩
  · go_enter Try.func20, Try.ntmps20
    go_wp2_with fail
    refine (hc1 _).mono ?_
    rintro e w1 ⟨rfl, hb1⟩
    obtain ⟨hq, hf⟩ := bcell hb1
    have hz := hb1.size
    simp at hz
    go_wp2_with fail
    refine (hc2 _).mono ?_
    rintro e w2 ⟨rfl, hb2⟩
    go_wp2
    go_ret
    exact ⟨ret_bool (by simp), ((below3 _ _ _ _).trans (hb1.mono (by simp; omega))).trans (hb2.mono (by omega))⟩

end Go.Proofs.Ytfhbfilmejegcaa
