/- Spans in plain, and the tests of two of them: each function of the program and of the document is one of these. -/
import Derived.Test.YtmeinebfdljndaaBase
namespace Go.Proofs.Ytmeinebfdljndaa
open Go.RowKit
set_option linter.unusedVariables false

/-- A span: its numbers as they are. -/
structure Sp where
  b : Int
  e : Int
  l : Int
def sv (s : Sp) : Array Value := #[.int .u64 s.b, .int .u64 s.e, .int .i64 s.l]
/-- Its level is a number of its kind. -/
def Lvl (s : Sp) : Prop := -9223372036854775808 ≤ s.l ∧ s.l < 9223372036854775808

def slf (a b : Sp) : Bool := decide (a.b = b.b ∧ a.e = b.e)
def anc (a b : Sp) : Bool := decide (a.b < b.b ∧ b.e < a.e)
def par (a b : Sp) : Bool := decide ((a.b < b.b ∧ b.e < a.e) ∧ a.l + 1 = b.l)
def fol (a b : Sp) : Bool := decide (b.e < a.b)
def val (a : Sp) : Bool := decide (1 ≤ a.b ∧ a.b < a.e ∧ a.e < 4611686018427387904 ∧ 0 ≤ a.l ∧ a.l < 64)
def sib (a b p : Sp) (r : Bool) : Bool := if r then decide (a.l = 0 ∧ b.l = 0) else par p b && par p a

theorem below1 (w : World) (x : Obj) : Below w.heap.size w (w.alloc x) := (Below.refl _ _).alloc (Nat.le_refl _) _
theorem below2 (w : World) (x y : Obj) : Below w.heap.size w ((w.alloc x).alloc y) := (below1 w x).alloc (by simp) _
theorem below3 (w : World) (x y z : Obj) : Below w.heap.size w (((w.alloc x).alloc y).alloc z) := (below2 w x y).alloc (by simp; omega) _
theorem ret_bool {b c : Bool} (h : b = c) : Ending.returned (.bool b) = .returned (.bool c) := by rw [h]

set_option maxRecDepth 100000 in
theorem self_any (w : World) (a b : Sp) : Calls Try.prog 81 #[.agg (sv a), .agg (sv b)] w fun e w' => e = .returned (.bool (slf a b)) ∧ Below w.heap.size w w' := by
  obtain ⟨a1, a2, a3⟩ := a
  obtain ⟨b1, b2, b3⟩ := b
  unfold sv
  simp only
  by_cases hx : a1 = b1
  · go_enter Try.func81, Try.ntmps81
    go_wp2
    go_ret
    exact ⟨ret_bool (by rw [Bool.eq_iff_iff]; simp [slf, hx]), below2 _ _ _⟩
  · go_enter Try.func81, Try.ntmps81
    go_wp2
    go_ret
    exact ⟨ret_bool (by unfold slf; rw [Bool.eq_iff_iff]; simp only [decide_eq_true_eq, Bool.false_eq_true, false_iff]; omega), below2 _ _ _⟩

set_option maxRecDepth 100000 in
theorem anc_any (w : World) (a b : Sp) : Calls Try.prog 65 #[.agg (sv a), .agg (sv b)] w fun e w' => e = .returned (.bool (anc a b)) ∧ Below w.heap.size w w' := by
  obtain ⟨a1, a2, a3⟩ := a
  obtain ⟨b1, b2, b3⟩ := b
  unfold sv
  simp only
  by_cases hx : a1 < b1
  · go_enter Try.func65, Try.ntmps65
    go_wp2
    go_ret
    exact ⟨ret_bool (by rw [Bool.eq_iff_iff]; simp [anc, hx]), below2 _ _ _⟩
  · go_enter Try.func65, Try.ntmps65
    go_wp2
    go_ret
    exact ⟨ret_bool (by unfold anc; rw [Bool.eq_iff_iff]; simp only [decide_eq_true_eq, Bool.false_eq_true, false_iff]; omega), below2 _ _ _⟩

set_option maxRecDepth 100000 in
theorem rarnd_any (w : World) (a b : Sp) : Calls Try.prog 46 #[.agg (sv a), .agg (sv b)] w fun e w' => e = .returned (.bool (anc a b)) ∧ Below w.heap.size w w' := by
  obtain ⟨a1, a2, a3⟩ := a
  obtain ⟨b1, b2, b3⟩ := b
  unfold sv
  simp only
  by_cases hx : a1 < b1
  · go_enter Try.func46, Try.ntmps46
    go_wp2
    go_ret
    exact ⟨ret_bool (by rw [Bool.eq_iff_iff]; simp [anc, hx]), below2 _ _ _⟩
  · go_enter Try.func46, Try.ntmps46
    go_wp2
    go_ret
    exact ⟨ret_bool (by unfold anc; rw [Bool.eq_iff_iff]; simp only [decide_eq_true_eq, Bool.false_eq_true, false_iff]; omega), below2 _ _ _⟩

set_option maxRecDepth 100000 in
theorem fol_any (w : World) (a b : Sp) : Calls Try.prog 85 #[.agg (sv a), .agg (sv b)] w fun e w' => e = .returned (.bool (fol a b)) ∧ Below w.heap.size w w' := by
  obtain ⟨a1, a2, a3⟩ := a
  obtain ⟨b1, b2, b3⟩ := b
  unfold sv
  simp only
  go_enter Try.func85, Try.ntmps85
  go_wp2
  go_ret
  exact ⟨ret_bool (by simp [fol]), below2 _ _ _⟩

set_option maxRecDepth 100000 in
theorem prec_any (w : World) (a b : Sp) : Calls Try.prog 64 #[.agg (sv a), .agg (sv b)] w fun e w' => e = .returned (.bool (fol b a)) ∧ Below w.heap.size w w' := by
  obtain ⟨a1, a2, a3⟩ := a
  obtain ⟨b1, b2, b3⟩ := b
  unfold sv
  simp only
  go_enter Try.func64, Try.ntmps64
  go_wp2
  go_ret
  exact ⟨ret_bool (by simp [fol]), below2 _ _ _⟩

set_option maxRecDepth 100000 in
theorem desc_any (w : World) (a b : Sp) : Calls Try.prog 84 #[.agg (sv a), .agg (sv b)] w fun e w' => e = .returned (.bool (anc b a)) ∧ Below w.heap.size w w' := by
  have hc := fun W => anc_any W b a
  generalize anc b a = z at *
  obtain ⟨a1, a2, a3⟩ := a
  obtain ⟨b1, b2, b3⟩ := b
  unfold sv at *
  simp only at *
  go_enter Try.func84, Try.ntmps84
  go_wp2_with fail
  refine (hc _).mono ?_
  rintro e w' ⟨rfl, hb⟩
  go_wp2
  go_ret
  exact ⟨rfl, (below2 _ _ _).trans (hb.mono (by simp; omega))⟩

set_option maxRecDepth 100000 in
theorem par_any (w : World) (a b : Sp) (ha : Lvl a) (hb : Lvl b) : Calls Try.prog 82 #[.agg (sv a), .agg (sv b)] w fun e w' => e = .returned (.bool (par a b)) ∧ Below w.heap.size w w' := by
  have hc := fun W => anc_any W a b
  have HP : Hid (par a b = (anc a b && decide (a.l + 1 = b.l))) := by show _ = _; simp [par, anc, Bool.decide_and]
  unfold Lvl at ha hb
  generalize anc a b = z at *
  generalize par a b = y at *
  obtain ⟨a1, a2, a3⟩ := a
  obtain ⟨b1, b2, b3⟩ := b
  unfold sv at *
  simp only at *
  obtain ⟨h1, h2⟩ := ha
  obtain ⟨g1, g2⟩ := hb
  cases z
  · go_enter Try.func82, Try.ntmps82
    go_wp2_with fail
    refine (hc _).mono ?_
    rintro e w' ⟨rfl, hbb⟩
    obtain ⟨hq, hf⟩ := bcell hbb
    have hz := hbb.size
    simp at hz
    go_wp2
    go_ret
    exact ⟨ret_bool (by rw [HP.out]; simp), (below2 _ _ _).trans (hbb.mono (by simp; omega))⟩
  · by_cases hx : a3 < b3
    · go_enter Try.func82, Try.ntmps82
      go_wp2_with fail
      refine (hc _).mono ?_
      rintro e w' ⟨rfl, hbb⟩
      obtain ⟨hq, hf⟩ := bcell hbb
      have hz := hbb.size
      simp at hz
      go_wp2
      go_ret
      exact ⟨ret_bool (by rw [HP.out, Bool.eq_iff_iff]; simp), (below2 _ _ _).trans (hbb.mono (by simp; omega))⟩
    · go_enter Try.func82, Try.ntmps82
      go_wp2_with fail
      refine (hc _).mono ?_
      rintro e w' ⟨rfl, hbb⟩
      obtain ⟨hq, hf⟩ := bcell hbb
      have hz := hbb.size
      simp at hz
      go_wp2
      go_ret
      exact ⟨ret_bool (by rw [HP.out]; simp; omega), (below2 _ _ _).trans (hbb.mono (by simp; omega))⟩

set_option maxRecDepth 100000 in
theorem child_any (w : World) (a b : Sp) (ha : Lvl a) (hb : Lvl b) : Calls Try.prog 83 #[.agg (sv a), .agg (sv b)] w fun e w' => e = .returned (.bool (par b a)) ∧ Below w.heap.size w w' := by
  have hc := fun W => par_any W b a hb ha
  generalize par b a = z at *
  obtain ⟨a1, a2, a3⟩ := a
  obtain ⟨b1, b2, b3⟩ := b
  unfold sv at *
  simp only at *
  go_enter Try.func83, Try.ntmps83
  go_wp2_with fail
  refine (hc _).mono ?_
  rintro e w' ⟨rfl, hb⟩
  go_wp2
  go_ret
  exact ⟨rfl, (below2 _ _ _).trans (hb.mono (by simp; omega))⟩

set_option maxRecDepth 100000 in
theorem val_any (w : World) (a : Sp) : Calls Try.prog 80 #[.agg (sv a)] w fun e w' => e = .returned (.bool (val a)) ∧ Below w.heap.size w w' := by
  obtain ⟨a1, a2, a3⟩ := a
  unfold sv
  simp only
  by_cases h1 : 1 ≤ a1
  · by_cases h2 : a1 < a2
    · by_cases h3 : a2 < 4611686018427387904
      · by_cases h4 : 0 ≤ a3
        · go_enter Try.func80, Try.ntmps80
          go_wp2
          go_ret
          exact ⟨ret_bool (by simp [val, h1, h2, h3, h4]), below1 _ _⟩
        · go_enter Try.func80, Try.ntmps80
          go_wp2
          go_ret
          exact ⟨ret_bool (by unfold val; rw [Bool.eq_iff_iff]; simp only [decide_eq_true_eq, Bool.false_eq_true, false_iff]; omega), below1 _ _⟩
      · go_enter Try.func80, Try.ntmps80
        go_wp2
        go_ret
        exact ⟨ret_bool (by unfold val; rw [Bool.eq_iff_iff]; simp only [decide_eq_true_eq, Bool.false_eq_true, false_iff]; omega), below1 _ _⟩
    · go_enter Try.func80, Try.ntmps80
      go_wp2
      go_ret
      exact ⟨ret_bool (by unfold val; rw [Bool.eq_iff_iff]; simp only [decide_eq_true_eq, Bool.false_eq_true, false_iff]; omega), below1 _ _⟩
  · go_enter Try.func80, Try.ntmps80
    go_wp2
    go_ret
    exact ⟨ret_bool (by unfold val; rw [Bool.eq_iff_iff]; simp only [decide_eq_true_eq, Bool.false_eq_true, false_iff]; omega), below1 _ _⟩

set_option maxRecDepth 100000 in
theorem rval_any (w : World) (a : Sp) : Calls Try.prog 43 #[.agg (sv a)] w fun e w' => e = .returned (.bool (val a)) ∧ Below w.heap.size w w' := by
  obtain ⟨a1, a2, a3⟩ := a
  unfold sv
  simp only
  by_cases h1 : 1 ≤ a1
  · by_cases h2 : a1 < a2
    · by_cases h3 : a2 < 4611686018427387904
      · by_cases h4 : 0 ≤ a3
        · go_enter Try.func43, Try.ntmps43
          go_wp2
          go_ret
          exact ⟨ret_bool (by simp [val, h1, h2, h3, h4]), below1 _ _⟩
        · go_enter Try.func43, Try.ntmps43
          go_wp2
          go_ret
          exact ⟨ret_bool (by unfold val; rw [Bool.eq_iff_iff]; simp only [decide_eq_true_eq, Bool.false_eq_true, false_iff]; omega), below1 _ _⟩
      · go_enter Try.func43, Try.ntmps43
        go_wp2
        go_ret
        exact ⟨ret_bool (by unfold val; rw [Bool.eq_iff_iff]; simp only [decide_eq_true_eq, Bool.false_eq_true, false_iff]; omega), below1 _ _⟩
    · go_enter Try.func43, Try.ntmps43
      go_wp2
      go_ret
      exact ⟨ret_bool (by unfold val; rw [Bool.eq_iff_iff]; simp only [decide_eq_true_eq, Bool.false_eq_true, false_iff]; omega), below1 _ _⟩
  · go_enter Try.func43, Try.ntmps43
    go_wp2
    go_ret
    exact ⟨ret_bool (by unfold val; rw [Bool.eq_iff_iff]; simp only [decide_eq_true_eq, Bool.false_eq_true, false_iff]; omega), below1 _ _⟩

end Go.Proofs.Ytmeinebfdljndaa
