/- The document's Compare, in plain: what its cases come to. -/
import Derived.Test.YtoabgmpcdnikeaaGreatDoorVy
namespace Go.Proofs.YtoabgmpcdnikeaaGreatDoor
open Go.RowKit
set_option linter.unusedVariables false

/-- A truth, a text as a value. -/
abbrev trL (b : Bool) : Vl := ⟨1, b, 0, false, ⟨#[]⟩, []⟩
abbrev saL (s : ByteArray) : Vl := ⟨3, false, 0, false, s, []⟩

theorem anyN_one (op : ByteArray) (x y : Nm) : anyN op [x] [y] = nmB op x.1 x.2 y.1 y.2 := by simp [anyN]
theorem nums_one {v : Vl} (h : v.k ≠ 4) : v.nums = [v.nm] := by simp [Vl.nums, h]
theorem texts_one {v : Vl} (h : v.k ≠ 4) : v.texts = [v.t] := by simp [Vl.texts, h]
theorem nm_bool {v : Vl} (h : v.k = 1) : v.nm = bitN v.tr := by
  obtain ⟨k, b, n, no, t, L⟩ := v
  simp only at h
  subst h
  simp [Vl.nm, nmV, Vl.tr, trB, bitN]
/-- Two values neither of which is nodes. -/
def baseV (op : ByteArray) (v u : Vl) : Bool :=
  if ordB op then nmB op v.nm.1 v.nm.2 u.nm.1 u.nm.2
  else if decide (v.k = 1) || decide (u.k = 1) then (v.tr == u.tr) == decide (op = ⟨#[61]⟩)
  else if decide (v.k = 3) && decide (u.k = 3) then decide (v.t = u.t) == decide (op = ⟨#[61]⟩)
  else nmB op v.nm.1 v.nm.2 u.nm.1 u.nm.2
theorem cmp_base {op : ByteArray} (ho : IsOp op) {v u : Vl} (hv : v.k = 1 ∨ v.k = 2 ∨ v.k = 3) (hu : u.k = 1 ∨ u.k = 2 ∨ u.k = 3) : cmpV op v u = baseV op v u := by
  have v4 : v.k ≠ 4 := by omega
  have u4 : u.k ≠ 4 := by omega
  have h4 : has2 4 v u = false := by simp [has2, v4, u4]
  unfold cmpV baseV
  rw [h4, nums_one v4, nums_one u4, texts_one v4, texts_one u4]
  cases h : ordB op with
  | true => simp only [Bool.false_or, Bool.not_true, Bool.and_false, Bool.false_eq_true, if_false, if_true, ends_both ho h, anyN_one]
  | false =>
    have hop : op = ⟨#[61]⟩ ∨ op = ⟨#[33, 61]⟩ := by
      unfold ordB at h
      simp at h
      exact (Classical.em (op = ⟨#[61]⟩)).imp_right h
    simp only [Bool.false_or, Bool.not_false, Bool.and_true, Bool.false_eq_true, if_false, anyN_one]
    cases h1 : has2 1 v u with
    | true =>
      have h1' : (decide (v.k = 1) || decide (u.k = 1)) = true := h1
      simp only [h1', if_true]
      cases v.tr <;> cases u.tr <;> rcases hop with rfl | rfl <;> decide +kernel
    | false =>
      have h1' : (decide (v.k = 1) || decide (u.k = 1)) = false := h1
      simp only [h1', Bool.false_eq_true, if_false]
      simp only [Bool.or_eq_false_iff, decide_eq_false_iff_not] at h1'
      cases h2 : has2 2 v u with
      | true =>
        have h3 : (decide (v.k = 3) && decide (u.k = 3)) = false := by
          unfold has2 at h2
          simp only [Bool.or_eq_true, decide_eq_true_eq] at h2
          rw [Bool.and_eq_false_iff]
          rcases h2 with h2 | h2
          · left; simp [h2]
          · right; simp [h2]
        simp only [h3, Bool.false_eq_true, if_false, if_true]
      | false =>
        unfold has2 at h2
        simp only [Bool.or_eq_false_iff, decide_eq_false_iff_not] at h2
        have e1 : v.k = 3 := by omega
        have e2 : u.k = 3 := by omega
        simp only [e1, e2, decide_true, Bool.and_self, if_true, Bool.false_eq_true, if_false, anyT_any]
        rcases hop with rfl | rfl
        · simp [tx1]
        · simp [tx1]
theorem cmp_bools {op : ByteArray} (ho : IsOp op) (b : Bool) {u : Vl} (hu : u.k = 1) : cmpV op (trL b) u = nmB op (bitN b).1 (bitN b).2 (bitN u.tr).1 (bitN u.tr).2 := by
  have e : has2 1 (trL b) u = true := rfl
  have e4 : has2 4 (trL b) u = false := by simp [has2, hu]
  have n1 : (trL b).nums = [bitN b] := by rw [nums_one (v := trL b) (show (1 : Int) ≠ 4 by decide), nm_bool rfl]; rfl
  have n2 : u.nums = [bitN u.tr] := by rw [nums_one (by rw [hu]; decide), nm_bool hu]
  unfold cmpV
  rw [e, e4, n1, n2]
  cases h : ordB op with
  | true => simp only [Bool.false_or, Bool.not_true, Bool.and_false, Bool.false_eq_true, if_false, if_true, ends_both ho h, anyN_one]
  | false => rfl
/-- Nodes and a truth. -/
theorem cmp_tr1 {op : ByteArray} (ho : IsOp op) {v u : Vl} (hv : v.k = 4) (hu : u.k = 1) : cmpV op v u = cmpV op (trL v.tr) u := by
  rw [cmp_bools ho _ hu]
  unfold cmpV
  have e : has2 1 v u = true := by simp [has2, hu]
  have e4 : has2 4 v u = true := by simp [has2, hv]
  rw [e, e4]
  rfl
theorem cmp_tr2 {op : ByteArray} (ho : IsOp op) {v u : Vl} (hv : v.k = 1) (hu : u.k = 4) : cmpV op v u = cmpV op v (trL u.tr) := by
  rw [← cmpV_turn ho v u, ← cmpV_turn ho v (trL u.tr)]
  exact cmp_tr1 (turn_is ho) hu hv
/-- Nodes: one of them. -/
theorem cmp_any1 {op : ByteArray} (ho : IsOp op) {v u : Vl} (hv : v.k = 4) (hu : u.k ≠ 1) : cmpV op v u = v.L.any fun s => cmpV op (saL s) u := by
  obtain ⟨k, b, n, no, t, L⟩ := v
  simp only at hv
  subst hv
  rw [← one_of ho L u hu]
  unfold cmpV has2
  simp [Vl.tr, trB, Vl.nums, Vl.texts]
theorem cmp_any2 {op : ByteArray} (ho : IsOp op) {v u : Vl} (hv : v.k ≠ 1) (hu : u.k = 4) : cmpV op v u = u.L.any fun s => cmpV op v (saL s) := by
  rw [← cmpV_turn ho v u, cmp_any1 (turn_is ho) hu hv]
  congr 1
  funext s
  exact cmpV_turn ho v (saL s)

end Go.Proofs.YtoabgmpcdnikeaaGreatDoor
