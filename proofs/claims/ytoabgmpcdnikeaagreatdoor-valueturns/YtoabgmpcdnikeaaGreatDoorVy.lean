/- Two lists held against each other are so just if one of each is: in plain. -/
import Derived.Test.YtoabgmpcdnikeaaGreatDoorVp
namespace Go.Proofs.YtoabgmpcdnikeaaGreatDoor
open Go.RowKit
set_option linter.unusedVariables false

/-- What the least and the greatest are. -/
def EndsOk (A E : List Nm) : Prop := (E = [] ∧ ∀ x ∈ A, x.2 = false) ∨ ∃ lo hi, E = [(lo, true), (hi, true)] ∧ (lo, true) ∈ A ∧ (hi, true) ∈ A ∧ ∀ n, (n, true) ∈ A → lo ≤ n ∧ n ≤ hi
theorem endsOk_snoc {A E : List Nm} (h : EndsOk A E) (x : Nm) : EndsOk (A ++ [x]) (endS E x) := by
  obtain ⟨xn, xb⟩ := x
  cases xb with
  | false =>
    have e : endS E (xn, false) = E := by simp [endS]
    rw [e]
    rcases h with ⟨h1, h2⟩ | ⟨lo, hi, h1, h2, h3, h4⟩
    · refine .inl ⟨h1, fun y hy => ?_⟩
      rcases List.mem_append.1 hy with hy | hy
      · exact h2 y hy
      · simp at hy
        rw [hy]
    · refine .inr ⟨lo, hi, h1, List.mem_append_left _ h2, List.mem_append_left _ h3, fun n hn => ?_⟩
      rcases List.mem_append.1 hn with hn | hn
      · exact h4 n hn
      · simp at hn
  | true =>
    rcases h with ⟨h1, h2⟩ | ⟨lo, hi, h1, h2, h3, h4⟩
    · refine .inr ⟨xn, xn, by rw [h1]; rfl, by simp, by simp, fun n hn => ?_⟩
      rcases List.mem_append.1 hn with hn | hn
      · cases h2 _ hn
      · simp at hn
        omega
    · refine .inr ⟨min lo xn, max hi xn, by rw [h1]; rfl, ?_, ?_, fun n hn => ?_⟩
      · rcases Int.le_total lo xn with hl | hl
        · rw [Int.min_eq_left hl]
          exact List.mem_append_left _ h2
        · rw [Int.min_eq_right hl]
          simp
      · rcases Int.le_total hi xn with hl | hl
        · rw [Int.max_eq_right hl]
          simp
        · rw [Int.max_eq_left hl]
          exact List.mem_append_left _ h3
      · rcases List.mem_append.1 hn with hn | hn
        · have := h4 n hn
          omega
        · simp at hn
          omega
theorem endsOk_fold : ∀ (l A E : List Nm), EndsOk A E → EndsOk (A ++ l) (l.foldl endS E)
  | [], A, E, h => by simpa using h
  | x :: r, A, E, h => by
    have := endsOk_fold r (A ++ [x]) (endS E x) (endsOk_snoc h x)
    simpa using this
theorem ends_ok (A : List Nm) : EndsOk A (ends A) := endsOk_fold A [] [] (.inl ⟨rfl, fun x hx => by simp at hx⟩)

theorem nm_none {op : ByteArray} (h : ordB op = true) (x y : Int) (q : Bool) : nmB op x false y q = false := by
  unfold nmB
  simp only [Bool.false_and, Bool.false_eq_true, if_false]
  unfold ordB at h
  simp at h
  simpa using h.2
theorem mt_mono {op : ByteArray} (ho : IsOp op) (h : ordB op = true) {x y lo hi : Int} (h1 : lo ≤ x) (h2 : x ≤ hi) (hm : mt op (cmpI x y) = true) : mt op (cmpI lo y) = true ∨ mt op (cmpI hi y) = true := by
  rcases ho with rfl | rfl | rfl | rfl | rfl | rfl
  · cases h
  · cases h
  · refine .inl ?_
    simp [mt, cmpI] at hm ⊢
    split at hm <;> split <;> simp_all <;> omega
  · refine .inl ?_
    simp [mt, cmpI] at hm ⊢
    split at hm <;> split <;> simp_all <;> omega
  · refine .inr ?_
    simp [mt, cmpI] at hm ⊢
    split at hm <;> split <;> simp_all <;> omega
  · refine .inr ?_
    simp [mt, cmpI] at hm ⊢
    split at hm <;> split <;> simp_all <;> omega
theorem anyN_iff {op : ByteArray} {A B : List Nm} : anyN op A B = true ↔ ∃ x ∈ A, ∃ y ∈ B, nmB op x.1 x.2 y.1 y.2 = true := by
  unfold anyN
  simp only [List.any_eq_true]
theorem ends_left {op : ByteArray} (ho : IsOp op) (h : ordB op = true) (A B : List Nm) : anyN op (ends A) B = anyN op A B := by
  rw [Bool.eq_iff_iff, anyN_iff, anyN_iff]
  rcases ends_ok A with ⟨h1, h2⟩ | ⟨lo, hi, h1, h2, h3, h4⟩
  · rw [h1]
    refine ⟨fun ⟨x, hx, _⟩ => by simp at hx, fun ⟨x, hx, y, hy, hm⟩ => ?_⟩
    obtain ⟨xn, xb⟩ := x
    have := h2 _ hx
    simp only at this
    subst this
    rw [nm_none h] at hm
    cases hm
  · rw [h1]
    constructor
    · rintro ⟨x, hx, y, hy, hm⟩
      refine ⟨x, ?_, y, hy, hm⟩
      simp at hx
      rcases hx with rfl | rfl
      · exact h2
      · exact h3
    · rintro ⟨⟨xn, xb⟩, hx, ⟨yn, yb⟩, hy, hm⟩
      cases xb with
      | false =>
        rw [nm_none h] at hm
        cases hm
      | true =>
        cases yb with
        | false =>
          exfalso
          unfold nmB at hm
          unfold ordB at h
          simp at h hm
          exact h.2 hm
        | true =>
          have hb := h4 xn hx
          have hm2 : mt op (cmpI xn yn) = true := by simpa [nmB] using hm
          rcases mt_mono ho h hb.1 hb.2 hm2 with h5 | h5
          · exact ⟨(lo, true), by simp, (yn, true), hy, by simpa [nmB] using h5⟩
          · exact ⟨(hi, true), by simp, (yn, true), hy, by simpa [nmB] using h5⟩
theorem ends_both {op : ByteArray} (ho : IsOp op) (h : ordB op = true) (A B : List Nm) : anyN op (ends A) (ends B) = anyN op A B := by
  rw [ends_left ho h, ← anyN_turn ho A (ends B), ends_left (turn_is ho) ((turn_ord ho).trans h), anyN_turn ho]

/-- Two texts. -/
def tx1 (op : ByteArray) (a b : ByteArray) : Bool := if op = ⟨#[61]⟩ then decide (a = b) else decide (a ≠ b)
theorem anyT_any (op : ByteArray) (A B : List ByteArray) : anyT op A B = A.any fun a => B.any fun b => tx1 op a b := by
  unfold anyT
  by_cases h1 : A = [] ∨ B = []
  · rw [if_pos h1]
    rcases h1 with rfl | rfl
    · rfl
    · simp
  · rw [if_neg h1]
    obtain ⟨a, A', rfl⟩ := List.exists_cons_of_ne_nil (fun e => h1 (.inl e))
    obtain ⟨b, B', rfl⟩ := List.exists_cons_of_ne_nil (fun e => h1 (.inr e))
    by_cases h2 : op = ⟨#[61]⟩
    · rw [if_pos h2, any_swap]
      simp only [tx1, if_pos h2]
    · rw [if_neg h2, Bool.eq_iff_iff]
      simp only [tx1, if_neg h2, Bool.or_eq_true, List.any_eq_true, decide_eq_true_eq, List.headD_cons]
      constructor
      · rintro (⟨x, hx, hne⟩ | ⟨y, hy, hne⟩)
        · exact ⟨x, hx, b, by simp, of_decide_eq_true hne⟩
        · exact ⟨a, by simp, y, hy, fun e => (of_decide_eq_true hne) e.symm⟩
      · rintro ⟨x, hx, y, hy, hne⟩
        by_cases e1 : x = b
        · by_cases e2 : y = a
          · subst e1
            subst e2
            exact .inl ⟨y, by simp, decide_eq_true (fun e => hne e.symm)⟩
          · exact .inr ⟨y, hy, decide_eq_true e2⟩
        · exact .inl ⟨x, hx, decide_eq_true e1⟩


/-- One of: nodes are held against something as one of their texts is. -/
theorem one_of {op : ByteArray} (ho : IsOp op) (l : List ByteArray) (u : Vl) (hu : u.k ≠ 1) : cmpV op ⟨4, false, 0, false, ⟨#[]⟩, l⟩ u = l.any fun s => cmpV op ⟨3, false, 0, false, s, []⟩ u := by
  have h1 : ∀ v : Vl, v.k ≠ 1 → has2 1 v u = false := fun v hv => by simp [has2, hv, hu]
  have a1 : has2 1 ⟨4, false, 0, false, ⟨#[]⟩, l⟩ u = false := h1 _ (by simp)
  have a2 : ∀ s, has2 1 ⟨3, false, 0, false, s, []⟩ u = false := fun s => h1 _ (by simp)
  unfold cmpV
  simp only [a1, a2, Bool.false_and, Bool.false_eq_true, if_false]
  have n4 : Vl.nums ⟨4, false, 0, false, ⟨#[]⟩, l⟩ = l.map fun s => rdN (Tx s) := by simp [Vl.nums]
  have n3 : ∀ s, Vl.nums ⟨3, false, 0, false, s, []⟩ = [rdN (Tx s)] := fun s => rfl
  have t4 : Vl.texts ⟨4, false, 0, false, ⟨#[]⟩, l⟩ = l := by simp [Vl.texts]
  have t3 : ∀ s, Vl.texts ⟨3, false, 0, false, s, []⟩ = [s] := fun s => rfl
  have b2 : ∀ v : Vl, v.k ≠ 2 → has2 2 v u = decide (u.k = 2) := fun v hv => by simp [has2, hv]
  have c1 : has2 2 ⟨4, false, 0, false, ⟨#[]⟩, l⟩ u = decide (u.k = 2) := b2 _ (by simp)
  have c2 : ∀ s, has2 2 ⟨3, false, 0, false, s, []⟩ u = decide (u.k = 2) := fun s => b2 _ (by simp)
  simp only [c1, c2, n4, n3, t4, t3]
  cases h : ordB op with
  | true =>
    simp only [if_true, ends_both ho h]
    unfold anyN
    rw [List.any_map]
    congr 1
    funext s
    simp
  | false =>
    simp only [Bool.false_eq_true, if_false]
    by_cases h2 : u.k = 2
    · simp only [h2, decide_true, if_true]
      unfold anyN
      rw [List.any_map]
      congr 1
      funext s
      simp
    · simp only [h2, decide_false, Bool.false_eq_true, if_false, anyT_any]
      congr 1
      funext s
      simp

end Go.Proofs.YtoabgmpcdnikeaaGreatDoor
