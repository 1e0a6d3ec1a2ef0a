/- In plain: both sides count the same. -/
import Derived.Test.YtafpfelgngniiaaRou
import Derived.Test.YtafpfelgngniiaaRpr
namespace Go.Proofs.Ytafpfelgngniiaa
open Go.RowKit
set_option linter.unusedVariables false

theorem count_range (n k : Nat) : (List.range n).count k = if k < n then 1 else 0 := by
  induction n with
  | zero => simp
  | succ n ih =>
    rw [List.range_succ, List.count_append, ih]
    by_cases h1 : k < n
    · have e : (n == k) = false := beq_false_of_ne (by omega)
      simp [h1, show k < n + 1 by omega, List.count_cons, e]
    · by_cases h2 : k = n
      · subst h2
        simp
      · have e : (n == k) = false := beq_false_of_ne (by omega)
        simp [h1, show ¬ k < n + 1 by omega, List.count_cons, e]
theorem opn_count {dr : Bool} {A : List Pl} {s : Sp} {k : Nat} {x : Pl} (h : A[k]? = some x) : (opn dr A s).count k = if jns dr x.s s then 1 else 0 := by
  have hk := (List.getElem?_eq_some_iff.1 h).1
  rw [opn_oD]
  unfold oD
  cases e : jns dr x.s s with
  | true => rw [List.count_filter (by rw [pD_at h]; exact e), count_range, if_pos hk]; rfl
  | false =>
    rw [List.count_eq_zero_of_not_mem]
    · rfl
    · intro hm
      have := (List.mem_filter.1 hm).2
      rw [pD_at h, e] at this
      cases this
theorem cnF_eq {dr : Bool} {A : List Pl} {k : Nat} {x : Pl} (h : A[k]? = some x) : ∀ D : List Pl, cnF dr A D k = rcF dr x D
  | [] => rfl
  | y :: r => by
    have ih := cnF_eq (dr := dr) h r
    unfold cnF rcF at *
    rw [List.map_cons, List.sum_cons, ih, opn_count h, List.filter_cons]
    cases jns dr x.s y.s <;> simp <;> omega
theorem cnA_rcL (dr : Bool) (A D : List Pl) : (cnA A.length (cnF dr A D)).toList = ks (rcL dr A D) := by
  apply List.ext_getElem?
  intro k
  by_cases hk : k < A.length
  · obtain ⟨x, hx⟩ : ∃ x, A[k]? = some x := ⟨_, List.getElem?_eq_getElem hk⟩
    rw [Array.getElem?_toList, cnA_at _ hk, cnF_eq hx]
    simp [ks, rcL, hx]
  · rw [List.getElem?_eq_none (by simp [cnA]; omega), List.getElem?_eq_none (by simp [ks, rcL]; omega)]
theorem ouL_eq (dr : Bool) (D A : List Pl) (f : Nat → Nat) (hf : ∀ k x, A[k]? = some x → f k = rcF dr x D) : ∀ k, k ≤ A.length → ouL f (A.take k) = roL dr D (A.take k)
  | 0, _ => rfl
  | k + 1, hk => by
    obtain ⟨x, hx⟩ : ∃ x, A[k]? = some x := ⟨_, List.getElem?_eq_getElem (by omega)⟩
    rw [ouL_snoc hx, roL_snoc hx, ouL_eq dr D A f hf k (by omega), hf k x hx]
theorem ouL_roL (dr : Bool) (A D : List Pl) : ouL (cnF dr A D) A = roL dr D A := by
  have := ouL_eq dr D A (cnF dr A D) (fun k x hx => cnF_eq hx D) A.length (Nat.le_refl _)
  rwa [List.take_length] at this

end Go.Proofs.Ytafpfelgngniiaa
