/- In plain, for JoinParts: what is within and what is not make up the list; counts add up to the pairs; direct pairs are pairs. -/
import Derived.Test.YtafpfelgngniiaaEqs
import Derived.Test.YtafpfelgngniiaaPrs
import Derived.Test.YtafpfelgngniiaaInn
namespace Go.Proofs.Ytafpfelgngniiaa
open Go.RowKit
set_option linter.unusedVariables false

theorem prO_oD (dr : Bool) (A : List Pl) (y : Pl) : ∀ K, K ≤ A.length → prO A y (oD dr A y.s K) = ((A.take K).filter (fun x => jns dr x.s y.s)).map (fun x => (x.n, y.n))
  | 0, _ => by simp [oD, prO]
  | K + 1, hK => by
    obtain ⟨x, hx⟩ : ∃ x, A[K]? = some x := ⟨_, List.getElem?_eq_getElem (by omega)⟩
    rw [oD_snoc hx, take_snoc hx]
    have ih := prO_oD dr A y K (by omega)
    unfold prO at ih ⊢
    rw [List.filterMap_append, ih, List.filter_append, List.map_append]
    congr 1
    cases h : jns dr x.s y.s <;> simp [h, hx]
theorem prO_eq (dr : Bool) (A : List Pl) (y : Pl) : prO A y (opn dr A y.s) = (A.filter (fun x => jns dr x.s y.s)).map (fun x => (x.n, y.n)) := by
  rw [opn_oD, prO_oD dr A y A.length (Nat.le_refl _), List.take_length]
theorem prL_eq (dr : Bool) (A L : List Pl) : prL dr A L = L.flatMap (fun y => (A.filter (fun x => jns dr x.s y.s)).map (fun x => (x.n, y.n))) := by
  unfold prL
  congr 1
  funext y
  exact prO_eq dr A y
theorem sum_if (A : List Pl) (p : Pl → Bool) (f : Pl → Nat) : (A.map (fun x => (if p x then 1 else 0) + f x)).sum = (A.filter p).length + (A.map f).sum := by
  induction A with
  | nil => rfl
  | cons x r ih =>
    simp only [List.map_cons, List.sum_cons, ih, List.filter_cons]
    cases p x <;> simp <;> omega
theorem rcL_sum (dr : Bool) (A : List Pl) : ∀ L : List Pl, (rcL dr A L).sum = (prL dr A L).length
  | [] => by
    rw [prL_eq]
    unfold rcL rcF
    induction A with
    | nil => rfl
    | cons x r ih => simpa using ih
  | y :: r => by
    have ih := rcL_sum dr A r
    rw [prL_eq] at ih ⊢
    rw [List.flatMap_cons, List.length_append, List.length_map, ← ih]
    have := sum_if A (fun x => jns dr x.s y.s) (fun x => rcF dr x r)
    unfold rcL
    rw [← this]
    congr 1
    apply List.map_congr_left
    intro x _
    unfold rcF
    rw [List.filter_cons]
    cases jns dr x.s y.s <;> simp <;> omega
theorem filter_sub {α : Type} (p q : α → Bool) (h : ∀ x, p x = true → q x = true) : ∀ A : List α, (A.filter p).Sublist (A.filter q)
  | [] => by simp
  | x :: r => by
    have ih := filter_sub p q h r
    rw [List.filter_cons, List.filter_cons]
    cases hp : p x with
    | true => rw [if_pos rfl, if_pos (h x hp)]; exact ih.cons_cons x
    | false =>
      rw [if_neg (by simp)]
      split
      · exact ih.cons x
      · exact ih
theorem prL_sub (A : List Pl) : ∀ L : List Pl, (prL true A L).Sublist (prL false A L)
  | [] => by simp [prL]
  | y :: r => by
    have ih := prL_sub A r
    rw [prL_eq, prL_eq] at ih ⊢
    rw [List.flatMap_cons, List.flatMap_cons]
    refine List.Sublist.append (List.Sublist.map _ (filter_sub _ _ (fun x hx => ?_) A)) ih
    unfold jns at hx ⊢
    simp at hx ⊢
    exact hx.1

/-- How many of the first ones are of a kind. -/
def cntP (p : Pl → Bool) (D : List Pl) (j : Nat) : Nat := ((D.take j).filter p).length
theorem cntP_le (p : Pl → Bool) (D : List Pl) (j : Nat) : cntP p D j ≤ j := Nat.le_trans (List.length_filter_le _ _) (by simp; omega)
theorem cntP_snoc {p : Pl → Bool} {D : List Pl} {j : Nat} {y : Pl} (h : D[j]? = some y) : cntP p D (j + 1) = cntP p D j + if p y then 1 else 0 := by
  unfold cntP
  rw [take_snoc h, List.filter_append, List.length_append]
  cases hp : p y <;> simp [hp]
theorem parts (D : List Pl) {j : Nat} {y : Pl} (h : D[j]? = some y) : D = D.take j ++ y :: D.drop (j + 1) := by
  have hj := (List.getElem?_eq_some_iff.1 h).1
  have e : D[j]'hj = y := (List.getElem?_eq_some_iff.1 h).2
  rw [← e, List.getElem_cons_drop]
  exact (List.take_append_drop j D).symm
theorem filt_at {p : Pl → Bool} {D : List Pl} {j : Nat} {y : Pl} (h : D[j]? = some y) (hp : p y = true) : (D.filter p)[cntP p D j]? = some y := by
  have e := parts D h
  have : D.filter p = (D.take j).filter p ++ (y :: (D.drop (j + 1)).filter p) := by
    conv => lhs; rw [e]
    rw [List.filter_append, List.filter_cons, if_pos hp]
  rw [this]
  unfold cntP
  rw [List.getElem?_append_right (Nat.le_refl _)]
  simp
theorem filt_not {p : Pl → Bool} {D : List Pl} (hr : D.Pairwise (fun x y => x.s.b < y.s.b)) {j : Nat} {y z : Pl} (h : D[j]? = some y) (hp : p y = false) (hz : (D.filter p)[cntP p D j]? = some z) : y.s.b < z.s.b := by
  have e := parts D h
  have : D.filter p = (D.take j).filter p ++ (D.drop (j + 1)).filter p := by
    conv => lhs; rw [e]
    rw [List.filter_append, List.filter_cons, if_neg (by simp [hp])]
  rw [this] at hz
  unfold cntP at hz
  rw [List.getElem?_append_right (Nat.le_refl _)] at hz
  have hm := (List.mem_filter.1 (List.mem_of_getElem? hz)).1
  rw [e] at hr
  have := (List.pairwise_append.1 hr).2.1
  exact (List.pairwise_cons.1 this).1 z hm
theorem cnt_both (p : Pl → Bool) : ∀ L : List Pl, (L.filter p).length + (L.filter (fun x => !p x)).length = L.length
  | [] => rfl
  | x :: r => by
    have ih := cnt_both p r
    rw [List.filter_cons, List.filter_cons]
    cases p x <;> simp <;> omega
theorem cntP_both (p : Pl → Bool) {D : List Pl} {j : Nat} (hj : j ≤ D.length) : cntP (fun x => !p x) D j = j - cntP p D j := by
  have := cnt_both p (D.take j)
  unfold cntP
  simp at this ⊢
  omega
theorem inL_true (dr : Bool) (A D : List Pl) : inL true dr A D = D.filter (fun y => decide (0 < (opn dr A y.s).length)) := by
  unfold inL
  congr 1
  funext y
  simp
theorem inL_false (dr : Bool) (A D : List Pl) : inL false dr A D = D.filter (fun y => !decide (0 < (opn dr A y.s).length)) := by
  unfold inL
  congr 1
  funext y
  cases decide (0 < (opn dr A y.s).length) <;> rfl

end Go.Proofs.Ytafpfelgngniiaa
