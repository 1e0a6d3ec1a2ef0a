/- Merging in plain: lists merged by halves are the lists merged one behind the other; what two lists have in common. -/
import Derived.WalkKit
namespace Go.Proofs.Ytiggpbjgnododaa.T
set_option linter.unusedVariables false

def leB (x y : Int × Int) : Bool := decide (x.1 ≤ y.1)
/-- Two lists in one: of elements that are one the first list's come first. -/
def mg (a b : List (Int × Int)) : List (Int × Int) := List.merge a b leB

theorem mg_nil_left (b : List (Int × Int)) : mg [] b = b := by simp [mg]
theorem mg_nil_right (a : List (Int × Int)) : mg a [] = a := by simp [mg]
theorem mg_cons (x y : Int × Int) (a b : List (Int × Int)) : mg (x :: a) (y :: b) = if x.1 ≤ y.1 then x :: mg a (y :: b) else y :: mg (x :: a) b := by
  simp [mg, List.cons_merge_cons, leB]
theorem mg_le {x y : Int × Int} (a b : List (Int × Int)) (h : x.1 ≤ y.1) : mg (x :: a) (y :: b) = x :: mg a (y :: b) := by rw [mg_cons, if_pos h]
theorem mg_gt {x y : Int × Int} (a b : List (Int × Int)) (h : ¬ x.1 ≤ y.1) : mg (x :: a) (y :: b) = y :: mg (x :: a) b := by rw [mg_cons, if_neg h]

theorem mg_length : ∀ (a b : List (Int × Int)), (mg a b).length = a.length + b.length := by
  intro a b
  unfold mg
  exact List.length_merge _ _ _

theorem mg_assoc : ∀ (a b c : List (Int × Int)), mg (mg a b) c = mg a (mg b c)
  | [], b, c => by rw [mg_nil_left, mg_nil_left]
  | x :: a, [], c => by rw [mg_nil_right, mg_nil_left]
  | x :: a, y :: b, [] => by rw [mg_nil_right, mg_nil_right]
  | x :: a, y :: b, z :: c => by
    have i1 := mg_assoc a (y :: b) (z :: c)
    have i2 := mg_assoc (x :: a) b (z :: c)
    have i3 := mg_assoc (x :: a) (y :: b) c
    by_cases h1 : x.1 ≤ y.1
    · rw [mg_le a b h1] at i3 ⊢
      by_cases h2 : x.1 ≤ z.1
      · rw [mg_le _ _ h2, i1]
        by_cases h3 : y.1 ≤ z.1
        · rw [mg_le b c h3, mg_le _ _ h1]
        · rw [mg_gt b c h3, mg_le _ _ h2]
      · rw [mg_gt _ _ h2, mg_gt b c (by omega), mg_gt _ _ h2, ← i3]
    · rw [mg_gt a b h1] at i3 ⊢
      by_cases h3 : y.1 ≤ z.1
      · rw [mg_le _ _ h3, mg_le b c h3, mg_gt _ _ h1, i2]
      · rw [mg_gt _ _ h3, mg_gt b c h3, mg_gt _ _ (by omega), ← i3]
termination_by a b c => a.length + b.length + c.length

/-- All of several lists. -/
def mgs (LL : List (List (Int × Int))) : List (Int × Int) := LL.foldl mg []

theorem mg_fold : ∀ (LL : List (List (Int × Int))) (r : List (Int × Int)), LL.foldl mg r = mg r (mgs LL)
  | [], r => by simp [mgs, mg_nil_right]
  | l :: LL, r => by
    have h1 := mg_fold LL (mg r l)
    have h2 := mg_fold LL (mg [] l)
    rw [mg_nil_left] at h2
    simp only [mgs, List.foldl_cons, mg_nil_left] at h1 h2 ⊢
    rw [h1, h2, mg_assoc]

theorem mgs_nil : mgs [] = [] := rfl
theorem mgs_one (l : List (Int × Int)) : mgs [l] = l := by simp [mgs, mg_nil_left]
theorem mgs_append (A B : List (List (Int × Int))) : mgs (A ++ B) = mg (mgs A) (mgs B) := by
  conv => lhs; unfold mgs
  rw [List.foldl_append, mg_fold]
  rfl
theorem mgs_half (LL : List (List (Int × Int))) (h : Nat) : mgs LL = mg (mgs (LL.take h)) (mgs (LL.drop h)) := by rw [← mgs_append, List.take_append_drop]
theorem mgs_snoc (LL : List (List (Int × Int))) (l : List (Int × Int)) : mgs (LL ++ [l]) = mg (mgs LL) l := by rw [mgs_append, mgs_one]

def tot (LL : List (List (Int × Int))) : Nat := (LL.map List.length).sum
theorem tot_append (A B : List (List (Int × Int))) : tot (A ++ B) = tot A + tot B := by simp [tot]
theorem tot_nil : tot [] = 0 := rfl
theorem tot_one (l : List (Int × Int)) : tot [l] = l.length := by simp [tot]
theorem mgs_length : ∀ (LL : List (List (Int × Int))), (mgs LL).length = tot LL
  | [] => rfl
  | l :: LL => by
    have h := mgs_append [l] LL
    have h2 := tot_append [l] LL
    simp only [List.singleton_append] at h h2
    rw [h, h2, mg_length, mgs_one, mgs_length LL, tot_one]

/-- No element is less than the one ahead. -/
def risesB (L : List (Int × Int)) : Bool := (List.range (L.length - 1)).all fun i => match L[i]?, L[i + 1]? with
  | some x, some y => decide (¬ y.1 < x.1)
  | _, _ => true

/-- What those of a list have with which one of another is one. -/
def com : List (Int × Int) → List (Int × Int) → List (Int × Int)
  | [], _ => []
  | x :: a, b =>
    match b.dropWhile (fun y => decide (y.1 < x.1)) with
    | [] => com a []
    | y :: b' => if x.1 < y.1 then com a (y :: b') else x :: com a (y :: b')

end Go.Proofs.Ytiggpbjgnododaa.T
