/- Elements that rise by a key, in plain: how many are less, which one is there, one put in. -/
import Derived.WalkKit
namespace Go.Proofs.Ytiggpbjgnododaa
set_option linter.unusedVariables false

section
variable {α : Type} (key : α → Int)

/-- They rise, no two with one key. -/
def Rise (L : List α) : Prop := L.Pairwise (fun a b => key a < key b)
/-- How many are less. -/
def rk (L : List α) (x : Int) : Nat := (L.filter fun y => decide (key y < x)).length
def ltK (a b : α) : Bool := decide (key a < key b)

theorem rk_le (L : List α) (x : Int) : rk key L x ≤ L.length := List.length_filter_le _ _
theorem rk_nil (x : Int) : rk key [] x = 0 := rfl

theorem rk_none {L : List α} {x : Int} (h : ∀ y ∈ L, ¬ key y < x) : rk key L x = 0 := by
  unfold rk
  rw [List.length_eq_zero_iff, List.filter_eq_nil_iff]
  intro y hy
  simpa using h y hy

theorem rise_cut : ∀ {L : List α}, Rise key L → ∀ {x : Int} {i : Nat} {y : α}, L[i]? = some y → (i < rk key L x ↔ key y < x)
  | [], _, _, i, y, h => by simp at h
  | a :: L, hr, x, i, y, h => by
    obtain ⟨h1, h2⟩ := List.pairwise_cons.1 hr
    by_cases ha : key a < x
    · have e : rk key (a :: L) x = rk key L x + 1 := by simp [rk, ha]
      rw [e]
      cases i with
      | zero =>
        simp at h
        subst h
        exact ⟨fun _ => ha, fun _ => by omega⟩
      | succ i =>
        simp at h
        have ih := rise_cut h2 (x := x) h
        rw [← ih]
        omega
    · have h0 : ∀ z ∈ a :: L, ¬ key z < x := by
        intro z hz
        rcases List.mem_cons.1 hz with rfl | hz
        · exact ha
        · have := h1 z hz
          omega
      rw [rk_none key h0]
      exact ⟨fun h => by omega, fun h' => absurd h' (h0 y (List.mem_of_getElem? h))⟩

theorem rise_at {L : List α} (hr : Rise key L) {y : α} (hy : y ∈ L) : L[rk key L (key y)]? = some y := by
  obtain ⟨i, hi⟩ := List.mem_iff_getElem?.1 hy
  have h1 : ¬ i < rk key L (key y) := fun h => by have := (rise_cut key hr hi).1 h; omega
  have h2 : ¬ rk key L (key y) < i := fun h => by
    have hl : rk key L (key y) < L.length := by have := (List.getElem?_eq_some_iff.1 hi).1; omega
    have hn : ¬ rk key L (key y) < rk key L (key y) := by omega
    rw [rise_cut key hr (List.getElem?_eq_getElem hl)] at hn
    have hp := List.pairwise_iff_getElem.1 hr (rk key L (key y)) i hl (List.getElem?_eq_some_iff.1 hi).1 h
    have he := (List.getElem?_eq_some_iff.1 hi).2
    rw [he] at hp
    omega
  have e : i = rk key L (key y) := by omega
  rw [← e]
  exact hi

/-- Whether one of that key is there. -/
theorem rise_there {L : List α} (hr : Rise key L) (x : Int) : (∃ y, L[rk key L x]? = some y ∧ ¬ x < key y) ↔ ∃ y ∈ L, key y = x := by
  constructor
  · rintro ⟨y, hy, hn⟩
    have : ¬ rk key L x < rk key L x := by omega
    rw [rise_cut key hr hy] at this
    exact ⟨y, List.mem_of_getElem? hy, by omega⟩
  · rintro ⟨y, hy, rfl⟩
    exact ⟨y, rise_at key hr hy, by omega⟩

theorem rise_take {L : List α} (hr : Rise key L) (x : Int) : ∀ y ∈ L.take (rk key L x), key y < x := by
  intro y hy
  obtain ⟨i, hi⟩ := List.mem_iff_getElem?.1 hy
  rw [List.getElem?_take] at hi
  split at hi
  · rename_i hlt
    exact (rise_cut key hr hi).1 hlt
  · cases hi

theorem rise_drop {L : List α} (hr : Rise key L) (x : Int) : ∀ y ∈ L.drop (rk key L x), x ≤ key y := by
  intro y hy
  obtain ⟨i, hi⟩ := List.mem_iff_getElem?.1 hy
  rw [List.getElem?_drop] at hi
  have := rise_cut key hr (x := x) hi
  have h2 : ¬ (rk key L x + i < rk key L x) := by omega
  rw [this] at h2
  omega

/-- One more, in its place. -/
theorem rise_put {L : List α} (hr : Rise key L) (v : α) (hn : ¬ ∃ y ∈ L, key y = key v) : Rise key (L.take (rk key L (key v)) ++ [v] ++ L.drop (rk key L (key v))) := by
  have h1 := rise_take key hr (key v)
  have h2 := rise_drop key hr (key v)
  have h3 : ∀ y ∈ L.drop (rk key L (key v)), key v < key y := fun y hy => by
    have := h2 y hy
    have h4 : key y ≠ key v := fun e => hn ⟨y, List.mem_of_mem_drop hy, e⟩
    omega
  unfold Rise at *
  rw [List.pairwise_append, List.pairwise_append]
  refine ⟨⟨hr.sublist (List.take_sublist _ _), List.pairwise_singleton _ _, ?_⟩, hr.sublist (List.drop_sublist _ _), ?_⟩
  · intro a ha b hb
    simp at hb
    subst hb
    exact h1 a ha
  · intro a ha b hb
    have hb' := h3 b hb
    rcases List.mem_append.1 ha with ha | ha
    · have := h1 a ha
      omega
    · simp at ha
      subst ha
      exact hb'

theorem put_perm (L : List α) (k : Nat) (v : α) : (L.take k ++ [v] ++ L.drop k).Perm (v :: L) := by
  have h1 : (L.take k ++ [v] ++ L.drop k).Perm ([v] ++ L.take k ++ L.drop k) := List.Perm.append_right _ List.perm_append_comm
  have h2 : [v] ++ L.take k ++ L.drop k = v :: L := by simp
  rw [h2] at h1
  exact h1

theorem rk_perm {L M : List α} (h : L.Perm M) (x : Int) : rk key L x = rk key M x := (h.filter _).length_eq

/-- One less. -/
theorem rise_del {L : List α} (hr : Rise key L) (k : Nat) : Rise key (L.take k ++ L.drop (k + 1)) := by
  refine hr.sublist ?_
  have h1 : (L.take k ++ L.drop (k + 1)).Sublist (L.take k ++ L.drop k) := List.Sublist.append (List.Sublist.refl _) (by
    rw [show L.drop (k + 1) = (L.drop k).drop 1 by rw [List.drop_drop]]
    exact List.drop_sublist _ _)
  rwa [List.take_append_drop] at h1

end

end Go.Proofs.Ytiggpbjgnododaa
