/- OrderedLive: a table that rises; the order that it tells. -/
import Derived.Test.YtiggpbjgnododaaIt
import Derived.Test.YtiggpbjgnododaaTwh
namespace Go.Proofs.Ytiggpbjgnododaa.L
open Go.RowKit Go.Shelf
open T (bel1 cell_at kf bel_drewN')
set_option linter.unusedVariables false

def ints (t : List Int) : List Value := t.map (Value.int .i64)

/-- The table in memory. -/
structure Tab (s n : Nat) (t : List Int) (X : World) : Prop where
  row : X.heap[s + 1]? = some (.cells (ints t).toArray 3 (0, 0))
  box : X.heap[s + 2]? = some (.cells #[.slice (some ⟨s + 1, 0, none⟩) n n] 55 (0, 0))
  len : t.length = n

theorem Tab.at {s n : Nat} {t : List Int} {X : World} (h : Tab s n t X) {i : Nat} {v : Int} (hv : t[i]? = some v) : X.cell? ⟨s + 1, i, none⟩ = some (.int .i64 v) := by
  rw [cell_at h.row]
  simp [ints, hv]

theorem Tab.of {s n : Nat} {t : List Int} {X Y : World} (h : Tab s n t X) (h1 : Y.heap[s + 1]? = X.heap[s + 1]?) (h2 : Y.heap[s + 2]? = X.heap[s + 2]?) : Tab s n t Y := ⟨h1.trans h.row, h2.trans h.box, h.len⟩
theorem Tab.lt {s n : Nat} {t : List Int} {X : World} (h : Tab s n t X) : s + 2 < X.heap.size := (Array.getElem?_eq_some_iff.1 h.box).1
theorem Tab.below {s n : Nat} {t : List Int} {X Y : World} (h : Tab s n t X) (hb : Below X.heap.size X Y) : Tab s n t Y := h.of (hb.block _ (by have := h.lt; omega)) (hb.block _ h.lt)

def Up (t : List Int) : Prop := t.Pairwise (· < ·)

theorem up_iff {t : List Int} (h : Up t) {i j : Nat} {a b : Int} (hi : t[i]? = some a) (hj : t[j]? = some b) : a < b ↔ i < j := by
  obtain ⟨hi1, rfl⟩ := List.getElem?_eq_some_iff.1 hi
  obtain ⟨hj1, rfl⟩ := List.getElem?_eq_some_iff.1 hj
  unfold Up at h
  rw [List.pairwise_iff_getElem] at h
  constructor
  · intro hab
    rcases Nat.lt_trichotomy i j with e | e | e
    · exact e
    · subst e; omega
    · have := h j i hj1 hi1 e; omega
  · exact fun e => h i j hi1 hj1 e

set_option maxRecDepth 100000 in
set_option maxHeartbeats 1000000 in
theorem less_any (W : World) (s n : Nat) (t : List Int) (i j : Nat) (h : Tab s n t W) (hu : Up t) (hi : i < n) (hj : j < n) (hn : n ≤ 4194304) :
    Calls Try.prog 24 #[.int .i64 (i : Int), .int .i64 (j : Int), .pointer (some ⟨s + 2, 0, none⟩)] W fun e W' => e = .returned (.bool (decide ((i : Int) < (j : Int)))) ∧ ∃ m, W' = W.drewN m := by
  have hl := h.len
  obtain ⟨a, ha⟩ : ∃ a, t[i]? = some a := ⟨_, List.getElem?_eq_getElem (by omega)⟩
  obtain ⟨b, hb⟩ : ∃ b, t[j]? = some b := ⟨_, List.getElem?_eq_getElem (by omega)⟩
  have c0 : W.cell? ⟨s + 2, 0, none⟩ = some (.slice (some ⟨s + 1, 0, none⟩) n n) := cell_at h.box 0
  have c1 : W.cell? ⟨s + 1, i, none⟩ = some (.int .i64 a) := h.at ha
  have c2 : W.cell? ⟨s + 1, j, none⟩ = some (.int .i64 b) := h.at hb
  have Hab : Hid (a < b ↔ i < j) := up_iff hu ha hb
  have hi1 : (i : Int) < (n : Int) := by omega
  have hj1 : (j : Int) < (n : Int) := by omega
  have hi2 : (0 : Int) ≤ (i : Int) := by omega
  have hj2 : (0 : Int) ≤ (j : Int) := by omega
  have hn2 : (n : Int) ≤ 4194304 := by omega
  clear h hu ha hb hl
  go_enter Try.func24, Try.ntmps24
  go_wp2
  go_quiet (fail)
  go_wp2
  go_ret
  exact ⟨congrArg _ (v_bool (by rw [Bool.eq_iff_iff]; simp; have := Hab.out; omega)), _, rfl⟩

theorem less_is (W : World) (s n : Nat) (t : List Int) (h : Tab s n t W) (hu : Up t) (hn : n ≤ 4194304) : I.Less W 24 #[.pointer (some ⟨s + 2, 0, none⟩)] (ltK id) (fun x => 0 ≤ x ∧ x < (n : Int)) := by
  refine ⟨enters_of Try.func24 (by kernel_rfl) rfl, fun V hV x y hx hy => ?_⟩
  obtain ⟨i, rfl⟩ : ∃ i : Nat, x = (i : Int) := ⟨x.toNat, by omega⟩
  obtain ⟨j, rfl⟩ : ∃ j : Nat, y = (j : Int) := ⟨y.toNat, by omega⟩
  refine (less_any V s n t i j (h.below hV) hu (by omega) (by omega) hn).mono ?_
  rintro e V' ⟨he, m, rfl⟩
  exact ⟨he, bel_drewN' (Below.refl _ _) m⟩

/-- The document's items. -/
def its (L : List Int) : List (Int × Int) := L.map fun k => (k, 0)
theorem its_length (L : List Int) : (its L).length = L.length := by simp [its]
theorem rk_its (L : List Int) (x : Int) : rk kf (its L) x = rk id L x := by
  simp only [rk, its, List.filter_map, List.length_map]
  rfl
theorem rise_its {L : List Int} (h : Rise id L) : Rise kf (its L) := by
  unfold Rise its
  rw [List.pairwise_map]
  exact h
theorem its_at (L : List Int) (i : Nat) : (its L)[i]? = (L[i]?).map fun k => (k, 0) := by simp [its]

theorem has_its {L : List Int} (h : Rise id L) (x : Int) : T.hasB (its L) x = I.thereB (ltK id) L x (rk id L x) := by
  have h1 := I.there_iff h x
  rw [Bool.eq_iff_iff, T.hasB_iff (rise_its h)]
  refine Iff.trans ?_ h1.symm
  constructor
  · rintro ⟨y, hy, e⟩
    simp only [its, List.mem_map] at hy
    obtain ⟨k, hk, rfl⟩ := hy
    exact ⟨k, hk, e⟩
  · rintro ⟨y, hy, e⟩
    exact ⟨(y, 0), by simp only [its, List.mem_map]; exact ⟨y, hy, rfl⟩, e⟩

theorem put_its {L : List Int} (h : Rise id L) (x : Int) : T.rputE (its L) (x, 0) = I.putE (ltK id) L x (rk id L x) ∧ T.rputL (its L) (x, 0) = its (I.putL (ltK id) L x (rk id L x)) := by
  unfold T.rputE T.rputL I.putE I.putL
  simp only [has_its h, its_length, rk_its, true_and]
  split
  · rfl
  · split
    · rfl
    · simp [its, List.map_take, List.map_drop]

theorem rise_putL {L : List Int} (h : Rise id L) (x : Int) : Rise id (I.putL (ltK id) L x (rk id L x)) := by
  unfold I.putL
  split
  · exact h
  · rename_i h'
    split
    · exact h
    · exact rise_put id h x (fun hx => h' (by have := (I.there_iff h x).2 hx; exact this))

theorem dom_putL {L : List Int} {x : Int} {k : Nat} {p : Int → Prop} (h : ∀ y ∈ L, p y) (hx : p x) : ∀ y ∈ I.putL (ltK id) L x k, p y := by
  unfold I.putL
  intro y hy
  split at hy
  · exact h y hy
  · split at hy
    · exact h y hy
    · simp only [List.mem_append, List.mem_singleton] at hy
      rcases hy with (hy | hy) | hy
      · exact h y (List.mem_of_mem_take hy)
      · subst hy; exact hx
      · exact h y (List.mem_of_mem_drop hy)

end Go.Proofs.Ytiggpbjgnododaa.L
