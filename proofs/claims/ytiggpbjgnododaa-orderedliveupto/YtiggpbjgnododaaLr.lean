/- OrderedLive: the table is turned, and rises as it did. -/
import Derived.Test.YtiggpbjgnododaaLw
namespace Go.Proofs.Ytiggpbjgnododaa.L
open Go.RowKit Go.Shelf
open T (bel1 cell_at kf bel_drewN')
set_option linter.unusedVariables false

/-- One number of the table, turned. -/
def turnV (c : Int) (i : Nat) (v : Int) : Int := v * (1 + c) + (i : Int) - 1000

/-- The table, turned up to j. -/
structure Rs (w : World) (n : Nat) (t0 : List Int) (c : Int) (L : List Int) (j : Nat) (t : List Int) (X : World) : Prop where
  old : ∃ X0, Md w n t0 L L X0 ∧ Turn (fun b => b = w.heap.size + 1) X0 X
  tab : Tab w.heap.size n t X
  val : ∀ i v, t0[i]? = some v → t[i]? = some (if i < j then turnV c i v else v)

section
variable {w X : World} {n j : Nat} {t0 t L : List Int} {c : Int}

theorem Rs.new (h : Md w n t0 L L X) : Rs w n t0 c L 0 t0 X := ⟨⟨X, h, Turn.refl _ X⟩, h.tab, fun i v hv => by simpa using hv⟩

theorem Rs.step (h : Rs w n t0 c L j t X) (hj : j < n) {v : Int} (hv : t0[j]? = some v) (m : Nat) (x : Int) (hx : x = turnV c j v) : Rs w n t0 c L (j + 1) (t.set j x) ((X.drewN m).setCell ⟨w.heap.size + 1, j, none⟩ (.int .i64 x)) := by
  subst hx
  obtain ⟨X0, h1, h2⟩ := h.old
  have hl := h.tab.len
  refine ⟨⟨X0, h1, ⟨h2.os, h2.tape, h2.output, by simpa [World.setCell] using h2.size, fun k hk hne => (Below.heap_setCell _ _ _ _ hne).trans (h2.block k hk hne)⟩⟩, tab_set (X := X.drewN m) ⟨h.tab.row, h.tab.box, hl⟩ _ _, fun i u hu => ?_⟩
  by_cases e : i = j
  · subst e
    rw [hv] at hu
    cases hu
    rw [List.getElem?_set_self (by omega), if_pos (by omega)]
  · rw [List.getElem?_set_ne (by omega), h.val i u hu]
    congr 1
    by_cases e2 : i < j
    · rw [if_pos e2, if_pos (by omega)]
    · rw [if_neg e2, if_neg (by omega)]

theorem Rs.done (h : Rs w n t0 c L n t X) (hc : 0 ≤ c) : Md w n t L L X ∧ ∀ i v, t[i]? = some v → ∃ u, t0[i]? = some u ∧ v = turnV c i u := by
  obtain ⟨X0, h1, h2⟩ := h.old
  have hl := h.tab.len
  have hl0 := h1.tab.len
  have hs6 : w.heap.size + 6 ≤ X0.heap.size := (Array.getElem?_eq_some_iff.1 h1.dbx).1
  have hval : ∀ i v, t[i]? = some v → ∃ u, t0[i]? = some u ∧ v = turnV c i u := fun i v hv => by
    have hi := (List.getElem?_eq_some_iff.1 hv).1
    have h3 := h.val i _ (List.getElem?_eq_getElem (by omega))
    rw [hv, if_pos (by omega)] at h3
    cases h3
    exact ⟨_, List.getElem?_eq_getElem (by omega), rfl⟩
  have far : ∀ k, k < X0.heap.size → k ≠ w.heap.size + 1 → X.heap[k]? = X0.heap[k]? := fun k hk hne => h2.block k hk hne
  obtain ⟨a, cap, ed, ra, rc, p1, p2⟩ := h1.pair
  refine ⟨⟨(far _ (by omega) (by omega)).trans h1.res, h.tab, (far _ (by omega) (by omega)).trans h1.dbx, ⟨a, cap, ed, ra, rc, p1.of_blocks (far _ (by omega) (by omega)) (fun k hk => far k (own_block_lt p1.row k hk).2 (by have := (own_block_lt p1.row k hk).1; omega)), p2.of_blocks (far _ (by omega) (by omega)) (fun k hk => far k (own_block_lt p2.row k hk).2 (by have := (own_block_lt p2.row k hk).1; omega))⟩, T.turn_below h1.bel h2 (fun k hk => by have hk' : k = w.heap.size + 1 := hk; omega), ?_, h1.rise, h1.dom⟩, hval⟩
  unfold Up
  rw [List.pairwise_iff_getElem]
  intro i k hi hk hik
  obtain ⟨u, hu, e1⟩ := hval i _ (List.getElem?_eq_getElem hi)
  obtain ⟨u', hu', e2⟩ := hval k _ (List.getElem?_eq_getElem hk)
  have hlt := (up_iff h1.up hu hu').2 hik
  rw [e1, e2]
  unfold turnV
  have hm : u * (1 + c) ≤ u' * (1 + c) := Int.mul_le_mul_of_nonneg_right (by omega) (by omega)
  omega

theorem turn_bound {p i : Nat} {v : Int} (hp : p < 2) (hi : (i : Int) ≤ 1048577) (h0 : 0 ≤ c) (h1 : c ≤ 255) (B B' : Int) (hB : B' = 512 * B) (hB0 : 1073741824 ≤ B) (hv : -B ≤ v ∧ v ≤ B) : (-(256 * B) ≤ v * (1 + c) ∧ v * (1 + c) ≤ 256 * B) ∧ -B' ≤ turnV c i v ∧ turnV c i v ≤ B' := by
  have a1 : v * (1 + c) ≤ B * (1 + c) := Int.mul_le_mul_of_nonneg_right hv.2 (by omega)
  have a2 : (-B) * (1 + c) ≤ v * (1 + c) := Int.mul_le_mul_of_nonneg_right hv.1 (by omega)
  have a3 : B * (1 + c) ≤ B * 256 := Int.mul_le_mul_of_nonneg_left (by omega) (by omega)
  rw [Int.neg_mul] at a2
  unfold turnV
  omega
end

end Go.Proofs.Ytiggpbjgnododaa.L
