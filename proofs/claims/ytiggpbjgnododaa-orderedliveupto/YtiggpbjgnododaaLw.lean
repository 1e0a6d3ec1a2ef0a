/- OrderedLive: its walk. -/
import Derived.Test.YtiggpbjgnododaaLs
import Derived.Test.YtiggpbjgnododaaRc
import Derived.Sort.CutIn
import Derived.Laws.MakeOwn
namespace Go.Proofs.Ytiggpbjgnododaa.L
open Go.RowKit Go.Shelf
open T (bel1 cell_at kf bel_drewN')
set_option linter.unusedVariables false
attribute [local go_sem] Oper.semAt_some

theorem made_zeros (n : Nat) : madeCells (Value.int .i64 0).cells (n * 1) = (ints (List.replicate n 0)).toArray := by
  apply Array.ext
  · simp [madeCells, ints]
  · intro i h1 h2
    simp [madeCells, ints, Value.cells, Nat.mod_one]

theorem make_table (W : World) (n n1 : Nat) (hn : n ≤ 4194304) (h1 : n1 = n + 1) : (Instr.makeSlice 55 (.int .i64 ((n : Int) + 1)) (.int .i64 ((n : Int) + 1))).run Try.prog W = .ok (.slice (some ⟨W.heap.size, 0, none⟩) n1 n1) (W.alloc (.cells (ints (List.replicate n1 0)).toArray 3)) := by
  subst h1
  have hinfo : ∃ i0, Try.prog.info? 3 = some i0 ∧ i0.zero = some (.int .i64 0) ∧ i0.size = 1 ∧ i0.bytes = 8 := I.infoE.parts
  obtain ⟨i0, hi0, hz0, hz1, hz2⟩ := hinfo
  have := run_makeSlice (P := Try.prog) (w := W) 55 3 i0 (.int .i64 0) Try.underlying55 hi0 hz0 .i64 .i64 ((n : Int) + 1) ((n : Int) + 1) (by omega) (by omega) (by rw [hz1]; omega) (by rw [hz2]; omega) (by omega)
  rw [this, hz1]
  have e : ((n : Int) + 1).toNat = n + 1 := by omega
  rw [e, made_zeros]

/-- A slice of bytes. -/
def IsBytes (w : World) (a : Option Addr) (n : Nat) : Prop :=
  ∀ i, i < n → ∃ b off v, a = some ⟨b, off, none⟩ ∧ b < w.heap.size ∧ w.cell? ⟨b, off + i, none⟩ = some (.int .u8 v) ∧ 0 ≤ v ∧ v ≤ 255

/-- The table under way: up to k it rises. -/
structure Tw (w : World) (n k : Nat) (t : List Int) (X : World) : Prop where
  res : X.heap[w.heap.size]? = some (.cells #[.bool false] 4 (0, 0))
  tab : Tab w.heap.size n t X
  siz : X.heap.size = w.heap.size + 3
  bel : Below w.heap.size w X
  low : ∀ i v, i ≤ k → t[i]? = some v → 0 ≤ v ∧ v ≤ 256 * (i : Int)
  ris : ∀ i u v, i < k → t[i]? = some u → t[i + 1]? = some v → u < v

theorem Tw.new (w : World) (n : Nat) : Tw w n 0 (List.replicate n 0) (((w.alloc (.cells #[.bool false] 4)).alloc (.cells (ints (List.replicate n 0)).toArray 3)).alloc (.cells #[.slice (some ⟨w.heap.size + 1, 0, none⟩) n n] 55)) := by
  have al : ∀ (X : World) (o : Obj) (k : Nat) (q : Obj), X.heap[k]? = some q → (X.alloc o).heap[k]? = some q := fun X o k q h => (Below.heap_alloc _ _ _ (Array.getElem?_eq_some_iff.1 h).1).trans h
  have at' : ∀ (X : World) (o : Obj) (k : Nat), k = X.heap.size → (X.alloc o).heap[k]? = some o := fun X o k hk => by subst hk; exact heap_alloc_new X o
  refine ⟨al _ _ _ _ (al _ _ _ _ (at' _ _ _ rfl)), ⟨al _ _ _ _ (at' _ _ _ (by simp)), at' _ _ _ (by simp), by simp⟩, by simp, (((Below.refl _ w).alloc (Nat.le_refl _) _).alloc (by simp) _).alloc (by simp; omega) _, fun i v hi hv => ?_, fun i u v hi => by omega⟩
  obtain rfl : i = 0 := by omega
  have := List.mem_of_getElem? hv
  simp at this
  omega

theorem tab_set {s n : Nat} {t : List Int} {X : World} (h : Tab s n t X) (k : Nat) (v : Int) : Tab s n (t.set k v) (X.setCell ⟨s + 1, k, none⟩ (.int .i64 v)) := by
  refine ⟨?_, (Below.heap_setCell _ _ _ _ (by show s + 2 ≠ s + 1; omega)).trans h.box, by simp [h.len]⟩
  simp only [World.setCell, Array.getElem?_modify, h.row]
  simp [ints, List.map_set]

theorem Tw.step {w X : World} {n k : Nat} {t : List Int} (h : Tw w n k t X) (hk : k + 1 < n) {u c : Int} (hu : t[k]? = some u) (h0 : 0 ≤ c) (h1 : c ≤ 255) (m : Nat) : Tw w n (k + 1) (t.set (k + 1) (u + 1 + c)) ((X.drewN m).setCell ⟨w.heap.size + 1, k + 1, none⟩ (.int .i64 (u + 1 + c))) := by
  have far : ∀ j, j ≠ w.heap.size + 1 → ((X.drewN m).setCell ⟨w.heap.size + 1, k + 1, none⟩ (.int .i64 (u + 1 + c))).heap[j]? = X.heap[j]? := fun j hj => Below.heap_setCell _ _ _ _ hj
  have hb := h.bel
  have hl := h.tab.len
  have lu := h.low k u (Nat.le_refl _) hu
  refine ⟨(far _ (by omega)).trans h.res, tab_set (X := X.drewN m) ⟨h.tab.row, h.tab.box, hl⟩ _ _, by simpa [World.setCell] using h.siz, ⟨hb.os, hb.tape, hb.output, by simpa [World.setCell] using hb.size, fun j hj => (far j (by omega)).trans (hb.block j hj)⟩, fun i v hi hv => ?_, fun i a v hi ha hv => ?_⟩
  · by_cases e : i = k + 1
    · subst e
      rw [List.getElem?_set_self (by omega)] at hv
      simp at hv
      omega
    · rw [List.getElem?_set_ne (by omega)] at hv
      exact h.low i v (by omega) hv
  · rw [List.getElem?_set_ne (by omega)] at ha
    by_cases e : i = k
    · subst e
      rw [List.getElem?_set_self (by omega)] at hv
      rw [hu] at ha
      simp at hv ha
      omega
    · rw [List.getElem?_set_ne (by omega)] at hv
      exact h.ris i a v (by omega) ha hv

theorem Tw.up {w X : World} {n k : Nat} {t : List Int} (hk : n = k + 1) (h : Tw w n k t X) : Up t := by
  unfold Up
  rw [List.pairwise_iff_getElem]
  have hl := h.tab.len
  have key : ∀ d i (hi : i < t.length) (hj : i + (d + 1) < t.length), t[i] < t[i + (d + 1)] := by
    intro d
    induction d with
    | zero => intro i hi hj; exact h.ris i _ _ (by omega) (List.getElem?_eq_getElem hi) (List.getElem?_eq_getElem hj)
    | succ d ih =>
      intro i hi hj
      have h1 := ih i hi (by omega)
      have h2 := h.ris (i + (d + 1)) _ _ (by omega) (List.getElem?_eq_getElem (by omega)) (List.getElem?_eq_getElem (i := i + (d + 1) + 1) (by omega))
      have e : i + (d + 1 + 1) = i + (d + 1) + 1 := by omega
      simp only [e]
      omega
  intro i j hi hj hij
  obtain ⟨d, rfl⟩ : ∃ d, j = i + (d + 1) := ⟨j - i - 1, by omega⟩
  exact key d i hi hj

end Go.Proofs.Ytiggpbjgnododaa.L
