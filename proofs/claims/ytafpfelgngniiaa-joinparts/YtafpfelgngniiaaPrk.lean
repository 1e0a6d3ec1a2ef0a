/- Pairs as cells; the innermost of those that join, in plain. -/
import Derived.Test.YtafpfelgngniiaaTho2
namespace Go.Proofs.Ytafpfelgngniiaa
open Go.RowKit
set_option linter.unusedVariables false

theorem info46 : InfoOf Try.prog 46 (.agg #[.int .u64 0, .int .u64 0]) 2 16 := by unfold InfoOf; kernel_rfl
def prCells : List (Int × Int) → List Value
  | [] => []
  | x :: r => .int .u64 x.1 :: .int .u64 x.2 :: prCells r
theorem prCells_append : ∀ l m, prCells (l ++ m) = prCells l ++ prCells m
  | [], m => rfl
  | x :: r, m => by simp [prCells, prCells_append r m]
theorem prCells_length : ∀ l, (prCells l).length = l.length * 2
  | [] => rfl
  | x :: r => by simp [prCells, prCells_length r]; omega
theorem prCells_one : ∀ l, ∀ u ∈ prCells l, u.oneCell' = true
  | [], u, h => by simp [prCells] at h
  | p :: r, u, h => by
    simp only [prCells, List.mem_cons] at h
    rcases h with rfl | rfl | h
    · rfl
    · rfl
    · exact prCells_one r u h
theorem pr_news (w : World) (m n : Int) : ∀ j u, (prCells [(m, n)])[j]? = some u → ∃ ad, (some ⟨w.heap.size, 0, none⟩ : Option Addr) = some ad ∧ (w.alloc (.cells #[.int .u64 m, .int .u64 n] 46)).drew.cell? (ad.add j) = some u := by
  intro j u hu
  refine ⟨_, rfl, ?_⟩
  have e : (⟨w.heap.size, 0, none⟩ : Addr).add j = ⟨w.heap.size, j, none⟩ := by unfold Addr.add; split <;> simp_all
  have h := (isCells_new w #[.int .u64 m, .int .u64 n] 46).cell j
  rw [e]
  exact h.trans (by simpa [prCells] using hu)

/-- Of each of d that lies in some of a the innermost of these. -/
def nr1 (A : List Pl) (y : Pl) : Option (Int × Int) := match (opn false A y.s).getLast? with | none => none | some k => match A[k]? with | none => none | some x => some (x.n, y.n)
def nrL (A L : List Pl) : List (Int × Int) := L.filterMap (nr1 A)
theorem nrL_len (A L : List Pl) (i : Nat) : (nrL A (L.take i)).length ≤ L.length := Nat.le_trans (List.length_filterMap_le _ _) (by simp; omega)
theorem nrL_snoc {A L : List Pl} {i : Nat} {y : Pl} (h : L[i]? = some y) : nrL A (L.take (i + 1)) = nrL A (L.take i) ++ (nr1 A y).toList := by
  rw [take_snoc h]
  simp only [nrL, List.filterMap_append]
  cases e : nr1 A y <;> simp [e]
theorem opn_last {dr : Bool} {A : List Pl} {s : Sp} (h : 0 < (opn dr A s).length) : ∃ k x, (opn dr A s)[(opn dr A s).length - 1]? = some k ∧ (opn dr A s).getLast? = some k ∧ A[k]? = some x := by
  obtain ⟨k, hk⟩ : ∃ k, (opn dr A s)[(opn dr A s).length - 1]? = some k := ⟨_, List.getElem?_eq_getElem (by omega)⟩
  have hm := List.mem_of_getElem? hk
  simp only [opn, List.mem_filter, List.mem_range] at hm
  exact ⟨k, A[k]'hm.1, hk, by rw [List.getLast?_eq_getElem?]; exact hk, List.getElem?_eq_getElem hm.1⟩
def NeR (N B : Nat) (A D : List Pl) (a d : Option Addr) (ca cd : Nat) (W : World) : Prop := IsCells W N #[.slice a A.length ca] ∧ IsCells W (N + 1) #[.slice d D.length cd] ∧ PlsAt W B a A ∧ PlsAt W B d D
theorem NeR.ok {N B lb : Nat} {A D : List Pl} {a d : Option Addr} {ca cd : Nat} (hB : B ≤ N) (hl : N + 2 ≤ lb) : RxOk (NeR N B A D a d ca cd) (ThF N) B lb := by
  refine ⟨?_, ?_⟩
  · rintro b (h | h) <;> omega
  · rintro A W W' ⟨h1, h2, h3, h4⟩ t hA
    have hb : Below B W W' := t.below (by have := h1.lt; omega) (fun b hb => (hA b hb).1)
    exact ⟨h1.tn t (fun h => (hA _ h).2 (.inl rfl)), h2.tn t (fun h => (hA _ h).2 (.inr rfl)), h3.below hb (Nat.le_refl _), h4.below hb (Nat.le_refl _)⟩

end Go.Proofs.Ytafpfelgngniiaa
