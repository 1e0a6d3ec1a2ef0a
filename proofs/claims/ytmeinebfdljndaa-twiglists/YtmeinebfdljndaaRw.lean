/- Spans in rows. -/
import Derived.Test.YtmeinebfdljndaaThr
import Derived.Test.YtmeinebfdljndaaRel
namespace Go.Proofs.Ytmeinebfdljndaa
open Go.RowKit
set_option linter.unusedVariables false

/-- Spans in a row, from a block's beginning on. -/
def StkAt (w : World) (a : Option Addr) (st : List Sp) : Prop :=
  ∀ i x, st[i]? = some x → ∃ g, a = some ⟨g, 0, none⟩ ∧ g < w.heap.size ∧ w.cell? ⟨g, i * 3, none⟩ = some (.int .u64 x.b) ∧ w.cell? ⟨g, i * 3 + 1, none⟩ = some (.int .u64 x.e) ∧ w.cell? ⟨g, i * 3 + 2, none⟩ = some (.int .i64 x.l)

theorem take_snoc {α : Type} {st : List α} {n : Nat} {x : α} (h : st[n]? = some x) : st.take (n + 1) = st.take n ++ [x] := by
  have hlt := (List.getElem?_eq_some_iff.1 h).1
  rw [List.take_succ_eq_append_getElem hlt, (List.getElem?_eq_some_iff.1 h).2]

def spCells : List Sp → List Value
  | [] => []
  | x :: r => .int .u64 x.b :: .int .u64 x.e :: .int .i64 x.l :: spCells r
theorem spCells_length : ∀ l, (spCells l).length = l.length * 3
  | [] => rfl
  | x :: r => by simp [spCells, spCells_length r]; omega
theorem spCells_one : ∀ l, ∀ u ∈ spCells l, u.oneCell' = true
  | [], u, h => by simp [spCells] at h
  | p :: r, u, h => by
    simp only [spCells, List.mem_cons] at h
    rcases h with rfl | rfl | rfl | h
    · rfl
    · rfl
    · rfl
    · exact spCells_one r u h
theorem spCells_append : ∀ l m, spCells (l ++ m) = spCells l ++ spCells m
  | [], m => rfl
  | x :: r, m => by simp [spCells, spCells_append r m]
theorem spCells_take : ∀ (l : List Sp) (m : Nat), spCells (l.take m) = (spCells l).take (m * 3)
  | [], m => by simp [spCells]
  | x :: r, 0 => by simp [spCells]
  | x :: r, m + 1 => by
    rw [show (m + 1) * 3 = m * 3 + 3 from by omega]
    simp [spCells, spCells_take r m]
theorem spCells_get : ∀ (l : List Sp) (i : Nat) (x : Sp), l[i]? = some x → (spCells l)[i * 3]? = some (.int .u64 x.b) ∧ (spCells l)[i * 3 + 1]? = some (.int .u64 x.e) ∧ (spCells l)[i * 3 + 2]? = some (.int .i64 x.l)
  | [], i, x, h => by simp at h
  | y :: r, 0, x, h => by
    simp at h
    subst h
    exact ⟨rfl, rfl, rfl⟩
  | y :: r, i + 1, x, h => by
    have := spCells_get r i x (by simpa using h)
    rw [show (i + 1) * 3 = i * 3 + 3 from by omega]
    simpa [spCells] using this

theorem row_stk {w : World} {base : Nat} {e : TypeId} {a : Option Addr} {cap : Nat} {st : List Sp} (h : w.ownsRow base e 3 (.slice a st.length cap) st.length (spCells st)) : StkAt w a st ∧ st.length ≤ cap := by
  obtain ⟨hc, hl, hcell⟩ := row_cell h
  refine ⟨fun i x hx => ?_, hc⟩
  obtain ⟨g1, g2, g3⟩ := spCells_get st i x hx
  obtain ⟨g, rfl, hb, hlt, c1⟩ := hcell _ _ g1
  obtain ⟨g', e', _, _, c2⟩ := hcell _ _ g2
  cases e'
  obtain ⟨g', e', _, _, c3⟩ := hcell _ _ g3
  cases e'
  exact ⟨g, rfl, hlt, c1, c2, c3⟩

theorem own_take {w : World} {base : Nat} {e : TypeId} {size : Nat} {a : Option Addr} {n m cap : Nat} {xs : List Value} (h : w.ownsRow base e size (.slice a n cap) n xs) (hm : m ≤ n) : w.ownsRow base e size (.slice a m cap) m (xs.take (m * size)) := by
  have hms : m * size ≤ n * size := Nat.mul_le_mul_right _ hm
  refine ⟨by rw [List.length_take, h.1]; omega, ?_⟩
  rcases h.2 with ⟨e1, e2⟩ | ⟨g, cap', cur, e1, hb, hh, h1, h2, h3, h4⟩
  · simp only [Value.slice.injEq] at e1
    obtain ⟨rfl, _, rfl⟩ := e1
    have : m = 0 := by omega
    subst this
    exact .inl ⟨rfl, rfl⟩
  · simp only [Value.slice.injEq, true_and] at e1
    obtain ⟨rfl, rfl⟩ := e1
    exact .inr ⟨g, cap, cur, rfl, hb, hh, by omega, h2, h3, by rw [← h4, List.take_take, Nat.min_eq_left hms]⟩

theorem one_news (w : World) (x : Sp) : ∀ j u, (spCells [x])[j]? = some u → ∃ ad, (some ⟨w.heap.size, 0, none⟩ : Option Addr) = some ad ∧ (w.alloc (.cells #[.int .u64 x.b, .int .u64 x.e, .int .i64 x.l] 36)).cell? (ad.add j) = some u := by
  intro j u hu
  refine ⟨_, rfl, ?_⟩
  have e : (⟨w.heap.size, 0, none⟩ : Addr).add j = ⟨w.heap.size, j, none⟩ := by unfold Addr.add; split <;> simp_all
  rw [e, (isCells_new w _ 36).cell]
  simpa [spCells] using hu
theorem info39 : InfoOf Try.prog 36 (.agg #[.int .u64 0, .int .u64 0, .int .i64 0]) 3 24 := by unfold InfoOf; kernel_rfl


theorem own_tn {A : Nat → Prop} {w w' : World} {base : Nat} {e : TypeId} {size : Nat} {v : Value} {n : Nat} {xs : List Value} (h : w.ownsRow base e size v n xs) (t : Tn A w w') (hA : ∀ k, v.ownBlock = some k → ¬ A k) : w'.ownsRow base e size v n xs :=
  own_of_block h (fun k hk => t.block k (own_block_lt h k hk).2 (hA k hk))
theorem IsCells.set1 {w : World} {b : Nat} {u u' : Value} (h : IsCells w b #[u]) : IsCells (w.setCell ⟨b, 0, none⟩ u') b #[u'] := by
  have := h.set 0 u'
  simpa using this
theorem Tn.one (w : World) (b o : Nat) (v : Value) : Tn (fun k => k = b) w (w.setCell ⟨b, o, none⟩ v) := (Tn.refl (fun k => k = b) w).set (p := ⟨b, o, none⟩) (.inl rfl) v
theorem Tn.bel {w : World} (u : Bel w) : Tn (fun _ => False) w u.w := Tn.of_below u.h (Nat.le_refl _)

end Go.Proofs.Ytmeinebfdljndaa
