/- OrderedLive: what is there: a list of ints by the table, the document's list; one put into both. -/
import Derived.Test.YtiggpbjgnododaaLv
namespace Go.Proofs.Ytiggpbjgnododaa.L
open Go.RowKit Go.Shelf
open T (bel1 cell_at kf bel_drewN')
set_option linter.unusedVariables false

theorem own_cells3 {X : World} {B n : Nat} {v : Value} {xs : List Value} (h : X.ownsRow B 3 1 v n xs) {k : Nat} (hk : v.ownBlock = some k) : ∃ cs, X.heap[k]? = some (.cells cs 3 (0, 0)) := by
  rcases h.2 with ⟨e, _⟩ | ⟨g', cap', cur, e, _, hh, _⟩
  · rw [e] at hk; cases hk
  · rw [e] at hk
    simp only [Value.ownBlock, Option.some.injEq] at hk
    subst hk
    exact ⟨_, hh⟩

/-- The list of ints holds L, the document's D. -/
structure Md (w : World) (n : Nat) (t : List Int) (L D : List Int) (X : World) : Prop where
  res : X.heap[w.heap.size]? = some (.cells #[.bool false] 4 (0, 0))
  tab : Tab w.heap.size n t X
  dbx : X.heap[w.heap.size + 5]? = some (.cells #[.pointer (some ⟨w.heap.size + 4, 0, none⟩)] 30 (0, 0))
  pair : ∃ a cap ed ra rc, I.LAt X (w.heap.size + 6) (w.heap.size + 3) 24 #[.pointer (some ⟨w.heap.size + 2, 0, none⟩)] L a cap false ed ∧ T.RAt X (w.heap.size + 6) (w.heap.size + 4) (its D) ra rc
  bel : Below w.heap.size w X
  up : Up t
  rise : Rise id L
  dom : ∀ y ∈ L, 0 ≤ y ∧ y < (n : Int)

section
variable {w X Y : World} {n : Nat} {t L D : List Int}

theorem Md.below (h : Md w n t L D X) (hb : Below X.heap.size X Y) : Md w n t L D Y := by
  obtain ⟨a, cap, ed, ra, rc, h1, h2⟩ := h.pair
  exact ⟨(hb.block _ (Array.getElem?_eq_some_iff.1 h.res).1).trans h.res, h.tab.below hb, (hb.block _ (Array.getElem?_eq_some_iff.1 h.dbx).1).trans h.dbx, ⟨a, cap, ed, ra, rc, h1.below hb, h2.below hb⟩, h.bel.trans (hb.mono h.bel.size), h.up, h.rise, h.dom⟩

theorem Md.put (h : Md w n t L L X) (hn : n ≤ 4194304) (x : Int) (hx : 0 ≤ x ∧ x < (n : Int)) :
    Calls Try.prog 25 #[.pointer (some ⟨w.heap.size + 3, 0, none⟩), .int .i64 x] X fun e Y => e = .returned (.int .i64 (I.putE (ltK id) L x (rk id L x))) ∧ Md w n t (I.putL (ltK id) L x (rk id L x)) L Y := by
  obtain ⟨a, cap, ed, ra, rc, h1, h2⟩ := h.pair
  have hs6 : w.heap.size + 6 ≤ X.heap.size := (Array.getElem?_eq_some_iff.1 h.dbx).1
  refine (I.put_any X _ _ 24 _ L a cap ed (ltK id) _ x (rk id L x) h1 hs6 (less_is X _ n t h.tab h.up hn) hx h.dom (I.cut_of h.rise x)).mono ?_
  rintro e Y ⟨he, a', cap', ed', q1, q2, q3⟩
  have far : ∀ k, k < w.heap.size + 6 → k ≠ w.heap.size + 3 → Y.heap[k]? = X.heap[k]? := fun k hk hne => q2.block k (by omega) (by
    rintro (e | e)
    · exact hne e
    · have := (own_block_lt h1.row k e).1; omega)
  refine ⟨he, (far _ (by omega) (by omega)).trans h.res, h.tab.of (far _ (by omega) (by omega)) (far _ (by omega) (by omega)), (far _ (by omega) (by omega)).trans h.dbx, ⟨a', cap', ed', ra, rc, q1, h2.of_blocks (far _ (by omega) (by omega)) (fun k hk => q2.block k (own_block_lt h2.row k hk).2 ?_)⟩, T.turn_below h.bel q2 (fun k hk => ?_), h.up, rise_putL h.rise x, dom_putL h.dom hx⟩
  · have := (own_block_lt h2.row k hk).1
    rintro (e | e)
    · omega
    · obtain ⟨c1, e1⟩ := own_cells3 h1.row e
      obtain ⟨c2, e2⟩ := T.own_cells h2.row hk
      rw [e1] at e2
      simp at e2
  · rcases hk with e | e
    · omega
    · have := (own_block_lt h1.row k e).1; omega

theorem Md.rput (x : Int) (h : Md w n t (I.putL (ltK id) L x (rk id L x)) L X) (hr : Rise id L) :
    Calls Try.prog 16 #[.pointer (some ⟨w.heap.size + 4, 0, none⟩), .agg #[.int .i64 x, .int .i64 0]] X fun e Y => e = .returned (.int .i64 (I.putE (ltK id) L x (rk id L x))) ∧ Md w n t (I.putL (ltK id) L x (rk id L x)) (I.putL (ltK id) L x (rk id L x)) Y := by
  obtain ⟨a, cap, ed, ra, rc, h1, h2⟩ := h.pair
  have hs6 : w.heap.size + 6 ≤ X.heap.size := (Array.getElem?_eq_some_iff.1 h.dbx).1
  obtain ⟨p1, p2⟩ := put_its hr x
  have hc := T.rput_any X _ _ (its L) ra rc (x, 0) h2 (rise_its hr) hs6
  rw [p1, p2] at hc
  refine hc.mono ?_
  rintro e Y ⟨he, ra', rc', q1, q2, q3⟩
  have far : ∀ k, k < X.heap.size → k ≠ w.heap.size + 4 → Y.heap[k]? = X.heap[k]? := fun k hk hne => q2.block k hk hne
  exact ⟨he, (far _ (by omega) (by omega)).trans h.res, h.tab.of (far _ (by omega) (by omega)) (far _ (by omega) (by omega)), (far _ (by omega) (by omega)).trans h.dbx, ⟨a, cap, ed, ra', rc', h1.of_blocks (far _ (by omega) (by omega)) (fun k hk => far k (own_block_lt h1.row k hk).2 (by have := (own_block_lt h1.row k hk).1; omega)), q1⟩, T.turn_below h.bel q2 (fun k hk => by have hk' : k = w.heap.size + 4 := hk; omega), h.up, h.rise, h.dom⟩

theorem Md.rank (h : Md w n t L D X) (hn : n ≤ 4194304) (x : Int) (hx : 0 ≤ x ∧ x < (n : Int)) :
    Calls Try.prog 26 #[.pointer (some ⟨w.heap.size + 3, 0, none⟩), .int .i64 x] X fun e Y => e = .returned (.int .i64 (rk id L x : Int)) ∧ Md w n t L D Y := by
  obtain ⟨a, cap, ed, ra, rc, h1, h2⟩ := h.pair
  refine (I.rank_any X _ _ 24 _ L a cap false ed (ltK id) _ x (rk id L x) h1 (less_is X _ n t h.tab h.up hn) hx h.dom (I.cut_of h.rise x)).mono ?_
  rintro e Y ⟨he, hb⟩
  exact ⟨he, h.below hb⟩

theorem Md.rrank (h : Md w n t L L X) (x : Int) :
    Calls Try.prog 27 #[.pointer (some ⟨w.heap.size + 4, 0, none⟩), .int .i64 x] X fun e Y => e = .returned (.int .i64 (rk id L x : Int)) ∧ Y = X := by
  obtain ⟨a, cap, ed, ra, rc, h1, h2⟩ := h.pair
  have hc := T.rrank_any X _ _ (its L) ra rc x h2 (rise_its h.rise)
  rw [rk_its] at hc
  exact hc

theorem Md.new (w : World) (n : Nat) (t : List Int) (X : World) (h0 : X.heap[w.heap.size]? = some (.cells #[.bool false] 4 (0, 0))) (ht : Tab w.heap.size n t X) (hu : Up t) (hX : X.heap.size = w.heap.size + 3) (hb : Below w.heap.size w X) :
    Md w n t [] [] (((X.alloc (.cells #[.func (.func 24) #[] #[.pointer (some ⟨w.heap.size + 2, 0, none⟩)], .slice none 0 0, .bool false, .int .u64 0] 92)).alloc (.cells #[.slice none 0 0] 33)).alloc (.cells #[.pointer (some ⟨w.heap.size + 4, 0, none⟩)] 30)) := by
  have al : ∀ (X : World) (o : Obj) (k : Nat) (q : Obj), X.heap[k]? = some q → (X.alloc o).heap[k]? = some q := fun X o k q h => (Below.heap_alloc _ _ _ (Array.getElem?_eq_some_iff.1 h).1).trans h
  have at' : ∀ (X : World) (o : Obj) (k : Nat), k = X.heap.size → (X.alloc o).heap[k]? = some o := fun X o k hk => by subst hk; exact heap_alloc_new X o
  refine ⟨al _ _ _ _ (al _ _ _ _ (al _ _ _ _ h0)), ⟨al _ _ _ _ (al _ _ _ _ (al _ _ _ _ ht.row)), al _ _ _ _ (al _ _ _ _ (al _ _ _ _ ht.box)), ht.len⟩, at' _ _ _ (by simp; omega), ⟨none, 0, 0, none, 0, ⟨⟨92, al _ _ _ _ (al _ _ _ _ (at' _ _ _ (by omega)))⟩, ⟨by simp [I.cellsOf], .inl ⟨rfl, rfl⟩⟩, fun k hk => (by cases hk), Nat.zero_le _⟩, ⟨⟨33, al _ _ _ _ (at' _ _ _ (by simp; omega))⟩, ⟨by simp [its, T.cellsOf], .inl ⟨rfl, rfl⟩⟩, fun k hk => (by cases hk), Nat.zero_le _⟩⟩, ((hb.alloc (by omega) _).alloc (by simp; omega) _).alloc (by simp; omega) _, hu, List.Pairwise.nil, fun y hy => by cases hy⟩
end

end Go.Proofs.Ytiggpbjgnododaa.L
