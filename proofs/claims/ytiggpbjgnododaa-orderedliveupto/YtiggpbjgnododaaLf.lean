/- OrderedLive: what is there while the list is gone through at the end. -/
import Derived.Test.YtiggpbjgnododaaLr
namespace Go.Proofs.Ytiggpbjgnododaa.L
open Go.RowKit Go.Shelf
open T (bel1 cell_at kf bel_drewN')
set_option linter.unusedVariables false

structure Mf (w : World) (L : List Int) (a : Option Addr) (cap : Nat) (ed : Int) (ra : Option Addr) (rc cb : Nat) (pre : List (Nat × Int)) (X : World) : Prop where
  res : X.heap[w.heap.size]? = some (.cells #[.bool false] 4 (0, 0))
  dbx : X.heap[w.heap.size + 5]? = some (.cells #[.pointer (some ⟨w.heap.size + 4, 0, none⟩)] 30 (0, 0))
  cnt : X.heap[cb]? = some (.cells #[.int .i64 (pre.length : Int)] 3 (0, 0))
  list : ∃ lent, I.LAt X (w.heap.size + 6) (w.heap.size + 3) 24 #[.pointer (some ⟨w.heap.size + 2, 0, none⟩)] L a cap lent ed
  ref : T.RAt X (w.heap.size + 6) (w.heap.size + 4) (its L) ra rc
  bel : Below w.heap.size w X

section
variable {w X Y : World} {L : List Int} {a : Option Addr} {cap : Nat} {ed : Int} {ra : Option Addr} {rc cb N : Nat} {pre : List (Nat × Int)} {M : Nat → Prop}

theorem Mf.stab (h : Mf w L a cap ed ra rc cb pre X) (hcb : w.heap.size + 6 ≤ cb) (hM : ∀ k, M k → k = w.heap.size + 3) (hN : w.heap.size ≤ N) (st : Stab N M X Y) : Mf w L a cap ed ra rc cb pre Y := by
  obtain ⟨lent, h1⟩ := h.list
  have bx : ∀ {k : Nat} {cs : Array Value} {ty : TypeId}, X.heap[k]? = some (.cells cs ty (0, 0)) → k ≠ w.heap.size + 3 → Y.heap[k]? = some (.cells cs ty (0, 0)) := fun hk hne => st.same hk (fun hm => hne (hM _ hm)) (.inr rfl)
  refine ⟨bx h.res (by omega), bx h.dbx (by omega), bx h.cnt (by omega), h1.stab hM st, h.ref.stab hM (by omega) (fun k hk => by have := (own_block_lt h.ref.row k hk).1; omega) st, ?_⟩
  refine ⟨st.os.trans h.bel.os, st.tape.trans h.bel.tape, st.output.trans h.bel.output, Nat.le_trans h.bel.size st.size, fun k hk => ?_⟩
  have hkX : k < X.heap.size := Nat.lt_of_lt_of_le hk h.bel.size
  rw [← h.bel.block k hk, Array.getElem?_eq_getElem hkX]
  exact st.same (Array.getElem?_eq_getElem hkX) (fun hm => by have := hM _ hm; omega) (.inl (by omega))

theorem Mf.step (h : Mf w L a cap ed ra rc cb pre X) (hcb : w.heap.size + 6 ≤ cb) (hl : ∀ k, (Value.slice a L.length cap).ownBlock = some k → k ≠ cb) (hr : ∀ k, (Value.slice ra (its L).length rc).ownBlock = some k → k ≠ cb) (y : Nat × Int) (m : Nat) (v : Value) (hv : v = .int .i64 ((pre ++ [y]).length : Int)) :
    Mf w L a cap ed ra rc cb (pre ++ [y]) ((X.drewN m).setCell ⟨cb, 0, none⟩ v) ∧ Turn (fun b => b = cb) X ((X.drewN m).setCell ⟨cb, 0, none⟩ v) := by
  have far : ∀ k, k ≠ cb → ((X.drewN m).setCell ⟨cb, 0, none⟩ v).heap[k]? = X.heap[k]? := fun k hk => Below.heap_setCell _ _ _ _ hk
  obtain ⟨lent, h1⟩ := h.list
  refine ⟨⟨(far _ (by omega)).trans h.res, (far _ (by omega)).trans h.dbx, ?_, ⟨lent, h1.of_blocks (far _ (by omega)) (fun k hk => far k (hl k hk))⟩, h.ref.of_blocks (far _ (by omega)) (fun k hk => far k (hr k hk)), ?_⟩, ?_⟩
  · subst hv
    simp [World.setCell, Array.getElem?_modify, h.cnt]
  · exact ⟨h.bel.os, h.bel.tape, h.bel.output, by have := h.bel.size; simpa [World.setCell] using this, fun k hk => (far k (by omega)).trans (h.bel.block k hk)⟩
  · exact ⟨rfl, rfl, rfl, by simp [World.setCell], fun k hk hne => far k hne⟩
end

end Go.Proofs.Ytiggpbjgnododaa.L
