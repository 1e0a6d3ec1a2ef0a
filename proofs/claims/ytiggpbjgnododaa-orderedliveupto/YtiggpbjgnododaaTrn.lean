/- ranged: what is ranged over by From and Back, up to so many. -/
import Derived.Test.YtiggpbjgnododaaTw
import Derived.Maps.OwnIn
namespace Go.Proofs.Ytiggpbjgnododaa.T
open Go.RowKit Go.Shelf
set_option linter.unusedVariables false
attribute [local go_sem] Oper.semAt_some

theorem LAt.stab {X Y : World} {B db g : Nat} {caps : Array Value} {L : List (Int × Int)} {a : Option Addr} {cap : Nat} {lent : Bool} {ed : Int} {N : Nat} {M : Nat → Prop} (hM : ∀ k, M k → k = db) (h : LAt X B db g caps L a cap lent ed) (st : Stab N M X Y) : ∃ lent', (lent = true → lent' = true) ∧ LAt Y B db g caps L a cap lent' ed := by
  have hrow : ∀ k, (Value.slice a L.length cap).ownBlock = some k → Y.heap[k]? = X.heap[k]? := fun k hk => by
    rcases h.row.2 with ⟨e, _⟩ | ⟨g', cap', cur, e, _, hh, _⟩
    · rw [e] at hk; cases hk
    · rw [e] at hk
      simp only [Value.ownBlock, Option.some.injEq] at hk
      subst hk
      rw [hh]
      exact st.same hh (fun hm => h.ne _ (by rw [e]; rfl) (hM _ hm)) (.inr rfl)
  obtain ⟨T, hT⟩ := h.head
  rcases st.keep db _ hT (.inr rfl) with h1 | ⟨_, h1⟩
  · exact ⟨lent, id, ⟨T, h1⟩, own_of_block h.row hrow, h.ne, h.len⟩
  · exact ⟨true, fun _ => rfl, ⟨T, by simpa [flagged] using h1⟩, own_of_block h.row hrow, h.ne, h.len⟩

theorem turn_stab {w X Y : World} {db N : Nat} {M : Nat → Prop} (hM : ∀ k, M k → k = db) (hN : w.heap.size ≤ N) (h : Turn (fun b => b = db) w X) (st : Stab N M X Y) : Turn (fun b => b = db) w Y :=
  ⟨st.os.trans h.os, st.tape.trans h.tape, st.output.trans h.output, Nat.le_trans h.size st.size, fun k hk hne => by
    have h1 := h.block k hk hne
    rw [Array.getElem?_eq_getElem hk] at h1
    rw [Array.getElem?_eq_getElem hk]
    exact st.same h1 (fun hm => hne (hM k hm)) (.inl (by omega))⟩

theorem own_stab {X Y : World} {B e size n db N : Nat} {M : Nat → Prop} {v : Value} {xs : List Value} (hM : ∀ k, M k → k = db) (h : X.ownsRow B e size v n xs) (hd : db < B) (st : Stab N M X Y) : Y.ownsRow B e size v n xs :=
  own_of_block h (fun k hk => by
    have h0 := own_block_lt h k hk
    rcases h.2 with ⟨e, _⟩ | ⟨g', cap', cur, e, _, hh, _⟩
    · rw [e] at hk; cases hk
    · rw [e] at hk
      simp only [Value.ownBlock, Option.some.injEq] at hk
      subst hk
      rw [hh]
      exact st.same hh (fun hm => by have := hM _ hm; omega) (.inr rfl))

/-- What is there while a list is ranged over: the items so far, in a row of their own. -/
structure RnSt (w : World) (B db : Nat) (L : List (Int × Int)) (a : Option Addr) (cap : Nat) (ed : Int) (l0 : Bool) (stop : Int) (pre : List (Int × Int)) (X : World) : Prop where
  so : ∃ la lc, X.heap[w.heap.size + 3]? = some (.cells #[.slice la pre.length lc] 31 (0, 0)) ∧ X.ownsRow (w.heap.size + 2) 28 2 (.slice la pre.length lc) pre.length (cellsOf pre) ∧ (∀ k, (Value.slice la pre.length lc).ownBlock = some k → k ≠ w.heap.size + 3)
  stop : X.heap[w.heap.size + 1]? = some (.cells #[.int .i64 stop] 3 (0, 0))
  list : ∃ lent, (l0 = true → lent = true) ∧ LAt X B db 9 #[] L a cap lent ed
  turn : Turn (fun b => b = db) w X

theorem RnSt.stab {w X Y : World} {B db : Nat} {L : List (Int × Int)} {a : Option Addr} {cap : Nat} {ed : Int} {l0 : Bool} {stop : Int} {pre : List (Int × Int)} {N : Nat} {M : Nat → Prop} (hM : ∀ k, M k → k = db) (hd : db < w.heap.size) (hN : w.heap.size ≤ N) (h : RnSt w B db L a cap ed l0 stop pre X) (st : Stab N M X Y) : RnSt w B db L a cap ed l0 stop pre Y := by
  obtain ⟨la, lc, h1, h2, h3⟩ := h.so
  obtain ⟨lent, hlm, h4⟩ := h.list
  obtain ⟨lent', hlm', h4'⟩ := h4.stab hM st
  exact ⟨⟨la, lc, st.same h1 (fun hm => by have := hM _ hm; omega) (.inr rfl), own_stab hM h2 (by omega) st, h3⟩, st.same h.stop (fun hm => by have := hM _ hm; omega) (.inr rfl), ⟨lent', fun e => hlm' (hlm e), h4'⟩, turn_stab hM hN h.turn st⟩

theorem RnSt.below {w X Y : World} {B db : Nat} {L : List (Int × Int)} {a : Option Addr} {cap : Nat} {ed : Int} {l0 : Bool} {stop : Int} {pre : List (Int × Int)} (hd : db < w.heap.size) (h : RnSt w B db L a cap ed l0 stop pre X) (hb : Below X.heap.size X Y) : RnSt w B db L a cap ed l0 stop pre Y :=
  h.stab (N := w.heap.size) (M := fun k => k = db) (fun _ e => e) hd (Nat.le_refl _) (Stab.below hb)

/-- One more: the row grows, and the variable is stored. -/
theorem RnSt.app {w X Y : World} {B db : Nat} {L : List (Int × Int)} {a : Option Addr} {cap : Nat} {ed : Int} {l0 : Bool} {stop : Int} {pre : List (Int × Int)} {y : Int × Int} {o : Obj} {la la' : Option Addr} {lc lc' : Nat} (hd : db < w.heap.size) (hB : B ≤ w.heap.size) (hLr : ∀ k, (Value.slice a L.length cap).ownBlock = some k → k < w.heap.size) (h : RnSt w B db L a cap ed l0 stop pre X)
    (h1 : X.heap[w.heap.size + 3]? = some (.cells #[.slice la pre.length lc] 31 (0, 0))) (h2 : X.ownsRow (w.heap.size + 2) 28 2 (.slice la pre.length lc) pre.length (cellsOf pre)) (h3 : ∀ k, (Value.slice la pre.length lc).ownBlock = some k → k ≠ w.heap.size + 3)
    (k1 : Y.ownsRow (w.heap.size + 2) 28 2 (.slice la' (pre.length + 1) lc') (pre.length + 1) (cellsOf pre ++ [.int .i64 y.1, .int .i64 y.2])) (k2 : (X.alloc o).grownBy Y (Value.slice la pre.length lc).ownBlock) (k4 : (Value.slice la' (pre.length + 1) lc').ownBlock = (Value.slice la pre.length lc).ownBlock ∨ (Value.slice la' (pre.length + 1) lc').ownBlock = some (X.alloc o).heap.size) :
    RnSt w B db L a cap ed l0 stop (pre ++ [y]) (Y.setCell ⟨w.heap.size + 3, 0, none⟩ (.slice la' (pre.length + 1) lc')) ∧
      Turn (fun k => k = w.heap.size + 3 ∨ (w.heap.size + 2 ≤ k ∧ ∃ cs, X.heap[k]? = some (.cells cs 28 (0, 0)))) X (Y.setCell ⟨w.heap.size + 3, 0, none⟩ (.slice la' (pre.length + 1) lc')) := by
  have hlt : w.heap.size + 3 < X.heap.size := (Array.getElem?_eq_some_iff.1 h1).1
  have hs := k2.size
  simp at hs
  have hrow28 : ∀ k, (Value.slice la pre.length lc).ownBlock = some k → w.heap.size + 2 ≤ k ∧ ∃ cs, X.heap[k]? = some (.cells cs 28 (0, 0)) := fun k hk => by
    refine ⟨(own_block_lt h2 k hk).1, ?_⟩
    rcases h2.2 with ⟨e, _⟩ | ⟨g', cap', cur, e, _, hh, _⟩
    · rw [e] at hk; cases hk
    · rw [e] at hk
      simp only [Value.ownBlock, Option.some.injEq] at hk
      subst hk
      exact ⟨_, hh⟩
  have far : ∀ k, k < X.heap.size → k ≠ w.heap.size + 3 → (Value.slice la pre.length lc).ownBlock ≠ some k → (Y.setCell ⟨w.heap.size + 3, 0, none⟩ (.slice la' (pre.length + 1) lc')).heap[k]? = X.heap[k]? := fun k hk hne hr =>
    (Below.heap_setCell _ _ _ _ hne).trans ((k2.block k (by simp; omega) (fun e => hr e.symm)).trans (Below.heap_alloc _ _ _ hk))
  have hnr : ∀ k, k < w.heap.size + 2 → (Value.slice la pre.length lc).ownBlock ≠ some k := fun k hk e => by have := (own_block_lt h2 k e).1; omega
  have hnew : ∀ k, (Value.slice la' (pre.length + 1) lc').ownBlock = some k → k ≠ w.heap.size + 3 := fun k hk => by
    rcases k4 with e | e
    · rw [e] at hk; exact h3 k hk
    · rw [e] at hk; simp at hk; omega
  obtain ⟨lent, hlm, h4⟩ := h.list
  refine ⟨⟨⟨la', lc', ?_, ?_, ?_⟩, ?_, ⟨lent, hlm, h4.of_blocks (far db (by omega) (by omega) (hnr db (by omega))) (fun k hk => far k (by have := hLr k hk; omega) (by have := hLr k hk; omega) (hnr k (by have := hLr k hk; omega)))⟩, ?_⟩, ?_⟩
  · have hY : Y.heap[w.heap.size + 3]? = some (.cells #[.slice la pre.length lc] 31 (0, 0)) := (k2.block _ (by simp; omega) (fun e => h3 _ e.symm rfl)).trans ((Below.heap_alloc _ _ _ hlt).trans h1)
    simp [World.setCell, Array.getElem?_modify, hY]
  · simp only [List.length_append, List.length_singleton]
    refine own_of_block ?_ (fun k hk => Below.heap_setCell _ _ _ _ (hnew k hk))
    rw [cellsOf_append]
    exact k1
  · simpa using hnew
  · exact (far _ (by omega) (by omega) (hnr _ (by omega))).trans h.stop
  · refine ⟨k2.os.trans h.turn.os, k2.tape.trans h.turn.tape, k2.output.trans h.turn.output, by simp [World.setCell]; have := h.turn.size; omega, fun k hk hne => (far k (by have := h.turn.size; omega) (by omega) (hnr k (by omega))).trans (h.turn.block k hk hne)⟩
  · refine ⟨k2.os, k2.tape, k2.output, by simp [World.setCell]; omega, fun k hk hA => far k hk (fun e => hA (.inl e)) (fun e => hA (.inr (hrow28 k e)))⟩

end Go.Proofs.Ytiggpbjgnododaa.T
