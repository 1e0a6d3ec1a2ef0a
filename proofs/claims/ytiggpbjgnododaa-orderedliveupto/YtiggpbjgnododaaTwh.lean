/- OrderedWhile: what is there while a list is ranged over and changed. -/
import Derived.Test.YtiggpbjgnododaaTac
import Derived.Test.YtiggpbjgnododaaRc
namespace Go.Proofs.Ytiggpbjgnododaa.T
open Go.RowKit Go.Shelf
set_option linter.unusedVariables false

theorem own_cells {X : World} {B n : Nat} {v : Value} {xs : List Value} (h : X.ownsRow B 28 2 v n xs) {k : Nat} (hk : v.ownBlock = some k) : ∃ cs, X.heap[k]? = some (.cells cs 28 (0, 0)) := by
  rcases h.2 with ⟨e, _⟩ | ⟨g', cap', cur, e, _, hh, _⟩
  · rw [e] at hk; cases hk
  · rw [e] at hk
    simp only [Value.ownBlock, Option.some.injEq] at hk
    subst hk
    exact ⟨_, hh⟩

/-- The law's own variables. -/
structure WS (w : World) (wa : Option Addr) (wn wc : Nat) (X : World) : Prop where
  x0 : X.heap[w.heap.size]? = some (.cells #[.slice wa wn wc] 22 (0, 0))
  x1 : X.heap[w.heap.size + 1]? = some (.cells #[.bool false] 4 (0, 0))
  x3 : X.heap[w.heap.size + 3]? = some (.cells #[.pointer (some ⟨w.heap.size + 2, 0, none⟩)] 23 (0, 0))
  x5 : X.heap[w.heap.size + 5]? = some (.cells #[.pointer (some ⟨w.heap.size + 4, 0, none⟩)] 30 (0, 0))
  bel : Below w.heap.size w X

/-- A variable that is no row and no list stays. -/
theorem doP_box {X Y : World} {B db rb : Nat} {L : List (Int × Int)} {a : Option Addr} {cap : Nat} {lent : Bool} {ed : Int} {ra : Option Addr} {rc : Nat} (hb : Both X B db rb L a cap lent ed ra rc) (t : Turn (DoF db rb lent (.slice a L.length cap)) X Y) {k : Nat} {cs : Array Value} {ty : TypeId} {fr : Nat × Nat} (hk : X.heap[k]? = some (.cells cs ty fr)) (h1 : k ≠ db) (h2 : k ≠ rb) (h3 : ty ≠ 28) : Y.heap[k]? = some (.cells cs ty fr) := by
  refine (t.block k (Array.getElem?_eq_some_iff.1 hk).1 ?_).trans hk
  rintro (e | e | ⟨_, e⟩)
  · exact h1 e
  · exact h2 e
  · obtain ⟨cs', h'⟩ := own_cells hb.list.row e
    rw [h'] at hk
    simp only [Option.some.injEq, Obj.cells.injEq] at hk
    exact h3 hk.2.1.symm

theorem WS.does {w X Y : World} {wa : Option Addr} {wn wc : Nat} {L : List (Int × Int)} {a : Option Addr} {cap : Nat} {lent : Bool} {ed : Int} {ra : Option Addr} {rc : Nat} (h : WS w wa wn wc X) (hb : Both X w.heap.size (w.heap.size + 2) (w.heap.size + 4) L a cap lent ed ra rc) (t : Turn (DoF (w.heap.size + 2) (w.heap.size + 4) lent (.slice a L.length cap)) X Y) : WS w wa wn wc Y :=
  ⟨doP_box hb t h.x0 (by omega) (by omega) (by decide), doP_box hb t h.x1 (by omega) (by omega) (by decide), doP_box hb t h.x3 (by omega) (by omega) (by decide), doP_box hb t h.x5 (by omega) (by omega) (by decide), turn_below h.bel t (fun k hk => by
    rcases hk with hk | hk | ⟨_, hk⟩
    · omega
    · omega
    · exact (own_block_lt hb.list.row k hk).1)⟩

/-- Ahead of the range. -/
def W1 (w : World) (wa : Option Addr) (wn wc : Nat) (X : World) : Prop :=
  WS w wa wn wc X ∧ ∃ L a cap lent ed ra rc, Both X w.heap.size (w.heap.size + 2) (w.heap.size + 4) L a cap lent ed ra rc ∧ Rise kf L

theorem W1.does {w X : World} {wa : Option Addr} {wn wc : Nat} (h : W1 w wa wn wc X) (kind stop : Int) (x : Int × Int) :
    Calls Try.prog 10 #[.pointer (some ⟨w.heap.size + 2, 0, none⟩), .pointer (some ⟨w.heap.size + 4, 0, none⟩), .agg #[.int .i64 kind, .int .i64 stop, .int .i64 x.1, .int .i64 x.2]] X fun e Y => e = .returned (.bool true) ∧ W1 w wa wn wc Y := by
  obtain ⟨h0, L, a, cap, lent, ed, ra, rc, h1, h2⟩ := h
  refine (does_any X w.heap.size _ _ L a cap lent ed ra rc kind stop x h1 h2 h0.bel.size).mono ?_
  rintro e Y ⟨rfl, L', a', cap', lent', ed', ra', rc', q1, q2, q3, q4, q5⟩
  exact ⟨rfl, h0.does h1 q3, L', a', cap', lent', ed', ra', rc', q1, q2⟩

theorem W1.drew {w X : World} {wa : Option Addr} {wn wc : Nat} (h : W1 w wa wn wc X) : W1 w wa wn wc X.drew := by
  obtain ⟨h0, L, a, cap, lent, ed, ra, rc, h1, h2⟩ := h
  exact ⟨⟨h0.x0, h0.x1, h0.x3, h0.x5, h0.bel.drew⟩, L, a, cap, lent, ed, ra, rc, h1.below (Below.refl _ _).drew, h2⟩

/-- While it is ranged over. -/
structure W2 (w : World) (wa : Option Addr) (wn wc b9 b10 b11 : Nat) (K : Nat → Prop) (want : List (Int × Int)) (ta : Option Addr) (tc : Nat) (got : List (Int × Int)) (m : Nat) (ga : Option Addr) (gc : Nat) (X : World) : Prop where
  ws : WS w wa wn wc X
  x9 : X.heap[b9]? = some (.cells #[.slice ta want.length tc] 31 (0, 0))
  x10 : X.heap[b10]? = some (.cells #[.slice ga got.length gc] 31 (0, 0))
  x11 : X.heap[b11]? = some (.cells #[.int .i64 (m : Int)] 3 (0, 0))
  wrow : X.ownsRow (w.heap.size + 6) 28 2 (.slice ta want.length tc) want.length (cellsOf want)
  grow : X.ownsRow (w.heap.size + 6) 28 2 (.slice ga got.length gc) got.length (cellsOf got)
  gK : ∀ k, (Value.slice ga got.length gc).ownBlock = some k → ¬ K k ∧ (Value.slice ta want.length tc).ownBlock ≠ some k
  pair : ∃ L a cap lent ed ra rc, Both X w.heap.size (w.heap.size + 2) (w.heap.size + 4) L a cap lent ed ra rc ∧ Rise kf L ∧ (∀ k, (Value.slice a L.length cap).ownBlock = some k → (K k → lent = true) ∧ (Value.slice ta want.length tc).ownBlock ≠ some k ∧ (Value.slice ga got.length gc).ownBlock ≠ some k) ∧ (∀ k, (Value.slice ra L.length rc).ownBlock = some k → (Value.slice ga got.length gc).ownBlock ≠ some k)

section
variable {w X Y : World} {wa : Option Addr} {wn wc b9 b10 b11 : Nat} {K : Nat → Prop} {want : List (Int × Int)} {ta : Option Addr} {tc : Nat} {got : List (Int × Int)} {m : Nat} {ga : Option Addr} {gc : Nat} {N : Nat}

theorem W2.does (h : W2 w wa wn wc b9 b10 b11 K want ta tc got m ga gc X) (h9 : w.heap.size + 6 ≤ b9) (h10 : w.heap.size + 6 ≤ b10) (h11 : w.heap.size + 6 ≤ b11) (hN : w.heap.size + 6 ≤ N) (hNX : N ≤ X.heap.size) (hK : ∀ k, K k → k < N ∧ k ≠ w.heap.size + 2 ∧ k ≠ w.heap.size + 4) (kind stop : Int) (x : Int × Int) :
    Calls Try.prog 10 #[.pointer (some ⟨w.heap.size + 2, 0, none⟩), .pointer (some ⟨w.heap.size + 4, 0, none⟩), .agg #[.int .i64 kind, .int .i64 stop, .int .i64 x.1, .int .i64 x.2]] X fun e Y => e = .returned (.bool true) ∧ W2 w wa wn wc b9 b10 b11 K want ta tc got m ga gc Y ∧ Kp N K N X Y := by
  obtain ⟨L, a, cap, lent, ed, ra, rc, h1, h2, h3, h4⟩ := h.pair
  refine (does_any X w.heap.size _ _ L a cap lent ed ra rc kind stop x h1 h2 h.ws.bel.size).mono ?_
  rintro e Y ⟨rfl, L', a', cap', lent', ed', ra', rc', q1, q2, q3, q4, q5⟩
  have far : ∀ (v : Value) (n : Nat) (xs : List Value), X.ownsRow (w.heap.size + 6) 28 2 v n xs → (∀ k, (Value.slice a L.length cap).ownBlock = some k → v.ownBlock ≠ some k) → Y.ownsRow (w.heap.size + 6) 28 2 v n xs := fun v n xs hv hne => own_of_block hv (fun k hk => q3.block k (own_block_lt hv k hk).2 (by
    have := (own_block_lt hv k hk).1
    rintro (e | e | ⟨_, e⟩)
    · omega
    · omega
    · exact hne k e hk))
  refine ⟨rfl, ⟨h.ws.does h1 q3, doP_box h1 q3 h.x9 (by omega) (by omega) (by decide), doP_box h1 q3 h.x10 (by omega) (by omega) (by decide), doP_box h1 q3 h.x11 (by omega) (by omega) (by decide), far _ _ _ h.wrow (fun k hk => (h3 k hk).2.1), far _ _ _ h.grow (fun k hk => (h3 k hk).2.2), h.gK, L', a', cap', lent', ed', ra', rc', q1, q2, fun k hk => ?_, fun k hk e2 => ?_⟩, Kp.of_turn q3 (fun k hk hA => ?_)⟩
  · rcases q4 k hk with ⟨e1, e2⟩ | ⟨e1, e2⟩ | e
    · obtain ⟨z1, z2, z3⟩ := h3 k e2
      exact ⟨fun hx => (by rw [z1 hx] at e1; cases e1), z2, z3⟩
    · exact ⟨fun _ => e1, (h3 k e2).2⟩
    · refine ⟨fun hx => ?_, fun e2 => ?_, fun e2 => ?_⟩
      · have := (hK k hx).1; omega
      · have := (own_block_lt h.wrow k e2).2; omega
      · have := (own_block_lt h.grow k e2).2; omega
  · rcases q5 k hk with e | e
    · exact h4 k e e2
    · have := (own_block_lt h.grow k e2).2; omega
  · rcases hA with e | e | ⟨e1, e2⟩
    · exact ⟨fun hx => (hK k hx).2.1 e, .inl (by omega), .inl (by omega)⟩
    · exact ⟨fun hx => (hK k hx).2.2 e, .inl (by omega), .inl (by omega)⟩
    · obtain ⟨cs, hc⟩ := own_cells h1.list.row e2
      exact ⟨fun hx => (by rw [(h3 k e2).1 hx] at e1; cases e1), .inr ⟨_, _, hc⟩, .inr ⟨_, _, _, hc⟩⟩

theorem W2.stab (h : W2 w wa wn wc b9 b10 b11 K want ta tc got m ga gc X) (h9 : w.heap.size + 6 ≤ b9) (h10 : w.heap.size + 6 ≤ b10) (h11 : w.heap.size + 6 ≤ b11) {M : Nat → Prop} (hM : ∀ k, M k → k = w.heap.size + 2) (hN : w.heap.size ≤ N) (st : Stab N M X Y) : W2 w wa wn wc b9 b10 b11 K want ta tc got m ga gc Y := by
  obtain ⟨L, a, cap, lent, ed, ra, rc, h1, h2, h3, h4⟩ := h.pair
  obtain ⟨lent', hl1, hl2⟩ := h1.list.stab hM st
  have bx : ∀ {k : Nat} {cs : Array Value} {ty : TypeId}, X.heap[k]? = some (.cells cs ty (0, 0)) → k ≠ w.heap.size + 2 → Y.heap[k]? = some (.cells cs ty (0, 0)) := fun hk hne => st.same hk (fun hm => hne (hM _ hm)) (.inr rfl)
  refine ⟨⟨bx h.ws.x0 (by omega), bx h.ws.x1 (by omega), bx h.ws.x3 (by omega), bx h.ws.x5 (by omega), ?_⟩, bx h.x9 (by omega), bx h.x10 (by omega), bx h.x11 (by omega), own_stab hM h.wrow (by omega) st, own_stab hM h.grow (by omega) st, h.gK, L, a, cap, lent', ed, ra, rc, ⟨hl2, h1.ref.stab hM (by omega) h1.rowd st, h1.ne, h1.rowr, h1.rowd, h1.rows⟩, h2, fun k hk => ⟨fun hx => hl1 ((h3 k hk).1 hx), (h3 k hk).2⟩, h4⟩
  refine ⟨st.os.trans h.ws.bel.os, st.tape.trans h.ws.bel.tape, st.output.trans h.ws.bel.output, Nat.le_trans h.ws.bel.size st.size, fun k hk => ?_⟩
  have hkX : k < X.heap.size := Nat.lt_of_lt_of_le hk h.ws.bel.size
  rw [← h.ws.bel.block k hk, Array.getElem?_eq_getElem hkX]
  exact st.same (Array.getElem?_eq_getElem hkX) (fun hm => by have := hM _ hm; omega) (.inl (by omega))

theorem W2.below (h : W2 w wa wn wc b9 b10 b11 K want ta tc got m ga gc X) (h9 : w.heap.size + 6 ≤ b9) (h10 : w.heap.size + 6 ≤ b10) (h11 : w.heap.size + 6 ≤ b11) (hb : Below X.heap.size X Y) : W2 w wa wn wc b9 b10 b11 K want ta tc got m ga gc Y :=
  h.stab (N := w.heap.size) (M := fun _ => False) h9 h10 h11 (fun _ e => e.elim) (Nat.le_refl _) (Stab.below hb)

/-- A variable of the law's is stored. -/
theorem W2.count (h : W2 w wa wn wc b9 b10 b11 K want ta tc got m ga gc X) (h9 : w.heap.size + 6 ≤ b9) (h10 : w.heap.size + 6 ≤ b10) (h11 : w.heap.size + 6 ≤ b11) (n9 : b9 ≠ b11) (n10 : b10 ≠ b11) (hbN : b11 < N) (hKb : ¬ K b11) (v : Value) (hv : v = .int .i64 ((m + 1 : Nat) : Int)) :
    W2 w wa wn wc b9 b10 b11 K want ta tc got (m + 1) ga gc (X.setCell ⟨b11, 0, none⟩ v) ∧ Kp N K N X (X.setCell ⟨b11, 0, none⟩ v) := by
  obtain ⟨L, a, cap, lent, ed, ra, rc, h1, h2, h3, h4⟩ := h.pair
  have far : ∀ k, k ≠ b11 → (X.setCell ⟨b11, 0, none⟩ v).heap[k]? = X.heap[k]? := fun k hk => Below.heap_setCell _ _ _ _ hk
  have row : ∀ {B : Nat} {u : Value} {n : Nat} {xs : List Value}, X.ownsRow B 28 2 u n xs → ∀ k, u.ownBlock = some k → k ≠ b11 := fun hu k hk e => by
    obtain ⟨cs, hc⟩ := own_cells hu hk
    rw [e, h.x11] at hc
    simp at hc
  have hlt : b11 < X.heap.size := (Array.getElem?_eq_some_iff.1 h.x11).1
  have hs := h.ws.bel.size
  refine ⟨⟨⟨(far _ (by omega)).trans h.ws.x0, (far _ (by omega)).trans h.ws.x1, (far _ (by omega)).trans h.ws.x3, (far _ (by omega)).trans h.ws.x5, ?_⟩, (far _ n9).trans h.x9, (far _ n10).trans h.x10, ?_, own_of_block h.wrow (fun k hk => far k (row h.wrow k hk)), own_of_block h.grow (fun k hk => far k (row h.grow k hk)), h.gK, L, a, cap, lent, ed, ra, rc, ⟨h1.list.of_blocks (far _ (by omega)) (fun k hk => far k (row h1.list.row k hk)), h1.ref.of_blocks (far _ (by omega)) (fun k hk => far k (row h1.ref.row k hk)), h1.ne, h1.rowr, h1.rowd, h1.rows⟩, h2, h3, h4⟩, ?_⟩
  · exact ⟨h.ws.bel.os, h.ws.bel.tape, h.ws.bel.output, by simpa [World.setCell] using hs, fun k hk => (far k (by omega)).trans (h.ws.bel.block k hk)⟩
  · subst hv
    simp [World.setCell, Array.getElem?_modify, h.x11]
  · refine Kp.of_turn (A := fun k => k = b11) ⟨rfl, rfl, rfl, by simp [World.setCell], fun k hk hne => far k hne⟩ (fun k hk hA => ?_)
    have hA' : k = b11 := hA
    subst hA'
    exact ⟨hKb, .inl hbN, .inl hbN⟩

/-- One more item. -/
theorem W2.app (h : W2 w wa wn wc b9 b10 b11 K want ta tc got m ga gc X) (h9 : w.heap.size + 6 ≤ b9) (h10 : w.heap.size + 6 ≤ b10) (h11 : w.heap.size + 6 ≤ b11) (n9 : b9 ≠ b10) (n11 : b11 ≠ b10) (hbN : b10 < N) (hKb : ¬ K b10) (hNX : N ≤ X.heap.size) (hK : ∀ k, K k → k < N) {y : Int × Int} {o : Obj} {ga' : Option Addr} {gc' : Nat}
    (k1 : Y.ownsRow (w.heap.size + 6) 28 2 (.slice ga' (got.length + 1) gc') (got.length + 1) (cellsOf got ++ [.int .i64 y.1, .int .i64 y.2])) (k2 : (X.alloc o).grownBy Y (Value.slice ga got.length gc).ownBlock) (k4 : (Value.slice ga' (got.length + 1) gc').ownBlock = (Value.slice ga got.length gc).ownBlock ∨ (Value.slice ga' (got.length + 1) gc').ownBlock = some (X.alloc o).heap.size) :
    W2 w wa wn wc b9 b10 b11 K want ta tc (got ++ [y]) m ga' gc' (Y.setCell ⟨b10, 0, none⟩ (.slice ga' (got.length + 1) gc')) ∧ Kp N K N X (Y.setCell ⟨b10, 0, none⟩ (.slice ga' (got.length + 1) gc')) := by
  obtain ⟨L, a, cap, lent, ed, ra, rc, h1, h2, h3, h4⟩ := h.pair
  have hs := k2.size
  simp at hs
  have far : ∀ k, k < X.heap.size → k ≠ b10 → (Value.slice ga got.length gc).ownBlock ≠ some k → (Y.setCell ⟨b10, 0, none⟩ (.slice ga' (got.length + 1) gc')).heap[k]? = X.heap[k]? := fun k hk hne hr =>
    (Below.heap_setCell _ _ _ _ hne).trans ((k2.block k (by simp; omega) (fun e => hr e.symm)).trans (Below.heap_alloc _ _ _ hk))
  have box : ∀ {k : Nat} {cs : Array Value} {ty : TypeId}, X.heap[k]? = some (.cells cs ty (0, 0)) → ty ≠ 28 → k ≠ b10 → (Y.setCell ⟨b10, 0, none⟩ (.slice ga' (got.length + 1) gc')).heap[k]? = some (.cells cs ty (0, 0)) := fun {k cs ty} hk ht hne => (far k (Array.getElem?_eq_some_iff.1 hk).1 hne (fun e => by
    obtain ⟨cs', hc⟩ := own_cells h.grow e
    rw [hc] at hk
    simp only [Option.some.injEq, Obj.cells.injEq] at hk
    exact ht hk.2.1.symm)).trans hk
  have row : ∀ {B : Nat} {u : Value} {n : Nat} {xs : List Value}, X.ownsRow B 28 2 u n xs → ∀ k, u.ownBlock = some k → k ≠ b10 := fun hu k hk e => by
    obtain ⟨cs, hc⟩ := own_cells hu hk
    rw [e, h.x10] at hc
    simp at hc
  have new : ∀ k, (Value.slice ga' (got.length + 1) gc').ownBlock = some k → (Value.slice ga got.length gc).ownBlock = some k ∨ X.heap.size < k := fun k hk => by
    rcases k4 with e | e
    · rw [e] at hk; exact .inl hk
    · rw [e] at hk; simp at hk; exact .inr (by omega)
  have hlt : b10 < X.heap.size := (Array.getElem?_eq_some_iff.1 h.x10).1
  have hb := h.ws.bel
  have hbs := hb.size
  have glen : (got ++ [y]).length = got.length + 1 := by simp
  refine ⟨⟨⟨box h.ws.x0 (by decide) (by omega), box h.ws.x1 (by decide) (by omega), box h.ws.x3 (by decide) (by omega), box h.ws.x5 (by decide) (by omega), ?_⟩, box h.x9 (by decide) n9, ?_, box h.x11 (by decide) n11, ?_, ?_, ?_, L, a, cap, lent, ed, ra, rc, ⟨?_, ?_, h1.ne, h1.rowr, h1.rowd, h1.rows⟩, h2, fun k hk => ⟨(h3 k hk).1, (h3 k hk).2.1, ?_⟩, fun k hk e => ?_⟩, ?_⟩
  · refine ⟨k2.os.trans hb.os, k2.tape.trans hb.tape, k2.output.trans hb.output, by simp [World.setCell]; omega, fun k hk => (far k (by omega) (by omega) (fun e => by have := (own_block_lt h.grow k e).1; omega)).trans (hb.block k hk)⟩
  · have hY : Y.heap[b10]? = some (.cells #[.slice ga got.length gc] 31 (0, 0)) := (k2.block _ (by simp; omega) (fun e => row h.grow _ e.symm rfl)).trans ((Below.heap_alloc _ _ _ hlt).trans h.x10)
    rw [glen]
    simp [World.setCell, Array.getElem?_modify, hY]
  · exact own_of_block h.wrow (fun k hk => far k (own_block_lt h.wrow k hk).2 (row h.wrow k hk) (fun e => (h.gK k e).2 hk))
  · rw [glen, cellsOf_append]
    refine own_of_block k1 (fun k hk => Below.heap_setCell _ _ _ _ ?_)
    rcases new k hk with e | e
    · exact row h.grow k e
    · show k ≠ b10
      omega
  · rw [glen]
    intro k hk
    rcases new k hk with e | e
    · exact h.gK k e
    · exact ⟨fun hx => by have := hK k hx; omega, fun e2 => by have := (own_block_lt h.wrow k e2).2; omega⟩
  · exact h1.list.of_blocks (far _ (by have := h1.list.head.lt; omega) (by omega) (fun e => by have := (own_block_lt h.grow _ e).1; omega)) (fun k hk => far k (own_block_lt h1.list.row k hk).2 (row h1.list.row k hk) (h3 k hk).2.2)
  · refine h1.ref.of_blocks (far _ (by have := h1.ref.head.lt; omega) (by omega) (fun e => by have := (own_block_lt h.grow _ e).1; omega)) (fun k hk => far k (own_block_lt h1.ref.row k hk).2 (row h1.ref.row k hk) (h4 k hk))
  · rw [glen]
    intro e
    rcases new k e with e2 | e2
    · exact (h3 k hk).2.2 e2
    · have := (own_block_lt h1.list.row k hk).2; omega
  · rw [glen] at e
    rcases new k e with e2 | e2
    · exact h4 k hk e2
    · have := (own_block_lt h1.ref.row k hk).2; omega
  · refine Kp.of_turn (A := fun k => k = b10 ∨ (Value.slice ga got.length gc).ownBlock = some k) ⟨k2.os, k2.tape, k2.output, by simp [World.setCell]; omega, fun k hk hA => far k hk (fun e => hA (.inl e)) (fun e => hA (.inr e))⟩ (fun k hk hA => ?_)
    rcases hA with e | e
    · subst e
      exact ⟨hKb, .inl hbN, .inl hbN⟩
    · obtain ⟨cs, hc⟩ := own_cells h.grow e
      exact ⟨(h.gK k e).1, .inr ⟨_, _, hc⟩, .inr ⟨_, _, _, hc⟩⟩
end

end Go.Proofs.Ytiggpbjgnododaa.T
