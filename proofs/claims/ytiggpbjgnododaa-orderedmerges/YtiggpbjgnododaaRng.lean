/- A range over a function whose iterator may write some old blocks and may itself range over another one: what a round keeps, what an iterator keeps, and the statement. -/
import Derived.Test.YtiggpbjgnododaaBase
import Derived.RangeFuncNested
import Derived.RangeFuncLeaves
import Derived.RangeFuncBound
import Derived.RangeFuncCalls
import Derived.Shelf.Abstract
import Derived.Shelf.RegionOpen
import Derived.OwnWalkIn
import Derived.TacticsInMore
import Derived.LoopNIn
import Derived.LoopIn
namespace Go.Proofs.Ytiggpbjgnododaa
open Go.RowKit Go.Shelf
set_option linter.unusedVariables false

theorem bel1' (w : World) (o : Obj) : Below w.heap.size w (w.alloc o) := (Below.refl _ _).alloc (Nat.le_refl _) _

/-- An object with its third cell set. -/
def flagged (o : Obj) : Obj := match o with
  | .cells cs t fr => .cells (cs.setIfInBounds 2 (.bool true)) t fr
  | o => o

theorem flagged_twice (o : Obj) : flagged (flagged o) = flagged o := by
  cases o <;> simp [flagged]
theorem flagged_cells (o : Obj) : (flagged o).isCells = o.isCells := by
  cases o <;> rfl

/-- What is done by an iterator of its own: it makes memory, sets the third cell of blocks of M, turns records from B on. -/
structure Stab (B : Nat) (M : Nat → Prop) (W W' : World) : Prop where
  os : W'.os = W.os
  tape : W'.tape = W.tape
  output : W'.output = W.output
  size : W.heap.size ≤ W'.heap.size
  keep : ∀ k o, W.heap[k]? = some o → (k < B ∨ o.isCells = true) → W'.heap[k]? = some o ∨ (M k ∧ W'.heap[k]? = some (flagged o))

theorem Stab.same {B : Nat} {M : Nat → Prop} {X Y : World} (h : Stab B M X Y) {k : Nat} {o : Obj} (hk : X.heap[k]? = some o) (hm : ¬ M k) (hb : k < B ∨ o.isCells = true) : Y.heap[k]? = some o :=
  (h.keep k o hk hb).resolve_right (fun x => hm x.1)

theorem Stab.refl (B : Nat) (M : Nat → Prop) (W : World) : Stab B M W W := ⟨rfl, rfl, rfl, Nat.le_refl _, fun _ _ h _ => .inl h⟩
theorem Stab.trans {B : Nat} {M : Nat → Prop} {X Y Z : World} (h : Stab B M X Y) (k : Stab B M Y Z) : Stab B M X Z :=
  ⟨k.os.trans h.os, k.tape.trans h.tape, k.output.trans h.output, Nat.le_trans h.size k.size, fun i o hi hb => by
    rcases h.keep i o hi hb with h1 | ⟨hm, h1⟩
    · exact k.keep i o h1 hb
    · rcases k.keep i _ h1 (hb.imp id (fun x => by rw [flagged_cells]; exact x)) with h2 | ⟨_, h2⟩
      · exact .inr ⟨hm, h2⟩
      · rw [flagged_twice] at h2
        exact .inr ⟨hm, h2⟩⟩
theorem Stab.mono {B B' : Nat} {M M' : Nat → Prop} {X Y : World} (h : Stab B' M' X Y) (hB : B ≤ B') (hM : ∀ k, M' k → M k) : Stab B M X Y :=
  ⟨h.os, h.tape, h.output, h.size, fun i o hi hb => (h.keep i o hi (hb.imp (fun x => by omega) id)).imp id (fun x => ⟨hM i x.1, x.2⟩)⟩
theorem Stab.below {B : Nat} {M : Nat → Prop} {X Y : World} (h : Below X.heap.size X Y) : Stab B M X Y :=
  ⟨h.os, h.tape, h.output, h.size, fun k o hk _ => .inl ((h.block k (Array.getElem?_eq_some_iff.1 hk).1).trans hk)⟩
theorem Stab.set {B : Nat} {M : Nat → Prop} {X : World} (d : Nat) (h : M d) : Stab B M X (X.setCell ⟨d, 2, none⟩ (.bool true)) :=
  ⟨rfl, rfl, rfl, by simp [World.setCell], fun k o hk _ => by
    by_cases e : k = d
    · subst e
      refine .inr ⟨h, ?_⟩
      simp only [World.setCell, Array.getElem?_modify, hk]
      cases o <;> simp [flagged]
    · exact .inl ((Below.heap_setCell _ _ _ _ e).trans hk)⟩
theorem Stab.put {B : Nat} {M : Nat → Prop} {X : World} {l : Nat} {o : Obj} (o' : Obj) (hl : X.heap[l]? = some o) (ho : o.isCells = false) (hB : B ≤ l) : Stab B M X (X.putObj l o') :=
  ⟨rfl, rfl, rfl, by simp, fun k o2 hk hb => by
    by_cases e : k = l
    · subst e
      rw [hl] at hk
      cases hk
      rcases hb with hb | hb
      · omega
      · rw [ho] at hb; cases hb
    · exact .inl ((World.putObj_heap_other e).trans hk)⟩

/-- Cells that no row of items is. -/
def Plain (o : Obj) : Prop := ∃ cs t fr, o = .cells cs t fr ∧ t ≠ 28

/-- What a round keeps: the blocks of K, the plain cells from N on, the records from C on. -/
structure Kp (N : Nat) (K : Nat → Prop) (C : Nat) (W W' : World) : Prop where
  size : W.heap.size ≤ W'.heap.size
  keep : ∀ k o, W.heap[k]? = some o → (K k ∨ (N ≤ k ∧ Plain o) ∨ (C ≤ k ∧ o.isCells = false)) → W'.heap[k]? = some o

theorem Kp.refl (N : Nat) (K : Nat → Prop) (C : Nat) (W : World) : Kp N K C W W := ⟨Nat.le_refl _, fun _ _ h _ => h⟩
theorem Kp.trans {N : Nat} {K : Nat → Prop} {C : Nat} {X Y Z : World} (h : Kp N K C X Y) (k : Kp N K C Y Z) : Kp N K C X Z :=
  ⟨Nat.le_trans h.size k.size, fun i o hi hb => k.keep i o (h.keep i o hi hb) hb⟩
theorem Kp.mono {N : Nat} {K : Nat → Prop} {C C' : Nat} {X Y : World} (h : Kp N K C X Y) (hC : C ≤ C') : Kp N K C' X Y :=
  ⟨h.size, fun i o hi hb => h.keep i o hi (hb.imp id (fun x => x.imp id (fun x => ⟨by omega, x.2⟩)))⟩
theorem Kp.of_turn {N : Nat} {K : Nat → Prop} {C : Nat} {A : Nat → Prop} {X Y : World} (h : Turn A X Y) (hA : ∀ k, k < X.heap.size → A k → ¬ K k ∧ (k < N ∨ ∃ cs fr, X.heap[k]? = some (.cells cs 28 fr)) ∧ (k < C ∨ ∃ cs t fr, X.heap[k]? = some (.cells cs t fr))) : Kp N K C X Y :=
  ⟨h.size, fun k o hk hb => by
    have hlt := (Array.getElem?_eq_some_iff.1 hk).1
    refine (h.block k hlt (fun ha => ?_)).trans hk
    obtain ⟨h1, h2, h3⟩ := hA k hlt ha
    rcases hb with hb | ⟨hb, cs, t, fr, rfl, ht⟩ | ⟨hb, ho⟩
    · exact h1 hb
    · rcases h2 with h2 | ⟨cs', fr', h2⟩
      · omega
      · rw [hk] at h2; cases h2; exact ht rfl
    · rcases h3 with h3 | ⟨cs', t', fr', h3⟩
      · omega
      · rw [hk] at h3; cases h3; cases ho⟩
theorem Kp.put {N : Nat} {K : Nat → Prop} {C : Nat} {X : World} {l : Nat} {o : Obj} (o' : Obj) (hl : X.heap[l]? = some o) (ho : o.isCells = false) (hK : ¬ K l) (hC : l < C) : Kp N K C X (X.putObj l o') :=
  ⟨by simp, fun k o2 hk hb => by
    by_cases e : k = l
    · subst e
      rw [hl] at hk
      cases hk
      rcases hb with hb | ⟨_, cs, t, fr, rfl, _⟩ | ⟨hb, _⟩
      · exact absurd hb hK
      · cases ho
      · omega
    · exact (World.putObj_heap_other e).trans hk⟩

/-- What is asked of an iterator: it goes through xs, as long as yield says so. -/
def Iter {α : Type} (N : Nat) (K M : Nat → Prop) (gf : Nat) (lb : Array Value) (encs : α → Array Value) (xs : List α) (W : World) : Prop :=
  ∀ (l : Nat) (J Jx : List α → World → Prop), (∀ s X Y, J s X → Stab (N + 2) M X Y → J s Y) → (∀ s X Y, Jx s X → Stab (N + 2) M X Y → Jx s Y) →
    (∀ pre x X, pre ++ [x] <+: xs → J pre X → YieldAt Fence.wide 0 Try.prog l (encs x) X fun e Y => (e = .returned (.bool true) ∧ J (pre ++ [x]) Y ∧ Kp N K (N + 2) X Y) ∨ (e = .returned (.bool false) ∧ Jx (pre ++ [x]) Y ∧ Kp N K (N + 2) X Y)) →
    J [] W → CallsIn Fence.wide 0 Try.prog gf (#[.func (.yield l) #[] #[]] ++ lb) W fun e Y => (∃ v, e = .returned v) ∧ (J xs Y ∨ ∃ pre, pre <+: xs ∧ Jx pre Y)

/-- How a round's body may be left. -/
def RPost {α : Type} (N : Nat) (K : Nat → Prop) (I : List α → World → Prop) (Ix : Code → List α → World → Prop) (s : List α) (W : World) : Exit → Act → World → Prop
  | .normal, _, Y => Kp N K N W Y ∧ I s Y
  | .ret, _, Y => Kp N K N W Y ∧ Ix .ret s Y
  | .exit id, _, Y => Kp N K N W Y ∧ Ix (.exit id) s Y
  | .goto t, _, Y => Kp N K N W Y ∧ Ix (.goto t) s Y
  | .panic _, _, _ => False
  | .outgrown, _, _ => False

/-- The statement. -/
theorem range_own {α : Type} {g : Operand} {ps : Array Tmp} {assign body : Code} {Q : Exit → Act → World → Prop} {a : Act} {w : World} {gf : Nat} {lb : Array Value} (hg : a.eval g = .func (.func gf) #[] lb)
    (eg : ∀ args w, (callFunc gf args).run Try.prog w = .ok (.enter gf args) w) {encs : α → Array Value} (hps : ∀ x, (encs x).size = ps.size) {xs : List α} {K M : Nat → Prop} (hK : ∀ k, K k → k < w.heap.size) (hM : ∀ k, M k → k < w.heap.size)
    (hseq : ∀ W, Below w.heap.size w W → w.heap.size + 2 ≤ W.heap.size → Iter w.heap.size K M gf lb encs xs W)
    (I : List α → World → Prop) (Ix : Code → List α → World → Prop) (hI : ∀ s X Y, I s X → Stab w.heap.size M X Y → I s Y) (hIx : ∀ c s X Y, Ix c s X → Stab w.heap.size M X Y → Ix c s Y) (h0 : I [] w)
    (Ax : α → Act → World → Prop) (hAx : ∀ x a' X Y, Ax x a' X → Stab w.heap.size M X Y → Ax x a' Y)
    (hassign : ∀ (l : Nat) (pre : List α) (x : α) (W : World) (Kc : Act → World → Prop), I pre W → (∀ a' Y, Kp w.heap.size K w.heap.size W Y → I pre Y → Ax x a' Y → Kc a' Y) →
      assign.wpIn (Fence.wide.inRound l) 0 Try.prog (Exit.then Kc (fun _ _ _ => False)) { tmps := (ps.zip (encs x)).foldl (fun t (p, v) => t.setIfInBounds p v) a.tmps, defers := [] } W)
    (hbody : ∀ (l : Nat) (pre : List α) (x : α) (a' : Act) (W : World), pre ++ [x] <+: xs → I pre W → Ax x a' W → body.wpIn (Fence.wide.inRound l) 0 Try.prog (RPost w.heap.size K I Ix (pre ++ [x]) W) a' W)
    (hdone : ∀ W, I xs W → W.heap[w.heap.size]? = some (.deferred (some [])) → Q .normal { a with defers := { target := .collected w.heap.size, args := #[] } :: a.defers } W)
    (hstop : ∀ c pre W, pre <+: xs → Ix c pre W → W.heap[w.heap.size]? = some (.deferred (some [])) → c.wpIn Fence.wide 0 Try.prog Q { a with defers := { target := .collected w.heap.size, args := #[] } :: a.defers } W) :
    (Code.rangeFunc g ps assign body).wpIn Fence.wide 0 Try.prog Q a w := by
  refine wpIn_rangeFunc (fun fn _ => ?_)
  -- the record, by its state and what is pending
  obtain ⟨rc, hrc⟩ : ∃ rc : LoopState → Option Code → Loop, rc = fun st pe => { state := st, pending := pe, fn := fn, tmps := a.tmps, params := ps, assign := assign, body := body, defers := w.heap.size } := ⟨_, rfl⟩
  obtain ⟨V, hV⟩ : ∃ V, (w.alloc (.deferred (some []))).alloc (.loop (rc .ready none)) = V := ⟨_, rfl⟩
  have hVs : V.heap.size = w.heap.size + 2 := by rw [← hV]; simp
  have hVb : Below w.heap.size w V := by rw [← hV]; exact ((Below.refl _ w).alloc (Nat.le_refl _) _).alloc (by simp) _
  have hVr : V.heap[w.heap.size + 1]? = some (.loop (rc .ready none)) := by
    rw [← hV]
    have := heap_alloc_new (w.alloc (.deferred (some []))) (.loop (rc .ready none))
    rwa [World.size_alloc] at this
  have hVd : V.heap[w.heap.size]? = some (.deferred (some [])) := by rw [← hV]; exact (Below.heap_alloc _ _ _ (by simp)).trans (heap_alloc_new w _)
  have notM : ¬ M w.heap.size ∧ ¬ M (w.heap.size + 1) := ⟨fun h => by have := hM _ h; omega, fun h => by have := hM _ h; omega⟩
  have notK : ¬ K (w.heap.size + 1) := fun h => by have := hK _ h; omega
  -- the two invariants that the iterator is asked to bear
  obtain ⟨J, hJ⟩ : ∃ J : List α → World → Prop, J = fun s X => I s X ∧ X.heap[w.heap.size + 1]? = some (.loop (rc .ready none)) ∧ X.heap[w.heap.size]? = some (.deferred (some [])) := ⟨_, rfl⟩
  obtain ⟨Jx, hJx⟩ : ∃ Jx : List α → World → Prop, Jx = fun s X => ∃ c, Ix c s X ∧ X.heap[w.heap.size + 1]? = some (.loop (rc .done (some c))) ∧ X.heap[w.heap.size]? = some (.deferred (some [])) := ⟨_, rfl⟩
  have wide : ∀ {X Y : World}, Stab (w.heap.size + 2) M X Y → Stab w.heap.size M X Y := fun h => h.mono (by omega) (fun _ x => x)
  have stJ : ∀ s X Y, J s X → Stab (w.heap.size + 2) M X Y → J s Y := by
    intro s X Y h st
    rw [hJ] at h ⊢
    exact ⟨hI s X Y h.1 (wide st), st.same h.2.1 notM.2 (.inl (by omega)), st.same h.2.2 notM.1 (.inl (by omega))⟩
  have stJx : ∀ s X Y, Jx s X → Stab (w.heap.size + 2) M X Y → Jx s Y := by
    intro s X Y h st
    rw [hJx] at h ⊢
    obtain ⟨c, h1, h2, h3⟩ := h
    exact ⟨c, hIx c s X Y h1 (wide st), st.same h2 notM.2 (.inl (by omega)), st.same h3 notM.1 (.inl (by omega))⟩
  have start : J [] V := by
    rw [hJ]
    exact ⟨hI _ _ _ h0 (by rw [← hV]; exact (Stab.below (bel1' w _)).trans (Stab.below (bel1' _ _))), hVr, hVd⟩
  refine ⟨w.heap.size + 1, [{ target := .collected w.heap.size, args := #[] }], V, { target := .fn (.func gf) lb, args := #[.func (.yield (w.heap.size + 1)) #[] #[]] }, V, gf, #[.func (.yield (w.heap.size + 1)) #[] #[]] ++ lb, V, ?_, ?_, fun _ _ => trivial, ?_, fun h => by simp [Fence.wide] at h, ?_⟩
  · rw [← hV, hrc]
    exact run_enterLoop_outer _ _ _ _ _
  · simp only [resolve, hg]
    simp [go_sem]
  · simp [invoke, go_sem, eg]
  · refine (hseq V hVb (by omega) (w.heap.size + 1) J Jx stJ stJx ?_ start).mono ?_
    · intro pre x X hpx hX
      rw [hJ] at hX
      obtain ⟨hi, hr, hd⟩ := hX
      have hlt : w.heap.size + 1 < X.heap.size := (Array.getElem?_eq_some_iff.1 hr).1
      have hy := run_yield (P := Try.prog) (args := encs x) hr (by rw [hrc]; exact hps x)
      rw [hrc] at hy
      refine ⟨fn, _, assign, body, hy, roundIn_of_wpIn trivial (hassign _ pre x X _ hi ?_)⟩
      intro a' Y hkY hiY hax
      have hrY : Y.heap[w.heap.size + 1]? = some (.loop (rc .ready none)) := hkY.keep _ _ hr (.inr (.inr ⟨by omega, rfl⟩))
      have hdY : Y.heap[w.heap.size]? = some (.deferred (some [])) := hkY.keep _ _ hd (.inr (.inr ⟨by omega, rfl⟩))
      have hltY : w.heap.size + 1 < Y.heap.size := (Array.getElem?_eq_some_iff.1 hrY).1
      refine ⟨_, run_beginRound hrY (by rw [hrc]), ?_⟩
      obtain ⟨Z, hZ⟩ : ∃ Z, Y.putObj (w.heap.size + 1) (.loop { rc .ready none with state := .busy }) = Z := ⟨_, rfl⟩
      rw [hZ]
      have hrZ : Z.heap[w.heap.size + 1]? = some (.loop (rc .busy none)) := by
        rw [← hZ, World.putObj_heap_same hltY, hrc]
      have hdZ : Z.heap[w.heap.size]? = some (.deferred (some [])) := by rw [← hZ]; exact (World.putObj_heap_other (by omega)).trans hdY
      have stZ : Stab w.heap.size M Y Z := by rw [← hZ]; exact Stab.put _ hrY rfl (by omega)
      have kZ : Kp w.heap.size K (w.heap.size + 2) X Z := (hkY.mono (by omega)).trans (by rw [← hZ]; exact Kp.put _ hrY rfl notK (by omega))
      refine wpIn_mono (hbody _ pre x a' Z hpx (hI _ _ _ hiY stZ) (hAx _ _ _ _ hax stZ)) ?_
      -- the round's end
      have last : ∀ (j : Option Code) (E : World), Kp w.heap.size K w.heap.size Z E →
          (Instr.endRound (w.heap.size + 1) j).run Try.prog E = .ok (.bool j.isNone) (E.putObj (w.heap.size + 1) (.loop (rc (if j.isNone then .ready else .done) j))) ∧
          Stab w.heap.size M E (E.putObj (w.heap.size + 1) (.loop (rc (if j.isNone then .ready else .done) j))) ∧
          (E.putObj (w.heap.size + 1) (.loop (rc (if j.isNone then .ready else .done) j))).heap[w.heap.size + 1]? = some (.loop (rc (if j.isNone then .ready else .done) j)) ∧
          (E.putObj (w.heap.size + 1) (.loop (rc (if j.isNone then .ready else .done) j))).heap[w.heap.size]? = some (.deferred (some [])) ∧
          Kp w.heap.size K (w.heap.size + 2) X (E.putObj (w.heap.size + 1) (.loop (rc (if j.isNone then .ready else .done) j))) := by
        intro j E hE
        have hrE := hE.keep _ _ hrZ (.inr (.inr ⟨by omega, rfl⟩))
        have hdE := hE.keep _ _ hdZ (.inr (.inr ⟨by omega, rfl⟩))
        have run := run_endRound (P := Try.prog) j hrE
        refine ⟨?_, Stab.put _ hrE rfl (by omega), World.putObj_heap_same (Array.getElem?_eq_some_iff.1 hrE).1, (World.putObj_heap_other (by omega)).trans hdE, (kZ.trans (hE.mono (by omega))).trans (Kp.put _ hrE rfl notK (by omega))⟩
        rw [run, hrc]
      have goes : ∀ (c : Code) (E : World), Kp w.heap.size K w.heap.size Z E → Ix c (pre ++ [x]) E → ∃ v E', (Instr.endRound (w.heap.size + 1) (some c)).run Try.prog E = .ok v E' ∧
          ((Ending.returned v = .returned (.bool true) ∧ J (pre ++ [x]) E' ∧ Kp w.heap.size K (w.heap.size + 2) X E') ∨ (Ending.returned v = .returned (.bool false) ∧ Jx (pre ++ [x]) E' ∧ Kp w.heap.size K (w.heap.size + 2) X E')) := by
        intro c E hE hx
        obtain ⟨h1, h2, h3, h4, h5⟩ := last (some c) E hE
        refine ⟨_, _, h1, .inr ⟨rfl, ?_, h5⟩⟩
        rw [hJx]
        exact ⟨c, hIx _ _ _ _ hx h2, h3, h4⟩
      intro e a3 E hE
      cases e with
      | normal =>
        obtain ⟨h1, h2, h3, h4, h5⟩ := last none E hE.1
        refine ⟨_, _, h1, .inl ⟨rfl, ?_, h5⟩⟩
        rw [hJ]
        exact ⟨hI _ _ _ hE.2 h2, h3, h4⟩
      | ret => exact goes .ret E hE.1 hE.2
      | exit id => exact goes (.exit id) E hE.1 hE.2
      | goto t => exact goes (.goto t) E hE.1 hE.2
      | panic ch => exact (hE : False).elim
      | outgrown => exact (hE : False).elim
    · rintro e E ⟨⟨v, rfl⟩, hE⟩
      rcases hE with hE | ⟨pre, hpre, hE⟩
      · rw [hJ] at hE
        obtain ⟨hi, hr, hd⟩ := hE
        have run := run_endLoop (P := Try.prog) hr (by rw [hrc]; simp)
        have run' : (Instr.endLoop (w.heap.size + 1)).run Try.prog E = .ok none (E.putObj (w.heap.size + 1) (.loop { rc .ready none with state := .exhausted })) := by rw [run, hrc]
        exact ⟨none, _, run', hdone _ (hI _ _ _ hi (Stab.put _ hr rfl (by omega))) ((World.putObj_heap_other (by omega)).trans hd)⟩
      · rw [hJx] at hE
        obtain ⟨c, hi, hr, hd⟩ := hE
        have run := run_endLoop (P := Try.prog) hr (by rw [hrc]; simp)
        have run' : (Instr.endLoop (w.heap.size + 1)).run Try.prog E = .ok (some c) (E.putObj (w.heap.size + 1) (.loop { rc .done (some c) with state := .exhausted })) := by rw [run, hrc]
        exact ⟨some c, _, run', hstop c pre _ hpre (hIx _ _ _ _ hi (Stab.put _ hr rfl (by omega))) ((World.putObj_heap_other (by omega)).trans hd)⟩

end Go.Proofs.Ytiggpbjgnododaa
