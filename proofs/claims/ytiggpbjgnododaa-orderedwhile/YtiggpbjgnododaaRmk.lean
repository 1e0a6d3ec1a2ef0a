/- A range over a function whose iterator sets a mark before all else. -/
import Derived.Test.YtiggpbjgnododaaTall
namespace Go.Proofs.Ytiggpbjgnododaa
open Go.RowKit Go.Shelf
set_option linter.unusedVariables false

/-- What is asked of such an iterator. -/
def IterM {α : Type} (db N : Nat) (K M : Nat → Prop) (gf : Nat) (lb : Array Value) (encs : α → Array Value) (xs : List α) (W : World) : Prop :=
  ∀ (l : Nat) (J Jx : List α → World → Prop), (∀ s X Y, J s X → Stab (N + 2) M X Y → J s Y) → (∀ s X Y, Jx s X → Stab (N + 2) M X Y → Jx s Y) →
    (∀ pre x X, pre ++ [x] <+: xs → J pre X → YieldAt Fence.wide 0 Try.prog l (encs x) X fun e Y => (e = .returned (.bool true) ∧ J (pre ++ [x]) Y ∧ Kp N K (N + 2) X Y) ∨ (e = .returned (.bool false) ∧ Jx (pre ++ [x]) Y ∧ Kp N K (N + 2) X Y)) →
    J [] (W.setCell ⟨db, 2, none⟩ (.bool true)) → CallsIn Fence.wide 0 Try.prog gf (#[.func (.yield l) #[] #[]] ++ lb) W fun e Y => (∃ v, e = .returned v) ∧ (J xs Y ∨ ∃ pre, pre <+: xs ∧ Jx pre Y)

/-- The statement, where the iterator sets a mark first. -/
theorem range_mark {α : Type} {g : Operand} {ps : Array Tmp} {assign body : Code} {Q : Exit → Act → World → Prop} {a : Act} {w : World} {gf : Nat} {lb : Array Value} (hg : a.eval g = .func (.func gf) #[] lb)
    (eg : ∀ args w, (callFunc gf args).run Try.prog w = .ok (.enter gf args) w) {encs : α → Array Value} (hps : ∀ x, (encs x).size = ps.size) {xs : List α} {K M : Nat → Prop} (hK : ∀ k, K k → k < w.heap.size) (hM : ∀ k, M k → k < w.heap.size)
    {db : Nat} (hdb : db < w.heap.size) (hseq : ∀ W, Below w.heap.size w W → w.heap.size + 2 ≤ W.heap.size → IterM db w.heap.size K M gf lb encs xs W)
    (I : List α → World → Prop) (Ix : Code → List α → World → Prop) (hI : ∀ s X Y, I s X → Stab w.heap.size M X Y → I s Y) (hIx : ∀ c s X Y, Ix c s X → Stab w.heap.size M X Y → Ix c s Y) (h0 : ∀ V, Below w.heap.size w V → I [] (V.setCell ⟨db, 2, none⟩ (.bool true)))
    (Ax : α → Act → World → Prop) (hAx : ∀ x a' X Y, Ax x a' X → Stab w.heap.size M X Y → Ax x a' Y)
    (hassign : ∀ (l : Nat) (pre : List α) (x : α) (W : World) (Kc : Act → World → Prop), I pre W → (∀ a' Y, Kp w.heap.size K w.heap.size W Y → I pre Y → Ax x a' Y → Kc a' Y) →
      assign.wpIn (Fence.wide.inRound l) 0 Try.prog (Exit.then Kc (fun _ _ _ => False)) { tmps := (ps.zip (encs x)).foldl (fun t (p, v) => t.setIfInBounds p v) a.tmps, defers := [] } W)
    (hbody : ∀ (l : Nat) (pre : List α) (x : α) (a' : Act) (W : World), pre ++ [x] <+: xs → I pre W → Ax x a' W → body.wpIn (Fence.wide.inRound l) 0 Try.prog (RPost w.heap.size K I Ix (pre ++ [x]) W) a' W)
    (hdone : ∀ W, I xs W → W.heap[w.heap.size]? = some (.deferred (some [])) → Q .normal { a with defers := { target := .collected w.heap.size, args := #[] } :: a.defers } W)
    (hstop : ∀ c pre W, pre <+: xs → Ix c pre W → W.heap[w.heap.size]? = some (.deferred (some [])) → c.wpIn Fence.wide 0 Try.prog Q { a with defers := { target := .collected w.heap.size, args := #[] } :: a.defers } W) :
    (Code.rangeFunc g ps assign body).wpIn Fence.wide 0 Try.prog Q a w := by
  refine wpIn_rangeFunc (fun fn _ => ?_)
  -- the record, by its state and what is pending
  obtain ⟨rc, hrc⟩ : ∃ rc : LoopState → Option Code → Loop, rc = fun st pe => { state := st, pending := pe, fn := fn, tmps := a.tmps, params := ps, assign := assign, body := body, defers := w.heap.size } := ⟨_, rfl⟩
  obtain ⟨V, hV⟩ : ∃ V, (w.alloc (.deferred (some []))).alloc (.loop (rc .ready none)) = V := ⟨_, rfl⟩
  have hVs : V.heap.size = w.heap.size + 2 := by rw [← hV]; simp
  have hVb : Below w.heap.size w V := by rw [← hV]; exact ((Below.refl _ w).alloc (Nat.le_refl _) _).alloc (by simp) _
  have hVr : V.heap[w.heap.size + 1]? = some (.loop (rc .ready none)) := by
    rw [← hV]
    have := heap_alloc_new (w.alloc (.deferred (some []))) (.loop (rc .ready none))
    rwa [World.size_alloc] at this
  have hVd : V.heap[w.heap.size]? = some (.deferred (some [])) := by rw [← hV]; exact (Below.heap_alloc _ _ _ (by simp)).trans (heap_alloc_new w _)
  have notM : ¬ M w.heap.size ∧ ¬ M (w.heap.size + 1) := ⟨fun h => by have := hM _ h; omega, fun h => by have := hM _ h; omega⟩
  have notK : ¬ K (w.heap.size + 1) := fun h => by have := hK _ h; omega
  -- the two invariants that the iterator is asked to bear
  obtain ⟨J, hJ⟩ : ∃ J : List α → World → Prop, J = fun s X => I s X ∧ X.heap[w.heap.size + 1]? = some (.loop (rc .ready none)) ∧ X.heap[w.heap.size]? = some (.deferred (some [])) := ⟨_, rfl⟩
  obtain ⟨Jx, hJx⟩ : ∃ Jx : List α → World → Prop, Jx = fun s X => ∃ c, Ix c s X ∧ X.heap[w.heap.size + 1]? = some (.loop (rc .done (some c))) ∧ X.heap[w.heap.size]? = some (.deferred (some [])) := ⟨_, rfl⟩
  have wide : ∀ {X Y : World}, Stab (w.heap.size + 2) M X Y → Stab w.heap.size M X Y := fun h => h.mono (by omega) (fun _ x => x)
  have stJ : ∀ s X Y, J s X → Stab (w.heap.size + 2) M X Y → J s Y := by
    intro s X Y h st
    rw [hJ] at h ⊢
    exact ⟨hI s X Y h.1 (wide st), st.same h.2.1 notM.2 (.inl (by omega)), st.same h.2.2 notM.1 (.inl (by omega))⟩
  have stJx : ∀ s X Y, Jx s X → Stab (w.heap.size + 2) M X Y → Jx s Y := by
    intro s X Y h st
    rw [hJx] at h ⊢
    obtain ⟨c, h1, h2, h3⟩ := h
    exact ⟨c, hIx c s X Y h1 (wide st), st.same h2 notM.2 (.inl (by omega)), st.same h3 notM.1 (.inl (by omega))⟩
  have start : J [] (V.setCell ⟨db, 2, none⟩ (.bool true)) := by
    rw [hJ]
    exact ⟨h0 V hVb, (Below.heap_setCell _ _ _ _ (by show w.heap.size + 1 ≠ db; omega)).trans hVr, (Below.heap_setCell _ _ _ _ (by show w.heap.size ≠ db; omega)).trans hVd⟩
  refine ⟨w.heap.size + 1, [{ target := .collected w.heap.size, args := #[] }], V, { target := .fn (.func gf) lb, args := #[.func (.yield (w.heap.size + 1)) #[] #[]] }, V, gf, #[.func (.yield (w.heap.size + 1)) #[] #[]] ++ lb, V, ?_, ?_, fun _ _ => trivial, ?_, fun h => by simp [Fence.wide] at h, ?_⟩
  · rw [← hV, hrc]
    exact run_enterLoop_outer _ _ _ _ _
  · simp only [resolve, hg]
    simp [go_sem]
  · simp [invoke, go_sem, eg]
  · refine (hseq V hVb (by omega) (w.heap.size + 1) J Jx stJ stJx ?_ start).mono ?_
    · intro pre x X hpx hX
      rw [hJ] at hX
      obtain ⟨hi, hr, hd⟩ := hX
      have hlt : w.heap.size + 1 < X.heap.size := (Array.getElem?_eq_some_iff.1 hr).1
      have hy := run_yield (P := Try.prog) (args := encs x) hr (by rw [hrc]; exact hps x)
      rw [hrc] at hy
      refine ⟨fn, _, assign, body, hy, roundIn_of_wpIn trivial (hassign _ pre x X _ hi ?_)⟩
      intro a' Y hkY hiY hax
      have hrY : Y.heap[w.heap.size + 1]? = some (.loop (rc .ready none)) := hkY.keep _ _ hr (.inr (.inr ⟨by omega, rfl⟩))
      have hdY : Y.heap[w.heap.size]? = some (.deferred (some [])) := hkY.keep _ _ hd (.inr (.inr ⟨by omega, rfl⟩))
      have hltY : w.heap.size + 1 < Y.heap.size := (Array.getElem?_eq_some_iff.1 hrY).1
      refine ⟨_, run_beginRound hrY (by rw [hrc]), ?_⟩
      obtain ⟨Z, hZ⟩ : ∃ Z, Y.putObj (w.heap.size + 1) (.loop { rc .ready none with state := .busy }) = Z := ⟨_, rfl⟩
      rw [hZ]
      have hrZ : Z.heap[w.heap.size + 1]? = some (.loop (rc .busy none)) := by
        rw [← hZ, World.putObj_heap_same hltY, hrc]
      have hdZ : Z.heap[w.heap.size]? = some (.deferred (some [])) := by rw [← hZ]; exact (World.putObj_heap_other (by omega)).trans hdY
      have stZ : Stab w.heap.size M Y Z := by rw [← hZ]; exact Stab.put _ hrY rfl (by omega)
      have kZ : Kp w.heap.size K (w.heap.size + 2) X Z := (hkY.mono (by omega)).trans (by rw [← hZ]; exact Kp.put _ hrY rfl notK (by omega))
      refine wpIn_mono (hbody _ pre x a' Z hpx (hI _ _ _ hiY stZ) (hAx _ _ _ _ hax stZ)) ?_
      -- the round's end
      have last : ∀ (j : Option Code) (E : World), Kp w.heap.size K w.heap.size Z E →
          (Instr.endRound (w.heap.size + 1) j).run Try.prog E = .ok (.bool j.isNone) (E.putObj (w.heap.size + 1) (.loop (rc (if j.isNone then .ready else .done) j))) ∧
          Stab w.heap.size M E (E.putObj (w.heap.size + 1) (.loop (rc (if j.isNone then .ready else .done) j))) ∧
          (E.putObj (w.heap.size + 1) (.loop (rc (if j.isNone then .ready else .done) j))).heap[w.heap.size + 1]? = some (.loop (rc (if j.isNone then .ready else .done) j)) ∧
          (E.putObj (w.heap.size + 1) (.loop (rc (if j.isNone then .ready else .done) j))).heap[w.heap.size]? = some (.deferred (some [])) ∧
          Kp w.heap.size K (w.heap.size + 2) X (E.putObj (w.heap.size + 1) (.loop (rc (if j.isNone then .ready else .done) j))) := by
        intro j E hE
        have hrE := hE.keep _ _ hrZ (.inr (.inr ⟨by omega, rfl⟩))
        have hdE := hE.keep _ _ hdZ (.inr (.inr ⟨by omega, rfl⟩))
        have run := run_endRound (P := Try.prog) j hrE
        refine ⟨?_, Stab.put _ hrE rfl (by omega), World.putObj_heap_same (Array.getElem?_eq_some_iff.1 hrE).1, (World.putObj_heap_other (by omega)).trans hdE, (kZ.trans (hE.mono (by omega))).trans (Kp.put _ hrE rfl notK (by omega))⟩
        rw [run, hrc]
      have goes : ∀ (c : Code) (E : World), Kp w.heap.size K w.heap.size Z E → Ix c (pre ++ [x]) E → ∃ v E', (Instr.endRound (w.heap.size + 1) (some c)).run Try.prog E = .ok v E' ∧
          ((Ending.returned v = .returned (.bool true) ∧ J (pre ++ [x]) E' ∧ Kp w.heap.size K (w.heap.size + 2) X E') ∨ (Ending.returned v = .returned (.bool false) ∧ Jx (pre ++ [x]) E' ∧ Kp w.heap.size K (w.heap.size + 2) X E')) := by
        intro c E hE hx
        obtain ⟨h1, h2, h3, h4, h5⟩ := last (some c) E hE
        refine ⟨_, _, h1, .inr ⟨rfl, ?_, h5⟩⟩
        rw [hJx]
        exact ⟨c, hIx _ _ _ _ hx h2, h3, h4⟩
      intro e a3 E hE
      cases e with
      | normal =>
        obtain ⟨h1, h2, h3, h4, h5⟩ := last none E hE.1
        refine ⟨_, _, h1, .inl ⟨rfl, ?_, h5⟩⟩
        rw [hJ]
        exact ⟨hI _ _ _ hE.2 h2, h3, h4⟩
      | ret => exact goes .ret E hE.1 hE.2
      | exit id => exact goes (.exit id) E hE.1 hE.2
      | goto t => exact goes (.goto t) E hE.1 hE.2
      | panic ch => exact (hE : False).elim
      | outgrown => exact (hE : False).elim
    · rintro e E ⟨⟨v, rfl⟩, hE⟩
      rcases hE with hE | ⟨pre, hpre, hE⟩
      · rw [hJ] at hE
        obtain ⟨hi, hr, hd⟩ := hE
        have run := run_endLoop (P := Try.prog) hr (by rw [hrc]; simp)
        have run' : (Instr.endLoop (w.heap.size + 1)).run Try.prog E = .ok none (E.putObj (w.heap.size + 1) (.loop { rc .ready none with state := .exhausted })) := by rw [run, hrc]
        exact ⟨none, _, run', hdone _ (hI _ _ _ hi (Stab.put _ hr rfl (by omega))) ((World.putObj_heap_other (by omega)).trans hd)⟩
      · rw [hJx] at hE
        obtain ⟨c, hi, hr, hd⟩ := hE
        have run := run_endLoop (P := Try.prog) hr (by rw [hrc]; simp)
        have run' : (Instr.endLoop (w.heap.size + 1)).run Try.prog E = .ok (some c) (E.putObj (w.heap.size + 1) (.loop { rc .done (some c) with state := .exhausted })) := by rw [run, hrc]
        exact ⟨some c, _, run', hstop c pre _ hpre (hIx _ _ _ _ hi (Stab.put _ hr rfl (by omega))) ((World.putObj_heap_other (by omega)).trans hd)⟩

end Go.Proofs.Ytiggpbjgnododaa
namespace Go.Proofs.Ytiggpbjgnododaa.T
open Go.RowKit Go.Shelf
set_option linter.unusedVariables false
attribute [local go_sem] Oper.semAt_some

set_option maxRecDepth 100000 in
set_option maxHeartbeats 1000000 in
theorem all_marks (N : Nat) (K M : Nat → Prop) (bp : Nat) (W : World) (B db g : Nat) (caps : Array Value) (L : List (Int × Int)) (a : Option Addr) (cap : Nat) (lent : Bool) (ed : Int)
    (hbp : W.cell? ⟨bp, 0, none⟩ = some (.pointer (some ⟨db, 0, none⟩))) (h : LAt W B db g caps L a cap lent ed) (hM : M db) (hK : ∀ k, (Value.slice a L.length cap).ownBlock = some k → K k) :
    IterM db N K M 47 #[.pointer (some ⟨bp, 0, none⟩)] enc2 (enum L) W := by
  intro l J Jx hJ hJx hY h0
  have hlend := lend_any W B db g caps L a cap lent ed h
  have h1 := h.lent
  obtain ⟨W1, hW1⟩ : ∃ W1, W.setCell ⟨db, 2, none⟩ (.bool true) = W1 := ⟨_, rfl⟩
  rw [hW1] at h1 hlend
  have hsall := sall_any W1 a L.length cap
  have hit : Iter N K M 76 #[.pointer (some ⟨W1.heap.size, 0, none⟩)] enc2 (enum L) (W1.alloc (.cells #[.slice a L.length cap] 31)) :=
    all_iter N K M W1.heap.size cap a L _ (by have := h.len; omega) ((isCells_new W1 _ _).cell 0) ((seg_of h1.items hK).below (bel1 _ _))
  have hgo := hit l J Jx hJ hJx hY (hJ _ _ _ (by rw [← hW1]; exact h0) (Stab.below (bel1 _ _)))
  have HG : Hid (CallsIn Fence.wide 0 Try.prog 76 (#[.func (.yield l) #[] #[]] ++ #[.pointer (some ⟨W1.heap.size, 0, none⟩)]) (W1.alloc (.cells #[.slice a L.length cap] 31)) fun e Y => (∃ v, e = .returned v) ∧ (J (enum L) Y ∨ ∃ pre, pre <+: enum L ∧ Jx pre Y)) := hgo
  clear hit hgo hJ hJx hY h0 h h1 hK hW1
  refine callsIn_of_wp Try.func47 rfl trivial ?_ rfl
  simp only [Try.ntmps47, List.size_toArray, List.length_cons, List.length_nil, Nat.reduceAdd, Nat.reduceSub, Array.replicate_succ, Array.replicate_zero, List.push_toArray, List.append_toArray, List.nil_append, List.cons_append]
  gi_wp2_with fail
  refine ⟨trivial, rfl, (callsIn_wide.2 hlend).mono ?_⟩
  rintro e W2 ⟨rfl, rfl⟩
  clear hlend
  gi_wp2_with fail
  refine ⟨trivial, rfl, (callsIn_wide.2 hsall).mono ?_⟩
  rintro e W3 ⟨rfl, rfl⟩
  clear hsall
  have eg : ∀ args w, (callFunc 76 args).run Try.prog w = .ok (.enter 76 args) w := enters_of Try.func76 (by kernel_rfl) rfl
  gi_wp2_with fail
  refine ⟨trivial, rfl, HG.out.mono ?_⟩
  rintro e W4 ⟨⟨v, rfl⟩, hE⟩
  have HE : Hid (J (enum L) W4 ∨ ∃ pre, pre <+: enum L ∧ Jx pre W4) := hE
  clear HG hE
  gi_wp2
  go_end0
  exact ⟨⟨_, rfl⟩, HE.out⟩

end Go.Proofs.Ytiggpbjgnododaa.T
