/- A range over a function, by who owns what: an iterator, whoever ranges over it, and the statement. -/
import Derived.Below
import Derived.RangeFuncNested
import Derived.RangeFuncLeaves
import Derived.RangeFuncBound
import Derived.RangeFuncCalls
import Derived.Shelf.Abstract
import Derived.Shelf.RegionOpen
import Derived.OwnWalkIn
import Derived.TacticsInMore
import Derived.LoopNIn
import Derived.LoopIn
namespace Go.Proofs.Ytjkgjckkglfokaa
open Go.RowKit Go.Shelf
set_option linter.unusedVariables false

/-- Only blocks of A are turned, and new ones. -/
structure Tn (A : Nat → Prop) (w w' : World) : Prop where
  os : w'.os = w.os
  tape : w'.tape = w.tape
  output : w'.output = w.output
  size : w.heap.size ≤ w'.heap.size
  block : ∀ k, k < w.heap.size → ¬ A k → w'.heap[k]? = w.heap[k]?
theorem Tn.refl (A : Nat → Prop) (w : World) : Tn A w w := ⟨rfl, rfl, rfl, Nat.le_refl _, fun _ _ _ => rfl⟩
theorem Tn.mono {A B : Nat → Prop} {a b : World} (h : Tn A a b) (hAB : ∀ k, k < a.heap.size → A k → B k) : Tn B a b :=
  ⟨h.os, h.tape, h.output, h.size, fun i hi hb => h.block i hi (fun ha => hb (hAB i hi ha))⟩
/-- What is behind may turn what is new besides. -/
theorem Tn.trans {A B : Nat → Prop} {a b c : World} (h : Tn A a b) (k : Tn B b c) (hB : ∀ i, i < a.heap.size → B i → A i) : Tn A a c :=
  ⟨k.os.trans h.os, k.tape.trans h.tape, k.output.trans h.output, Nat.le_trans h.size k.size, fun i hi ha => (k.block i (Nat.lt_of_lt_of_le hi h.size) (fun hb => ha (hB i hi hb))).trans (h.block i hi ha)⟩
theorem Tn.of_below {A : Nat → Prop} {B : Nat} {a b : World} (h : Below B a b) (hB : a.heap.size ≤ B) : Tn A a b := ⟨h.os, h.tape, h.output, h.size, fun i hi _ => h.block i (by omega)⟩
theorem Tn.below {A : Nat → Prop} {B : Nat} {a b : World} (h : Tn A a b) (hB : B ≤ a.heap.size) (hA : ∀ k, A k → B ≤ k) : Below B a b :=
  ⟨h.os, h.tape, h.output, h.size, fun k hk => h.block k (by omega) (fun ha => by have := hA k ha; omega)⟩
theorem Tn.put (w : World) (l : Nat) (o : Obj) : Tn (fun k => k = l) w (w.putObj l o) := ⟨rfl, rfl, rfl, by simp, fun k _ hn => World.putObj_heap_other hn⟩
theorem Tn.set {A : Nat → Prop} {a w : World} (h : Tn A a w) {p : Addr} (hp : A p.block ∨ a.heap.size ≤ p.block) (u : Value) : Tn A a (w.setCell p u) :=
  ⟨h.os, h.tape, h.output, Nat.le_trans h.size (by simp [World.setCell]), fun k hk ha => (Below.heap_setCell _ _ _ _ (fun e => by
    rcases hp with hp | hp
    · exact ha (by rw [e]; exact hp)
    · omega)).trans (h.block k hk ha)⟩
theorem Tn.alloc {A : Nat → Prop} {a w : World} (h : Tn A a w) (o : Obj) : Tn A a (w.alloc o) :=
  ⟨h.os, h.tape, h.output, Nat.le_trans h.size (by simp), fun k hk ha => (Below.heap_alloc _ _ _ (Nat.lt_of_lt_of_le hk h.size)).trans (h.block k hk ha)⟩
theorem Tn.drew {A : Nat → Prop} {a w : World} (h : Tn A a w) : Tn A a w.drew := ⟨h.os, h.tape, h.output, h.size, h.block⟩

/-- What somebody who ranges holds: what was told, his blocks, the world. -/
abbrev Inv (α : Type) := List α → (Nat → Prop) → World → Prop
/-- It hangs on his blocks alone, and on some (D) that nobody turns. -/
def Stb {α : Type} (D : Nat → Prop) (J : Inv α) : Prop := (∀ s C X, J s C X → ∀ b, C b ∨ D b → b < X.heap.size) ∧ ∀ s C A X Y, J s C X → Tn A X Y → (∀ b, C b ∨ D b → ¬ A b) → J s C Y
/-- A round: only his blocks are turned; what is his afterwards was so or is new. -/
def RoundOk {α : Type} (P : Program) (l : Nat) (encs : α → Array Value) (xs : List α) (J Jx : Inv α) : Prop :=
  ∀ pre x C X, pre ++ [x] <+: xs → J pre C X → YieldAt Fence.wide 0 P l (encs x) X fun e Y => ∃ C', Tn C X Y ∧ (∀ b, C' b → C b ∨ X.heap.size ≤ b) ∧ ((e = .returned (.bool true) ∧ J (pre ++ [x]) C' Y) ∨ (e = .returned (.bool false) ∧ Jx (pre ++ [x]) C' Y))
/-- An iterator: function gf over what it has caught; it tells xs, reads blocks of R, turns blocks of T alone; Sq: what must be so of them. -/
structure IsSeq {α : Type} (P : Program) (gf : Nat) (lb : Array Value) (encs : α → Array Value) (xs : List α) (R T : Nat → Prop) (Sq : World → Prop) : Prop where
  sub : ∀ b, T b → R b
  lt : ∀ W, Sq W → ∀ b, R b → b < W.heap.size
  stab : ∀ W W' A, Sq W → Tn A W W' → (∀ b, R b → ¬ A b) → Sq W'
  run : ∀ W l (J Jx : Inv α) C0 D, Sq W → Stb D J → Stb D Jx → RoundOk P l encs xs J Jx → J [] C0 W → (∀ b, C0 b → ¬ R b) → (∀ b, D b → ¬ T b) →
    CallsIn Fence.wide 0 P gf (#[.func (.yield l) #[] #[]] ++ lb) W fun e Y => (∃ v, e = .returned v) ∧ Tn (fun b => T b ∨ C0 b) W Y ∧ Sq Y ∧ ∃ C, (∀ b, C b → C0 b ∨ W.heap.size ≤ b) ∧ (J xs C Y ∨ ∃ pre, pre <+: xs ∧ Jx pre C Y)

/-- How a round's body may be left. -/
def RPost {α : Type} (I : Inv α) (Ix : Code → Inv α) (s : List α) (C : Nat → Prop) (W : World) (e : Exit) (Y : World) : Prop :=
  ∃ C', Tn C W Y ∧ (∀ b, C' b → C b ∨ W.heap.size ≤ b) ∧ match e with
    | .normal => I s C' Y
    | .ret => Ix .ret s C' Y
    | .exit id => Ix (.exit id) s C' Y
    | .goto t => Ix (.goto t) s C' Y
    | .panic _ => False
    | .outgrown => False

theorem range_it {α : Type} {P : Program} {g : Operand} {ps : Array Tmp} {assign body : Code} {Q : Exit → Act → World → Prop} {a : Act} {w : World} {gf : Nat} {lb : Array Value} (hg : a.eval g = .func (.func gf) #[] lb)
    (eg : ∀ args w, (callFunc gf args).run P w = .ok (.enter gf args) w) {encs : α → Array Value} (hps : ∀ x, (encs x).size = ps.size) {xs : List α} {R T : Nat → Prop} {Sq : World → Prop} (hs : IsSeq P gf lb encs xs R T Sq) (hw : Sq w)
    (I : Inv α) (Ix : Code → Inv α) (D : Nat → Prop) (hI : Stb D I) (hIx : ∀ c, Stb D (Ix c)) (C0 : Nat → Prop) (h0 : I [] C0 w) (hd : ∀ b, C0 b → ¬ R b) (hdT : ∀ b, D b → ¬ T b)
    (Ax : α → Act → Prop)
    (hassign : ∀ (l : Nat) (x : α) (W : World) (Kc : Act → World → Prop), (∀ a', Ax x a' → Kc a' W) →
      assign.wpIn (Fence.wide.inRound l) 0 P (Exit.then Kc (fun _ _ _ => False)) { tmps := (ps.zip (encs x)).foldl (fun t (p, v) => t.setIfInBounds p v) a.tmps, defers := [] } W)
    (hbody : ∀ (l : Nat) (pre : List α) (x : α) (a' : Act) (C : Nat → Prop) (W : World), pre ++ [x] <+: xs → I pre C W → Ax x a' → body.wpIn (Fence.wide.inRound l) 0 P (fun e _ Y => RPost I Ix (pre ++ [x]) C W e Y) a' W)
    (hdone : ∀ C W, I xs C W → Tn (fun b => T b ∨ C0 b) w W → Sq W → (∀ b, C b → C0 b ∨ w.heap.size ≤ b) → W.heap[w.heap.size]? = some (.deferred (some [])) → ¬ C w.heap.size → Q .normal { a with defers := { target := .collected w.heap.size, args := #[] } :: a.defers } W)
    (hstop : ∀ c pre C W, pre <+: xs → Ix c pre C W → Tn (fun b => T b ∨ C0 b) w W → Sq W → (∀ b, C b → C0 b ∨ w.heap.size ≤ b) → W.heap[w.heap.size]? = some (.deferred (some [])) → ¬ C w.heap.size → c.wpIn Fence.wide 0 P Q { a with defers := { target := .collected w.heap.size, args := #[] } :: a.defers } W) :
    (Code.rangeFunc g ps assign body).wpIn Fence.wide 0 P Q a w := by
  refine wpIn_rangeFunc (fun fn _ => ?_)
  obtain ⟨rc, hrc⟩ : ∃ rc : LoopState → Option Code → Loop, rc = fun st pe => { state := st, pending := pe, fn := fn, tmps := a.tmps, params := ps, assign := assign, body := body, defers := w.heap.size } := ⟨_, rfl⟩
  obtain ⟨V, hV⟩ : ∃ V, (w.alloc (.deferred (some []))).alloc (.loop (rc .ready none)) = V := ⟨_, rfl⟩
  have hVs : V.heap.size = w.heap.size + 2 := by rw [← hV]; simp
  have hVb : Below w.heap.size w V := by rw [← hV]; exact ((Below.refl _ w).alloc (Nat.le_refl _) _).alloc (by simp) _
  have hVr : V.heap[w.heap.size + 1]? = some (.loop (rc .ready none)) := by
    rw [← hV]
    have := heap_alloc_new (w.alloc (.deferred (some []))) (.loop (rc .ready none))
    rwa [World.size_alloc] at this
  have hVd : V.heap[w.heap.size]? = some (.deferred (some [])) := by rw [← hV]; exact (Below.heap_alloc _ _ _ (by simp)).trans (heap_alloc_new w _)
  have hRl : ∀ b, R b → b < w.heap.size := hs.lt w hw
  have hC0l : ∀ b, C0 b → b < w.heap.size := fun b hb => hI.1 _ _ _ h0 b (.inl hb)
  have hDl : ∀ b, D b → b < w.heap.size := fun b hb => hI.1 _ _ _ h0 b (.inr hb)
  obtain ⟨N, hN⟩ : ∃ N, N = w.heap.size := ⟨_, rfl⟩
  rw [← hN] at hVs hVb hVr hVd hRl hC0l hDl
  obtain ⟨J, hJ⟩ : ∃ J : Inv α, J = fun s C X => ∃ Cu, C = (fun b => Cu b ∨ b = N ∨ b = N + 1) ∧ I s Cu X ∧ ¬ Cu N ∧ ¬ Cu (N + 1) ∧ X.heap[N + 1]? = some (.loop (rc .ready none)) ∧ X.heap[N]? = some (.deferred (some [])) := ⟨_, rfl⟩
  obtain ⟨Jx, hJx⟩ : ∃ Jx : Inv α, Jx = fun s C X => ∃ c Cu, C = (fun b => Cu b ∨ b = N ∨ b = N + 1) ∧ Ix c s Cu X ∧ ¬ Cu N ∧ ¬ Cu (N + 1) ∧ X.heap[N + 1]? = some (.loop (rc .done (some c))) ∧ X.heap[N]? = some (.deferred (some [])) := ⟨_, rfl⟩
  have keep : ∀ {A : Nat → Prop} {X Y : World} {k : Nat} {o : Obj}, Tn A X Y → X.heap[k]? = some o → ¬ A k → Y.heap[k]? = some o := fun h h1 h2 => (h.block _ (Array.getElem?_eq_some_iff.1 h1).1 h2).trans h1
  have stJ : Stb D J := by
    refine ⟨fun s C X h b hb => ?_, fun s C A X Y h ht hA => ?_⟩
    · rw [hJ] at h
      obtain ⟨Cu, rfl, h1, -, -, h2, h3⟩ := h
      rcases hb with (hb | rfl | rfl) | hb
      · exact hI.1 _ _ _ h1 b (.inl hb)
      · exact (Array.getElem?_eq_some_iff.1 h3).1
      · exact (Array.getElem?_eq_some_iff.1 h2).1
      · exact hI.1 _ _ _ h1 b (.inr hb)
    · rw [hJ] at h ⊢
      obtain ⟨Cu, rfl, h1, n1, n2, h2, h3⟩ := h
      exact ⟨Cu, rfl, hI.2 _ _ _ _ _ h1 ht (fun b hb => hA b (hb.imp .inl id)), n1, n2, keep ht h2 (hA _ (.inl (.inr (.inr rfl)))), keep ht h3 (hA _ (.inl (.inr (.inl rfl))))⟩
  have stJx : Stb D Jx := by
    refine ⟨fun s C X h b hb => ?_, fun s C A X Y h ht hA => ?_⟩
    · rw [hJx] at h
      obtain ⟨c, Cu, rfl, h1, -, -, h2, h3⟩ := h
      rcases hb with (hb | rfl | rfl) | hb
      · exact (hIx c).1 _ _ _ h1 b (.inl hb)
      · exact (Array.getElem?_eq_some_iff.1 h3).1
      · exact (Array.getElem?_eq_some_iff.1 h2).1
      · exact (hIx c).1 _ _ _ h1 b (.inr hb)
    · rw [hJx] at h ⊢
      obtain ⟨c, Cu, rfl, h1, n1, n2, h2, h3⟩ := h
      exact ⟨c, Cu, rfl, (hIx c).2 _ _ _ _ _ h1 ht (fun b hb => hA b (hb.imp .inl id)), n1, n2, keep ht h2 (hA _ (.inl (.inr (.inr rfl)))), keep ht h3 (hA _ (.inl (.inr (.inl rfl))))⟩
  have hwV : Sq V := hs.stab w V (fun _ => False) hw (Tn.of_below hVb (by omega)) (fun _ _ h => h)
  have hIV : I [] C0 V := hI.2 _ _ (fun _ => False) _ _ h0 (Tn.of_below hVb (by omega)) (fun _ _ h => h)
  have nC0 : ¬ C0 N ∧ ¬ C0 (N + 1) := ⟨fun h => by have := hC0l _ h; omega, fun h => by have := hC0l _ h; omega⟩
  have start : J [] (fun b => C0 b ∨ b = N ∨ b = N + 1) V := by
    rw [hJ]
    exact ⟨C0, rfl, hIV, nC0.1, nC0.2, hVr, hVd⟩
  refine ⟨w.heap.size + 1, [{ target := .collected w.heap.size, args := #[] }], V, { target := .fn (.func gf) lb, args := #[.func (.yield (w.heap.size + 1)) #[] #[]] }, V, gf, #[.func (.yield (w.heap.size + 1)) #[] #[]] ++ lb, V, ?_, ?_, fun _ _ => trivial, ?_, fun h => by simp [Fence.wide] at h, ?_⟩
  · rw [← hV, hrc]
    exact run_enterLoop_outer _ _ _ _ _
  · simp only [resolve, hg]
    simp [go_sem]
  · simp [invoke, go_sem, eg]
  · rw [← hN]
    refine (hs.run V (N + 1) J Jx _ D hwV stJ stJx ?_ start (fun b hb h => ?_) hdT).mono ?_
    · intro pre x C X hpx hX
      rw [hJ] at hX
      obtain ⟨Cu, rfl, hi, n1, n2, hr, hdd⟩ := hX
      have hlt : N + 1 < X.heap.size := (Array.getElem?_eq_some_iff.1 hr).1
      have hy := run_yield (P := P) (args := encs x) hr (by rw [hrc]; exact hps x)
      rw [hrc] at hy
      refine ⟨fn, _, assign, body, hy, roundIn_of_wpIn trivial (hassign _ x X _ ?_)⟩
      intro a' hax
      refine ⟨_, run_beginRound hr (by rw [hrc]), ?_⟩
      obtain ⟨Z, hZ⟩ : ∃ Z, X.putObj (N + 1) (.loop { rc .ready none with state := .busy }) = Z := ⟨_, rfl⟩
      rw [hZ]
      have tZ : Tn (fun k => k = N + 1) X Z := by rw [← hZ]; exact Tn.put _ _ _
      have hsZ : Z.heap.size = X.heap.size := by rw [← hZ]; simp
      have hrZ : Z.heap[N + 1]? = some (.loop (rc .busy none)) := by
        rw [← hZ, World.putObj_heap_same hlt, hrc]
      have hdZ : Z.heap[N]? = some (.deferred (some [])) := keep tZ hdd (by omega)
      have hiZ : I pre Cu Z := hI.2 _ _ _ _ _ hi tZ (fun b hb (e : b = N + 1) => hb.elim (fun hb => n2 (e ▸ hb)) (fun hb => by have := hDl b hb; omega))
      refine wpIn_mono (hbody _ pre x a' Cu Z hpx hiZ hax) ?_
      have last : ∀ (j : Option Code) (E : World) (C' : Nat → Prop), Tn Cu Z E → (∀ b, C' b → Cu b ∨ Z.heap.size ≤ b) →
          (Instr.endRound (N + 1) j).run P E = .ok (.bool j.isNone) (E.putObj (N + 1) (.loop (rc (if j.isNone then .ready else .done) j))) ∧
          (E.putObj (N + 1) (.loop (rc (if j.isNone then .ready else .done) j))).heap[N + 1]? = some (.loop (rc (if j.isNone then .ready else .done) j)) ∧
          (E.putObj (N + 1) (.loop (rc (if j.isNone then .ready else .done) j))).heap[N]? = some (.deferred (some [])) ∧
          Tn (fun b => Cu b ∨ b = N ∨ b = N + 1) X (E.putObj (N + 1) (.loop (rc (if j.isNone then .ready else .done) j))) ∧
          (¬ C' N ∧ ¬ C' (N + 1)) ∧ (∀ b, (C' b ∨ b = N ∨ b = N + 1) → (Cu b ∨ b = N ∨ b = N + 1) ∨ X.heap.size ≤ b) := by
        intro j E C' hE hC
        have hrE := keep hE hrZ n2
        have hdE := keep hE hdZ n1
        have run := run_endRound (P := P) j hrE
        have tt : Tn (fun b => Cu b ∨ b = N ∨ b = N + 1) X (E.putObj (N + 1) (.loop (rc (if j.isNone then .ready else .done) j))) :=
          ((tZ.mono (B := fun b => Cu b ∨ b = N ∨ b = N + 1) (fun k _ e => .inr (.inr e))).trans hE (fun i _ h => .inl h)).trans (Tn.put _ _ _) (fun i _ h => .inr (.inr h))
        refine ⟨?_, World.putObj_heap_same (Array.getElem?_eq_some_iff.1 hrE).1, (World.putObj_heap_other (by omega)).trans hdE, tt, ⟨fun h => ?_, fun h => ?_⟩, fun b hb => ?_⟩
        · rw [run, hrc]
        · rcases hC _ h with h | h
          · exact n1 h
          · omega
        · rcases hC _ h with h | h
          · exact n2 h
          · omega
        · rcases hb with hb | hb
          · rcases hC _ hb with h | h
            · exact .inl (.inl h)
            · exact .inr (by omega)
          · exact .inl (.inr hb)
      have goes : ∀ (c : Code) (E : World) (C' : Nat → Prop), Tn Cu Z E → (∀ b, C' b → Cu b ∨ Z.heap.size ≤ b) → Ix c (pre ++ [x]) C' E → ∃ v E', (Instr.endRound (N + 1) (some c)).run P E = .ok v E' ∧
          ∃ C'', Tn (fun b => Cu b ∨ b = N ∨ b = N + 1) X E' ∧ (∀ b, C'' b → (Cu b ∨ b = N ∨ b = N + 1) ∨ X.heap.size ≤ b) ∧ ((Ending.returned v = .returned (.bool true) ∧ J (pre ++ [x]) C'' E') ∨ (Ending.returned v = .returned (.bool false) ∧ Jx (pre ++ [x]) C'' E')) := by
        intro c E C' hE hC hx
        obtain ⟨h1, h2, h3, h4, h5, h6⟩ := last (some c) E C' hE hC
        refine ⟨_, _, h1, (fun b => C' b ∨ b = N ∨ b = N + 1), h4, h6, .inr ⟨rfl, ?_⟩⟩
        rw [hJx]
        exact ⟨c, C', rfl, (hIx c).2 _ _ _ _ _ hx (Tn.put _ _ _) (fun b hb (e : b = N + 1) => hb.elim (fun hb => h5.2 (e ▸ hb)) (fun hb => by have := hDl b hb; omega)), h5.1, h5.2, h2, h3⟩
      intro e a3 E hE
      obtain ⟨C', hE1, hE2, hE3⟩ := hE
      cases e with
      | normal =>
        obtain ⟨h1, h2, h3, h4, h5, h6⟩ := last none E C' hE1 hE2
        refine ⟨_, _, h1, (fun b => C' b ∨ b = N ∨ b = N + 1), h4, h6, .inl ⟨rfl, ?_⟩⟩
        rw [hJ]
        exact ⟨C', rfl, hI.2 _ _ _ _ _ hE3 (Tn.put _ _ _) (fun b hb (e : b = N + 1) => hb.elim (fun hb => h5.2 (e ▸ hb)) (fun hb => by have := hDl b hb; omega)), h5.1, h5.2, h2, h3⟩
      | ret => exact goes .ret E C' hE1 hE2 hE3
      | exit id => exact goes (.exit id) E C' hE1 hE2 hE3
      | goto t => exact goes (.goto t) E C' hE1 hE2 hE3
      | panic ch => exact (hE3 : False).elim
      | outgrown => exact (hE3 : False).elim
    · have := hRl b h
      rcases hb with hb | rfl | rfl
      · exact hd b hb h
      · omega
      · omega
    · rintro e E ⟨⟨v, rfl⟩, ht, hq, C, hC, hE⟩
      have after : ∀ o, Tn (fun b => T b ∨ C0 b) w (E.putObj (N + 1) o) ∧ Sq (E.putObj (N + 1) o) := fun o => by
        refine ⟨((Tn.of_below hVb (by omega)).trans ht (fun i hi h => ?_)).trans (Tn.put _ _ _) (fun i hi h => by omega), hs.stab _ _ _ hq (Tn.put _ _ _) (fun b hb e => by have := hRl b hb; omega)⟩
        rcases h with h | h | h | h
        · exact .inl h
        · exact .inr h
        · omega
        · omega
      rcases hE with hE | ⟨pre, hpre, hE⟩
      · rw [hJ] at hE
        obtain ⟨Cu, rfl, hi, n1, n2, hr, hdd⟩ := hE
        have run := run_endLoop (P := P) hr (by rw [hrc]; simp)
        have run' : (Instr.endLoop (N + 1)).run P E = .ok none (E.putObj (N + 1) (.loop { rc .ready none with state := .exhausted })) := by rw [run, hrc]
        refine ⟨none, _, run', ?_⟩
        have := hdone Cu _ (hI.2 _ _ (fun k => k = N + 1) E (E.putObj (N + 1) (.loop { rc .ready none with state := .exhausted })) hi (Tn.put _ _ _) (fun b hb (e : b = N + 1) => hb.elim (fun hb => n2 (e ▸ hb)) (fun hb => by have := hDl b hb; omega))) (after _).1 (after _).2 (fun b hb => ?_) (by rw [← hN]; exact (World.putObj_heap_other (by omega)).trans hdd) (by rw [← hN]; exact n1)
        · rw [← hN] at this
          exact this
        · rcases hC b (.inl hb) with (h | rfl | rfl) | h
          · exact .inl h
          · exact absurd hb n1
          · exact absurd hb n2
          · exact .inr (by omega)
      · rw [hJx] at hE
        obtain ⟨c, Cu, rfl, hi, n1, n2, hr, hdd⟩ := hE
        have run := run_endLoop (P := P) hr (by rw [hrc]; simp)
        have run' : (Instr.endLoop (N + 1)).run P E = .ok (some c) (E.putObj (N + 1) (.loop { rc .done (some c) with state := .exhausted })) := by rw [run, hrc]
        refine ⟨some c, _, run', ?_⟩
        have := hstop c pre Cu _ hpre ((hIx c).2 _ _ (fun k => k = N + 1) E (E.putObj (N + 1) (.loop { rc .done (some c) with state := .exhausted })) hi (Tn.put _ _ _) (fun b hb (e : b = N + 1) => hb.elim (fun hb => n2 (e ▸ hb)) (fun hb => by have := hDl b hb; omega))) (after _).1 (after _).2 (fun b hb => ?_) (by rw [← hN]; exact (World.putObj_heap_other (by omega)).trans hdd) (by rw [← hN]; exact n1)
        · rw [← hN] at this
          exact this
        · rcases hC b (.inl hb) with (h | rfl | rfl) | h
          · exact .inl h
          · exact absurd hb n1
          · exact absurd hb n2
          · exact .inr (by omega)

end Go.Proofs.Ytjkgjckkglfokaa
