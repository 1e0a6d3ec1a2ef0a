/- A range over a function, by who owns what: an iterator, whoever ranges over it, and the statement. -/
import Derived.Below
import Derived.RangeFuncNested
import Derived.RangeFuncLeaves
import Derived.RangeFuncBound
import Derived.RangeFuncCalls
import Derived.Shelf.Abstract
import Derived.Shelf.RegionOpen
import Derived.OwnWalkIn
import Derived.TacticsInMore
import Derived.LoopNIn
import Derived.LoopIn
import Derived.Test.YtjkgjckkglfokabProg
namespace Go.Proofs.Ytjkgjckkglfokab
open Go.RowKit Go.Shelf
set_option linter.unusedVariables false
set_option linter.unusedSimpArgs false

/-- Only blocks of A are turned, and new ones. -/
structure Tn (A : Nat → Prop) (w w' : World) : Prop where
  os : w'.os = w.os
  tape : w'.tape = w.tape
  output : w'.output = w.output
  size : w.heap.size ≤ w'.heap.size
  block : ∀ k, k < w.heap.size → ¬ A k → w'.heap[k]? = w.heap[k]?
theorem Tn.refl (A : Nat → Prop) (w : World) : Tn A w w := ⟨rfl, rfl, rfl, Nat.le_refl _, fun _ _ _ => rfl⟩
theorem Tn.mono {A B : Nat → Prop} {a b : World} (h : Tn A a b) (hAB : ∀ k, k < a.heap.size → A k → B k) : Tn B a b :=
  ⟨h.os, h.tape, h.output, h.size, fun i hi hb => h.block i hi (fun ha => hb (hAB i hi ha))⟩
/-- What is behind may turn what is new besides. -/
theorem Tn.trans {A B : Nat → Prop} {a b c : World} (h : Tn A a b) (k : Tn B b c) (hB : ∀ i, i < a.heap.size → B i → A i) : Tn A a c :=
  ⟨k.os.trans h.os, k.tape.trans h.tape, k.output.trans h.output, Nat.le_trans h.size k.size, fun i hi ha => (k.block i (Nat.lt_of_lt_of_le hi h.size) (fun hb => ha (hB i hi hb))).trans (h.block i hi ha)⟩
theorem Tn.of_below {A : Nat → Prop} {B : Nat} {a b : World} (h : Below B a b) (hB : a.heap.size ≤ B) : Tn A a b := ⟨h.os, h.tape, h.output, h.size, fun i hi _ => h.block i (by omega)⟩
theorem Tn.below {A : Nat → Prop} {B : Nat} {a b : World} (h : Tn A a b) (hB : B ≤ a.heap.size) (hA : ∀ k, A k → B ≤ k) : Below B a b :=
  ⟨h.os, h.tape, h.output, h.size, fun k hk => h.block k (by omega) (fun ha => by have := hA k ha; omega)⟩
theorem Tn.put (w : World) (l : Nat) (o : Obj) : Tn (fun k => k = l) w (w.putObj l o) := ⟨rfl, rfl, rfl, by simp, fun k _ hn => World.putObj_heap_other hn⟩
theorem Tn.set {A : Nat → Prop} {a w : World} (h : Tn A a w) {p : Addr} (hp : A p.block ∨ a.heap.size ≤ p.block) (u : Value) : Tn A a (w.setCell p u) :=
  ⟨h.os, h.tape, h.output, Nat.le_trans h.size (by simp [World.setCell]), fun k hk ha => (Below.heap_setCell _ _ _ _ (fun e => by
    rcases hp with hp | hp
    · exact ha (by rw [e]; exact hp)
    · omega)).trans (h.block k hk ha)⟩
theorem Tn.alloc {A : Nat → Prop} {a w : World} (h : Tn A a w) (o : Obj) : Tn A a (w.alloc o) :=
  ⟨h.os, h.tape, h.output, Nat.le_trans h.size (by simp), fun k hk ha => (Below.heap_alloc _ _ _ (Nat.lt_of_lt_of_le hk h.size)).trans (h.block k hk ha)⟩
theorem Tn.drew {A : Nat → Prop} {a w : World} (h : Tn A a w) : Tn A a w.drew := ⟨h.os, h.tape, h.output, h.size, h.block⟩

/-- What somebody who ranges holds: what was told, his blocks, the world. -/
abbrev Inv (α : Type) := List α → (Nat → Prop) → World → Prop
/-- It hangs on his blocks alone, and on some (D) that nobody turns. -/
def Stb {α : Type} (D : Nat → Prop) (J : Inv α) : Prop := (∀ s C X, J s C X → ∀ b, C b ∨ D b → b < X.heap.size) ∧ ∀ s C A X Y, J s C X → Tn A X Y → (∀ b, C b ∨ D b → ¬ A b) → J s C Y
/-- A round: only his blocks are turned; what is his afterwards was so or is new. -/
def RoundOk {α : Type} (P : Program) (l : Nat) (encs : α → Array Value) (xs : List α) (J Jx : Inv α) : Prop :=
  ∀ pre x C X, pre ++ [x] <+: xs → J pre C X → YieldAt Fence.wide 0 P l (encs x) X fun e Y => ∃ C', Tn C X Y ∧ (∀ b, C' b → C b ∨ X.heap.size ≤ b) ∧ ((e = .returned (.bool true) ∧ J (pre ++ [x]) C' Y) ∨ (e = .returned (.bool false) ∧ Jx (pre ++ [x]) C' Y))
/-- An iterator: function gf over what it has caught; it tells xs, reads blocks of R, turns blocks of T alone; Sq: what must be so of them. -/
structure IsSeq {α : Type} (P : Program) (gf : Nat) (lb : Array Value) (encs : α → Array Value) (xs : List α) (R T : Nat → Prop) (Sq : World → Prop) : Prop where
  sub : ∀ b, T b → R b
  lt : ∀ W, Sq W → ∀ b, R b → b < W.heap.size
  stab : ∀ W W' A, Sq W → Tn A W W' → (∀ b, R b → ¬ A b) → Sq W'
  run : ∀ W l (J Jx : Inv α) C0 D, Sq W → Stb D J → Stb D Jx → RoundOk P l encs xs J Jx → J [] C0 W → (∀ b, C0 b → ¬ R b) → (∀ b, D b → ¬ T b) →
    CallsIn Fence.wide 0 P gf (#[.func (.yield l) #[] #[]] ++ lb) W fun e Y => (∃ v, e = .returned v) ∧ Tn (fun b => T b ∨ C0 b) W Y ∧ Sq Y ∧ ∃ C, (∀ b, C b → C0 b ∨ W.heap.size ≤ b) ∧ (J xs C Y ∨ ∃ pre, pre <+: xs ∧ Jx pre C Y)

/-- How a round's body may be left. -/
def RPost {α : Type} (I : Inv α) (Ix : Code → Inv α) (s : List α) (C : Nat → Prop) (W : World) (e : Exit) (Y : World) : Prop :=
  ∃ C', Tn C W Y ∧ (∀ b, C' b → C b ∨ W.heap.size ≤ b) ∧ match e with
    | .normal => I s C' Y
    | .ret => Ix .ret s C' Y
    | .exit id => Ix (.exit id) s C' Y
    | .goto t => Ix (.goto t) s C' Y
    | .panic _ => False
    | .outgrown => False

theorem range_it {α : Type} {P : Program} {g : Operand} {ps : Array Tmp} {assign body : Code} {Q : Exit → Act → World → Prop} {a : Act} {w : World} {gf : Nat} {lb : Array Value} (hg : a.eval g = .func (.func gf) #[] lb)
    (eg : ∀ args w, (callFunc gf args).run P w = .ok (.enter gf args) w) {encs : α → Array Value} (hps : ∀ x, (encs x).size = ps.size) {xs : List α} {R T : Nat → Prop} {Sq : World → Prop} (hs : IsSeq P gf lb encs xs R T Sq) (hw : Sq w)
    (I : Inv α) (Ix : Code → Inv α) (D : Nat → Prop) (hI : Stb D I) (hIx : ∀ c, Stb D (Ix c)) (C0 : Nat → Prop) (h0 : I [] C0 w) (hd : ∀ b, C0 b → ¬ R b) (hdT : ∀ b, D b → ¬ T b)
    (Ax : α → Act → Prop)
    (hassign : ∀ (l : Nat) (x : α) (W : World) (Kc : Act → World → Prop), (∀ a', Ax x a' → Kc a' W) →
      assign.wpIn (Fence.wide.inRound l) 0 P (Exit.then Kc (fun _ _ _ => False)) { tmps := (ps.zip (encs x)).foldl (fun t (p, v) => t.setIfInBounds p v) a.tmps, defers := [] } W)
    (hbody : ∀ (l : Nat) (pre : List α) (x : α) (a' : Act) (C : Nat → Prop) (W : World), pre ++ [x] <+: xs → I pre C W → Ax x a' → body.wpIn (Fence.wide.inRound l) 0 P (fun e _ Y => RPost I Ix (pre ++ [x]) C W e Y) a' W)
    (hdone : ∀ C W, I xs C W → Tn (fun b => T b ∨ C0 b) w W → Sq W → (∀ b, C b → C0 b ∨ w.heap.size ≤ b) → W.heap[w.heap.size]? = some (.deferred (some [])) → ¬ C w.heap.size → Q .normal { a with defers := { target := .collected w.heap.size, args := #[] } :: a.defers } W)
    (hstop : ∀ c pre C W, pre <+: xs → Ix c pre C W → Tn (fun b => T b ∨ C0 b) w W → Sq W → (∀ b, C b → C0 b ∨ w.heap.size ≤ b) → W.heap[w.heap.size]? = some (.deferred (some [])) → ¬ C w.heap.size → c.wpIn Fence.wide 0 P Q { a with defers := { target := .collected w.heap.size, args := #[] } :: a.defers } W) :
    (Code.rangeFunc g ps assign body).wpIn Fence.wide 0 P Q a w := by
  refine wpIn_rangeFunc (fun fn _ => ?_)
  obtain ⟨rc, hrc⟩ : ∃ rc : LoopState → Option Code → Loop, rc = fun st pe => { state := st, pending := pe, fn := fn, tmps := a.tmps, params := ps, assign := assign, body := body, defers := w.heap.size } := ⟨_, rfl⟩
  obtain ⟨V, hV⟩ : ∃ V, (w.alloc (.deferred (some []))).alloc (.loop (rc .ready none)) = V := ⟨_, rfl⟩
  have hVs : V.heap.size = w.heap.size + 2 := by rw [← hV]; simp
  have hVb : Below w.heap.size w V := by rw [← hV]; exact ((Below.refl _ w).alloc (Nat.le_refl _) _).alloc (by simp) _
  have hVr : V.heap[w.heap.size + 1]? = some (.loop (rc .ready none)) := by
    rw [← hV]
    have := heap_alloc_new (w.alloc (.deferred (some []))) (.loop (rc .ready none))
    rwa [World.size_alloc] at this
  have hVd : V.heap[w.heap.size]? = some (.deferred (some [])) := by rw [← hV]; exact (Below.heap_alloc _ _ _ (by simp)).trans (heap_alloc_new w _)
  have hRl : ∀ b, R b → b < w.heap.size := hs.lt w hw
  have hC0l : ∀ b, C0 b → b < w.heap.size := fun b hb => hI.1 _ _ _ h0 b (.inl hb)
  have hDl : ∀ b, D b → b < w.heap.size := fun b hb => hI.1 _ _ _ h0 b (.inr hb)
  obtain ⟨N, hN⟩ : ∃ N, N = w.heap.size := ⟨_, rfl⟩
  rw [← hN] at hVs hVb hVr hVd hRl hC0l hDl
  obtain ⟨J, hJ⟩ : ∃ J : Inv α, J = fun s C X => ∃ Cu, C = (fun b => Cu b ∨ b = N ∨ b = N + 1) ∧ I s Cu X ∧ ¬ Cu N ∧ ¬ Cu (N + 1) ∧ X.heap[N + 1]? = some (.loop (rc .ready none)) ∧ X.heap[N]? = some (.deferred (some [])) := ⟨_, rfl⟩
  obtain ⟨Jx, hJx⟩ : ∃ Jx : Inv α, Jx = fun s C X => ∃ c Cu, C = (fun b => Cu b ∨ b = N ∨ b = N + 1) ∧ Ix c s Cu X ∧ ¬ Cu N ∧ ¬ Cu (N + 1) ∧ X.heap[N + 1]? = some (.loop (rc .done (some c))) ∧ X.heap[N]? = some (.deferred (some [])) := ⟨_, rfl⟩
  have keep : ∀ {A : Nat → Prop} {X Y : World} {k : Nat} {o : Obj}, Tn A X Y → X.heap[k]? = some o → ¬ A k → Y.heap[k]? = some o := fun h h1 h2 => (h.block _ (Array.getElem?_eq_some_iff.1 h1).1 h2).trans h1
  have stJ : Stb D J := by
    refine ⟨fun s C X h b hb => ?_, fun s C A X Y h ht hA => ?_⟩
    · rw [hJ] at h
      obtain ⟨Cu, rfl, h1, -, -, h2, h3⟩ := h
      rcases hb with (hb | rfl | rfl) | hb
      · exact hI.1 _ _ _ h1 b (.inl hb)
      · exact (Array.getElem?_eq_some_iff.1 h3).1
      · exact (Array.getElem?_eq_some_iff.1 h2).1
      · exact hI.1 _ _ _ h1 b (.inr hb)
    · rw [hJ] at h ⊢
      obtain ⟨Cu, rfl, h1, n1, n2, h2, h3⟩ := h
      exact ⟨Cu, rfl, hI.2 _ _ _ _ _ h1 ht (fun b hb => hA b (hb.imp .inl id)), n1, n2, keep ht h2 (hA _ (.inl (.inr (.inr rfl)))), keep ht h3 (hA _ (.inl (.inr (.inl rfl))))⟩
  have stJx : Stb D Jx := by
    refine ⟨fun s C X h b hb => ?_, fun s C A X Y h ht hA => ?_⟩
    · rw [hJx] at h
      obtain ⟨c, Cu, rfl, h1, -, -, h2, h3⟩ := h
      rcases hb with (hb | rfl | rfl) | hb
      · exact (hIx c).1 _ _ _ h1 b (.inl hb)
      · exact (Array.getElem?_eq_some_iff.1 h3).1
      · exact (Array.getElem?_eq_some_iff.1 h2).1
      · exact (hIx c).1 _ _ _ h1 b (.inr hb)
    · rw [hJx] at h ⊢
      obtain ⟨c, Cu, rfl, h1, n1, n2, h2, h3⟩ := h
      exact ⟨c, Cu, rfl, (hIx c).2 _ _ _ _ _ h1 ht (fun b hb => hA b (hb.imp .inl id)), n1, n2, keep ht h2 (hA _ (.inl (.inr (.inr rfl)))), keep ht h3 (hA _ (.inl (.inr (.inl rfl))))⟩
  have hwV : Sq V := hs.stab w V (fun _ => False) hw (Tn.of_below hVb (by omega)) (fun _ _ h => h)
  have hIV : I [] C0 V := hI.2 _ _ (fun _ => False) _ _ h0 (Tn.of_below hVb (by omega)) (fun _ _ h => h)
  have nC0 : ¬ C0 N ∧ ¬ C0 (N + 1) := ⟨fun h => by have := hC0l _ h; omega, fun h => by have := hC0l _ h; omega⟩
  have start : J [] (fun b => C0 b ∨ b = N ∨ b = N + 1) V := by
    rw [hJ]
    exact ⟨C0, rfl, hIV, nC0.1, nC0.2, hVr, hVd⟩
  refine ⟨w.heap.size + 1, [{ target := .collected w.heap.size, args := #[] }], V, { target := .fn (.func gf) lb, args := #[.func (.yield (w.heap.size + 1)) #[] #[]] }, V, gf, #[.func (.yield (w.heap.size + 1)) #[] #[]] ++ lb, V, ?_, ?_, fun _ _ => trivial, ?_, fun h => by simp [Fence.wide] at h, ?_⟩
  · rw [← hV, hrc]
    exact run_enterLoop_outer _ _ _ _ _
  · simp only [resolve, hg]
    simp [go_sem]
  · simp [invoke, go_sem, eg]
  · rw [← hN]
    refine (hs.run V (N + 1) J Jx _ D hwV stJ stJx ?_ start (fun b hb h => ?_) hdT).mono ?_
    · intro pre x C X hpx hX
      rw [hJ] at hX
      obtain ⟨Cu, rfl, hi, n1, n2, hr, hdd⟩ := hX
      have hlt : N + 1 < X.heap.size := (Array.getElem?_eq_some_iff.1 hr).1
      have hy := run_yield (P := P) (args := encs x) hr (by rw [hrc]; exact hps x)
      rw [hrc] at hy
      refine ⟨fn, _, assign, body, hy, roundIn_of_wpIn trivial (hassign _ x X _ ?_)⟩
      intro a' hax
      refine ⟨_, run_beginRound hr (by rw [hrc]), ?_⟩
      obtain ⟨Z, hZ⟩ : ∃ Z, X.putObj (N + 1) (.loop { rc .ready none with state := .busy }) = Z := ⟨_, rfl⟩
      rw [hZ]
      have tZ : Tn (fun k => k = N + 1) X Z := by rw [← hZ]; exact Tn.put _ _ _
      have hsZ : Z.heap.size = X.heap.size := by rw [← hZ]; simp
      have hrZ : Z.heap[N + 1]? = some (.loop (rc .busy none)) := by
        rw [← hZ, World.putObj_heap_same hlt, hrc]
      have hdZ : Z.heap[N]? = some (.deferred (some [])) := keep tZ hdd (by omega)
      have hiZ : I pre Cu Z := hI.2 _ _ _ _ _ hi tZ (fun b hb (e : b = N + 1) => hb.elim (fun hb => n2 (e ▸ hb)) (fun hb => by have := hDl b hb; omega))
      refine wpIn_mono (hbody _ pre x a' Cu Z hpx hiZ hax) ?_
      have last : ∀ (j : Option Code) (E : World) (C' : Nat → Prop), Tn Cu Z E → (∀ b, C' b → Cu b ∨ Z.heap.size ≤ b) →
          (Instr.endRound (N + 1) j).run P E = .ok (.bool j.isNone) (E.putObj (N + 1) (.loop (rc (if j.isNone then .ready else .done) j))) ∧
          (E.putObj (N + 1) (.loop (rc (if j.isNone then .ready else .done) j))).heap[N + 1]? = some (.loop (rc (if j.isNone then .ready else .done) j)) ∧
          (E.putObj (N + 1) (.loop (rc (if j.isNone then .ready else .done) j))).heap[N]? = some (.deferred (some [])) ∧
          Tn (fun b => Cu b ∨ b = N ∨ b = N + 1) X (E.putObj (N + 1) (.loop (rc (if j.isNone then .ready else .done) j))) ∧
          (¬ C' N ∧ ¬ C' (N + 1)) ∧ (∀ b, (C' b ∨ b = N ∨ b = N + 1) → (Cu b ∨ b = N ∨ b = N + 1) ∨ X.heap.size ≤ b) := by
        intro j E C' hE hC
        have hrE := keep hE hrZ n2
        have hdE := keep hE hdZ n1
        have run := run_endRound (P := P) j hrE
        have tt : Tn (fun b => Cu b ∨ b = N ∨ b = N + 1) X (E.putObj (N + 1) (.loop (rc (if j.isNone then .ready else .done) j))) :=
          ((tZ.mono (B := fun b => Cu b ∨ b = N ∨ b = N + 1) (fun k _ e => .inr (.inr e))).trans hE (fun i _ h => .inl h)).trans (Tn.put _ _ _) (fun i _ h => .inr (.inr h))
        refine ⟨?_, World.putObj_heap_same (Array.getElem?_eq_some_iff.1 hrE).1, (World.putObj_heap_other (by omega)).trans hdE, tt, ⟨fun h => ?_, fun h => ?_⟩, fun b hb => ?_⟩
        · rw [run, hrc]
        · rcases hC _ h with h | h
          · exact n1 h
          · omega
        · rcases hC _ h with h | h
          · exact n2 h
          · omega
        · rcases hb with hb | hb
          · rcases hC _ hb with h | h
            · exact .inl (.inl h)
            · exact .inr (by omega)
          · exact .inl (.inr hb)
      have goes : ∀ (c : Code) (E : World) (C' : Nat → Prop), Tn Cu Z E → (∀ b, C' b → Cu b ∨ Z.heap.size ≤ b) → Ix c (pre ++ [x]) C' E → ∃ v E', (Instr.endRound (N + 1) (some c)).run P E = .ok v E' ∧
          ∃ C'', Tn (fun b => Cu b ∨ b = N ∨ b = N + 1) X E' ∧ (∀ b, C'' b → (Cu b ∨ b = N ∨ b = N + 1) ∨ X.heap.size ≤ b) ∧ ((Ending.returned v = .returned (.bool true) ∧ J (pre ++ [x]) C'' E') ∨ (Ending.returned v = .returned (.bool false) ∧ Jx (pre ++ [x]) C'' E')) := by
        intro c E C' hE hC hx
        obtain ⟨h1, h2, h3, h4, h5, h6⟩ := last (some c) E C' hE hC
        refine ⟨_, _, h1, (fun b => C' b ∨ b = N ∨ b = N + 1), h4, h6, .inr ⟨rfl, ?_⟩⟩
        rw [hJx]
        exact ⟨c, C', rfl, (hIx c).2 _ _ _ _ _ hx (Tn.put _ _ _) (fun b hb (e : b = N + 1) => hb.elim (fun hb => h5.2 (e ▸ hb)) (fun hb => by have := hDl b hb; omega)), h5.1, h5.2, h2, h3⟩
      intro e a3 E hE
      obtain ⟨C', hE1, hE2, hE3⟩ := hE
      cases e with
      | normal =>
        obtain ⟨h1, h2, h3, h4, h5, h6⟩ := last none E C' hE1 hE2
        refine ⟨_, _, h1, (fun b => C' b ∨ b = N ∨ b = N + 1), h4, h6, .inl ⟨rfl, ?_⟩⟩
        rw [hJ]
        exact ⟨C', rfl, hI.2 _ _ _ _ _ hE3 (Tn.put _ _ _) (fun b hb (e : b = N + 1) => hb.elim (fun hb => h5.2 (e ▸ hb)) (fun hb => by have := hDl b hb; omega)), h5.1, h5.2, h2, h3⟩
      | ret => exact goes .ret E C' hE1 hE2 hE3
      | exit id => exact goes (.exit id) E C' hE1 hE2 hE3
      | goto t => exact goes (.goto t) E C' hE1 hE2 hE3
      | panic ch => exact (hE3 : False).elim
      | outgrown => exact (hE3 : False).elim
    · have := hRl b h
      rcases hb with hb | rfl | rfl
      · exact hd b hb h
      · omega
      · omega
    · rintro e E ⟨⟨v, rfl⟩, ht, hq, C, hC, hE⟩
      have after : ∀ o, Tn (fun b => T b ∨ C0 b) w (E.putObj (N + 1) o) ∧ Sq (E.putObj (N + 1) o) := fun o => by
        refine ⟨((Tn.of_below hVb (by omega)).trans ht (fun i hi h => ?_)).trans (Tn.put _ _ _) (fun i hi h => by omega), hs.stab _ _ _ hq (Tn.put _ _ _) (fun b hb e => by have := hRl b hb; omega)⟩
        rcases h with h | h | h | h
        · exact .inl h
        · exact .inr h
        · omega
        · omega
      rcases hE with hE | ⟨pre, hpre, hE⟩
      · rw [hJ] at hE
        obtain ⟨Cu, rfl, hi, n1, n2, hr, hdd⟩ := hE
        have run := run_endLoop (P := P) hr (by rw [hrc]; simp)
        have run' : (Instr.endLoop (N + 1)).run P E = .ok none (E.putObj (N + 1) (.loop { rc .ready none with state := .exhausted })) := by rw [run, hrc]
        refine ⟨none, _, run', ?_⟩
        have := hdone Cu _ (hI.2 _ _ (fun k => k = N + 1) E (E.putObj (N + 1) (.loop { rc .ready none with state := .exhausted })) hi (Tn.put _ _ _) (fun b hb (e : b = N + 1) => hb.elim (fun hb => n2 (e ▸ hb)) (fun hb => by have := hDl b hb; omega))) (after _).1 (after _).2 (fun b hb => ?_) (by rw [← hN]; exact (World.putObj_heap_other (by omega)).trans hdd) (by rw [← hN]; exact n1)
        · rw [← hN] at this
          exact this
        · rcases hC b (.inl hb) with (h | rfl | rfl) | h
          · exact .inl h
          · exact absurd hb n1
          · exact absurd hb n2
          · exact .inr (by omega)
      · rw [hJx] at hE
        obtain ⟨c, Cu, rfl, hi, n1, n2, hr, hdd⟩ := hE
        have run := run_endLoop (P := P) hr (by rw [hrc]; simp)
        have run' : (Instr.endLoop (N + 1)).run P E = .ok (some c) (E.putObj (N + 1) (.loop { rc .done (some c) with state := .exhausted })) := by rw [run, hrc]
        refine ⟨some c, _, run', ?_⟩
        have := hstop c pre Cu _ hpre ((hIx c).2 _ _ (fun k => k = N + 1) E (E.putObj (N + 1) (.loop { rc .done (some c) with state := .exhausted })) hi (Tn.put _ _ _) (fun b hb (e : b = N + 1) => hb.elim (fun hb => n2 (e ▸ hb)) (fun hb => by have := hDl b hb; omega))) (after _).1 (after _).2 (fun b hb => ?_) (by rw [← hN]; exact (World.putObj_heap_other (by omega)).trans hdd) (by rw [← hN]; exact n1)
        · rw [← hN] at this
          exact this
        · rcases hC b (.inl hb) with (h | rfl | rfl) | h
          · exact .inl h
          · exact absurd hb n1
          · exact absurd hb n2
          · exact .inr (by omega)

end Go.Proofs.Ytjkgjckkglfokab

/- What a link of iterators holds besides; functions that are handed in. -/
namespace Go.Proofs.Ytjkgjckkglfokab
open Go.RowKit Go.Shelf
set_option linter.unusedVariables false
set_option linter.unusedSimpArgs false

def encI (x : Int) : Array Value := #[.int .i64 x]
def IsC (w : World) (b : Nat) (cs : Array Value) : Prop := ∃ t, w.heap[b]? = some (.cells cs t (0, 0))
theorem IsC.lt {w : World} {b : Nat} {cs : Array Value} (h : IsC w b cs) : b < w.heap.size := by
  obtain ⟨t, h⟩ := h
  exact (Array.getElem?_eq_some_iff.1 h).1
theorem IsC.cell {w : World} {b : Nat} {cs : Array Value} (h : IsC w b cs) (o : Nat) : w.cell? ⟨b, o, none⟩ = cs[o]? := by
  obtain ⟨t, h⟩ := h
  simp [World.cell?, h]
theorem IsC.frozen {w : World} {b : Nat} {cs : Array Value} (h : IsC w b cs) (o : Nat) : w.frozen? ⟨b, o, none⟩ = false := by
  obtain ⟨t, h⟩ := h
  simp [World.frozen?, h]
theorem IsC.of_block {w w' : World} {b : Nat} {cs : Array Value} (h : IsC w b cs) (hb : w'.heap[b]? = w.heap[b]?) : IsC w' b cs := by
  obtain ⟨t, h⟩ := h
  exact ⟨t, hb.trans h⟩
theorem IsC.tn {A : Nat → Prop} {w w' : World} {b : Nat} {cs : Array Value} (h : IsC w b cs) (ht : Tn A w w') (hb : ¬ A b) : IsC w' b cs := h.of_block (ht.block b h.lt hb)
theorem isC_new (w : World) (cs : Array Value) (t : TypeId) : IsC (w.alloc (.cells cs t)) w.heap.size cs := ⟨t, heap_alloc_new w _⟩

theorem Tn.same {A : Nat → Prop} {W X Y : World} {b : Nat} (ht : Tn A X Y) (h : X.heap[b]? = W.heap[b]?) (hb : b < W.heap.size) (hA : ¬ A b) : Y.heap[b]? = W.heap[b]? := by
  have : b < X.heap.size := by
    rw [Array.getElem?_eq_getElem hb] at h
    exact (Array.getElem?_eq_some_iff.1 h).1
  exact (ht.block b this hA).trans h
/-- What was held is as it was. -/
theorem Tn.held {T C0 H : Nat → Prop} {W W0 X : World} {N : Nat} (t0 : Tn (fun _ => False) W W0) (tX : Tn (fun b => T b ∨ (C0 b ∨ (N ≤ b ∨ H b))) W0 X) (hy : W.heap.size ≤ N) (hH : ∀ b, H b → b < W.heap.size → X.heap[b]? = W.heap[b]?) (M : Nat) (o : Obj) (hM : W.heap.size ≤ M) : Tn (fun b => T b ∨ C0 b) W (X.putObj M o) := by
  refine Tn.trans (B := fun k => k = M) ⟨tX.os.trans t0.os, tX.tape.trans t0.tape, tX.output.trans t0.output, Nat.le_trans t0.size tX.size, fun k hk hn => ?_⟩ (Tn.put _ _ _) (fun i hi h => by omega)
  by_cases h : H k
  · exact hH k h hk
  · exact (tX.block k (Nat.lt_of_lt_of_le hk t0.size) (fun e => by
      rcases e with e | e | e | e
      · exact hn (.inl e)
      · exact hn (.inr e)
      · omega
      · exact h e)).trans (t0.block k hk (fun h => h))

/-- What is held besides: blocks of H, and what is so of them. -/
def HoldI {α β : Type} (J : Inv β) (φ : List α → List β) (H : Nat → Prop) (St : List α → World → Prop) : Inv α := fun s C X => ∃ Cj, C = (fun b => Cj b ∨ H b) ∧ J (φ s) Cj X ∧ (∀ b, H b → ¬ Cj b) ∧ (∀ b, H b → b < X.heap.size) ∧ St s X
theorem HoldI.stb {α β : Type} {J : Inv β} {φ : List α → List β} {H : Nat → Prop} {St : List α → World → Prop} {D : Nat → Prop} (hJ : Stb D J) (hS : ∀ s A X Y, St s X → Tn A X Y → (∀ b, H b → ¬ A b) → St s Y) : Stb D (HoldI J φ H St) := by
  refine ⟨fun s C X h b hb => ?_, fun s C A X Y h ht hA => ?_⟩
  · obtain ⟨Cj, rfl, h1, -, h2, -⟩ := h
    rcases hb with (hb | hb) | hb
    · exact hJ.1 _ _ _ h1 b (.inl hb)
    · exact h2 b hb
    · exact hJ.1 _ _ _ h1 b (.inr hb)
  · obtain ⟨Cj, rfl, h1, h3, h2, h4⟩ := h
    exact ⟨Cj, rfl, hJ.2 _ _ _ _ _ h1 ht (fun b hb => hA b (hb.imp .inl id)), h3, fun b hb => Nat.lt_of_lt_of_le (h2 b hb) ht.size, hS _ _ _ _ h4 ht (fun b hb => hA b (.inl (.inr hb)))⟩
/-- The outer one's round, within. -/
theorem HoldI.round {α β : Type} {J J' : Inv β} {φ : List α → List β} {H Cj C' : Nat → Prop} {St : List α → World → Prop} {s : List α} {X Y : World} (h3 : ∀ b, H b → ¬ Cj b) (h2 : ∀ b, H b → b < X.heap.size) (ht : Tn Cj X Y) (hC : ∀ b, C' b → Cj b ∨ X.heap.size ≤ b) (hJ : J' (φ s) C' Y) (hS : St s Y) :
    ∃ C'', Tn (fun b => Cj b ∨ H b) X Y ∧ (∀ b, C'' b → (Cj b ∨ H b) ∨ X.heap.size ≤ b) ∧ HoldI J' φ H St s C'' Y := by
  refine ⟨fun b => C' b ∨ H b, ht.mono (fun _ _ h => .inl h), fun b hb => ?_, C', rfl, hJ, fun b hb hc => ?_, fun b hb => Nat.lt_of_lt_of_le (h2 b hb) ht.size, hS⟩
  · rcases hb with hb | hb
    · exact (hC b hb).imp .inl id
    · exact .inl (.inr hb)
  · rcases hC b hc with h | h
    · exact h3 b hb h
    · have := h2 b hb
      omega

/-- At the end: what is held besides is given up, the record of what was deferred turned. -/
theorem hold_done' {α β : Type} {P : Program} {gf : Nat} {lb : Array Value} {encs : α → Array Value} {xs : List α} {R T : Nat → Prop} {Sq : World → Prop} (hs : IsSeq P gf lb encs xs R T Sq) {W W0 X : World} (hq : Sq W) (t0 : Tn (fun _ => False) W W0) {C0 H H0 : Nat → Prop}
    (hH : ∀ b, H b → W.heap.size ≤ b ∨ H0 b) {J : Inv β} {D : Nat → Prop} (hDl : ∀ b, D b → b < W.heap.size) (stJ : Stb D J) {φ : List α → List β} {St : List α → World → Prop} {s : List α} {C : Nat → Prop} (h : HoldI J φ H St s C X) (hk : ∀ b, H0 b → X.heap[b]? = W.heap[b]?)
    (tX : Tn (fun b => T b ∨ (C0 b ∨ H b)) W0 X) (hqX : Sq X) (hC : ∀ b, C b → (C0 b ∨ H b) ∨ W0.heap.size ≤ b) (nD : ¬ C W0.heap.size) (o : Obj) :
    Tn (fun b => T b ∨ C0 b) W (X.putObj W0.heap.size o) ∧ Sq (X.putObj W0.heap.size o) ∧ ∃ Cj, (∀ b, Cj b → C0 b ∨ W.heap.size ≤ b) ∧ (∀ b, H b → ¬ Cj b) ∧ J (φ s) Cj (X.putObj W0.heap.size o) := by
  obtain ⟨Cj, rfl, hJ, n1, n2, -⟩ := h
  have hz := t0.size
  refine ⟨Tn.held t0 (H := H0) (N := W.heap.size) (tX.mono (fun k _ h => ?_)) (Nat.le_refl _) (fun b hb _ => hk b hb) _ o hz, hs.stab _ _ _ hqX (Tn.put _ _ _) (fun b hb e => by have := hs.lt _ hq b hb; omega), Cj, fun b hb => ?_, n1, stJ.2 _ _ _ _ _ hJ (Tn.put _ _ _) (fun b hb (e : b = W0.heap.size) => hb.elim (fun hb => nD (.inl (e ▸ hb))) (fun hb => by have := hDl b hb; omega))⟩
  · rcases h with h | h | h
    · exact .inl h
    · exact .inr (.inl h)
    · exact .inr (.inr (hH k h))
  · rcases hC b (.inl hb) with (h | h) | h
    · exact .inl h
    · exact absurd hb (n1 b h)
    · exact .inr (by omega)
theorem hold_done {α β : Type} {P : Program} {gf : Nat} {lb : Array Value} {encs : α → Array Value} {xs : List α} {R T : Nat → Prop} {Sq : World → Prop} (hs : IsSeq P gf lb encs xs R T Sq) {W W0 X : World} (hq : Sq W) (t0 : Tn (fun _ => False) W W0) {C0 H H0 : Nat → Prop}
    (hH : ∀ b, H b → W.heap.size ≤ b ∨ H0 b) {J : Inv β} {D : Nat → Prop} (hDl : ∀ b, D b → b < W.heap.size) (stJ : Stb D J) {φ : List α → List β} {St : List α → World → Prop} {s : List α} {C : Nat → Prop} (h : HoldI J φ H St s C X) (hk : ∀ b, H0 b → X.heap[b]? = W.heap[b]?)
    (tX : Tn (fun b => T b ∨ (C0 b ∨ H b)) W0 X) (hqX : Sq X) (hC : ∀ b, C b → (C0 b ∨ H b) ∨ W0.heap.size ≤ b) (nD : ¬ C W0.heap.size) (o : Obj) :
    Tn (fun b => T b ∨ C0 b) W (X.putObj W0.heap.size o) ∧ Sq (X.putObj W0.heap.size o) ∧ ∃ Cj, (∀ b, Cj b → C0 b ∨ W.heap.size ≤ b) ∧ J (φ s) Cj (X.putObj W0.heap.size o) := by
  obtain ⟨h1, h2, Cj, h3, -, h4⟩ := hold_done' hs hq t0 hH hDl stJ h hk tX hqX hC nD o
  exact ⟨h1, h2, Cj, h3, h4⟩
/-- What is caught is kept. -/
theorem IsC.caught {T C0 R : Nat → Prop} {W Y : World} {b : Nat} {cs : Array Value} (h : IsC W b cs) (ht : Tn (fun b => T b ∨ C0 b) W Y) (hT : ∀ b, T b → R b) (hR : ¬ R b) (hC : ¬ C0 b) : IsC Y b cs :=
  h.tn ht (fun e => e.elim (fun e => hR (hT _ e)) hC)

theorem yes_no {e : Ending} {p q : Prop} (h : (e = .returned (.bool true) ∧ p) ∨ (e = .returned (.bool false) ∧ q)) : ∃ bv : Bool, e = .returned (.bool bv) ∧ (bv = true → p) ∧ (bv = false → q) := by
  rcases h with h | h
  · exact ⟨true, h.1, fun _ => h.2, (fun h => by cases h)⟩
  · exact ⟨false, h.1, (fun h => by cases h), fun _ => h.2⟩

/-- A function of numbers that is handed in: it answers r of each, and changes nothing. -/
structure IsFn (P : Program) (mf : Nat) (ml : Array Value) (r : Int → Value) (R : Nat → Prop) (S : World → Prop) : Prop where
  ent : ∀ args w, (callFunc mf args).run P w = .ok (.enter mf args) w
  lt : ∀ W, S W → ∀ b, R b → b < W.heap.size
  stab : ∀ W W' A, S W → Tn A W W' → (∀ b, R b → ¬ A b) → S W'
  call : ∀ W x, S W → Calls P mf (#[.int .i64 x] ++ ml) W fun e W' => e = .returned (r x) ∧ Below W.heap.size W W'

end Go.Proofs.Ytjkgjckkglfokab

/- Map. -/
namespace Go.Proofs.Ytjkgjckkglfokab
open Go.RowKit Go.Shelf
set_option linter.unusedVariables false
set_option linter.unusedSimpArgs false
attribute [local go_sem] Oper.semAt_some

set_option maxRecDepth 100000 in
set_option maxHeartbeats 2000000 in
theorem map_seq {gf : Nat} {lb : Array Value} {xs : List Int} {R T : Nat → Prop} {Sq : World → Prop} (hs : IsSeq Try.prog gf lb encI xs R T Sq) (eg : ∀ args w, (callFunc gf args).run Try.prog w = .ok (.enter gf args) w) {sb mb mf : Nat} {ml : Array Value} {f : Int → Int} {Rm : Nat → Prop} {Sm : World → Prop} (hm : IsFn Try.prog mf ml (fun x => .int .i64 (f x)) Rm Sm)
    (h1 : ¬ R sb) (h2 : ¬ R mb) (h3 : ∀ b, Rm b → ¬ R b) :
    IsSeq Try.prog 29 #[.pointer (some ⟨sb, 0, none⟩), .pointer (some ⟨mb, 0, none⟩)] encI (xs.map f) (fun b => R b ∨ b = sb ∨ b = mb ∨ Rm b) T (fun W => Sq W ∧ IsC W sb #[.func (.func gf) #[] lb] ∧ IsC W mb #[.func (.func mf) #[] ml] ∧ Sm W) := by
  refine ⟨fun b hb => .inl (hs.sub b hb), fun W h b hb => ?_, fun W W' A h ht hA => ⟨hs.stab _ _ _ h.1 ht (fun b hb => hA b (.inl hb)), h.2.1.tn ht (hA _ (.inr (.inl rfl))), h.2.2.1.tn ht (hA _ (.inr (.inr (.inl rfl)))), hm.stab _ _ _ h.2.2.2 ht (fun b hb => hA b (.inr (.inr (.inr hb))))⟩, ?_⟩
  · rcases hb with hb | rfl | rfl | hb
    · exact hs.lt _ h.1 b hb
    · exact h.2.1.lt
    · exact h.2.2.1.lt
    · exact hm.lt _ h.2.2.2 b hb
  · rintro W l J Jx C0 D ⟨hq, hsb, hmb, hsm⟩ stJ stJx hY h0 hd hdT
    have a1 : W.cell? ⟨sb, 0, none⟩ = some (.func (.func gf) #[] lb) := hsb.cell 0
    have a2 : W.cell? ⟨mb, 0, none⟩ = some (.func (.func mf) #[] ml) := hmb.cell 0
    have l1 := hsb.lt
    have l2 := hmb.lt
    obtain ⟨W0, hW0⟩ : ∃ W0, W.alloc (.cells #[.func (.yield l) #[] #[]] 28) = W0 := ⟨_, rfl⟩
    have HW0 : Hid (W.alloc (.cells #[.func (.yield l) #[] #[]] 28) = W0) := hW0
    clear hW0
    have hq1 : ∀ w, (binOp .eql 25 (.func (.func gf) #[] lb) .nilFunc).run Try.prog w = .ok (.bool false) w := fun _ => by kernel_rfl
    have hq2 : ∀ w, (binOp .eql 30 (.func (.func mf) #[] ml) .nilFunc).run Try.prog w = .ok (.bool false) w := fun _ => by kernel_rfl
    have HY : Hid (RoundOk Try.prog l encI (List.map f xs) J Jx) := hY
    have HD : Hid (∀ b, C0 b → ¬ (R b ∨ b = sb ∨ b = mb ∨ Rm b)) := hd
    have HSJ : Hid (Stb D J ∧ Stb D Jx) := ⟨stJ, stJx⟩
    have HH0 : Hid (J [] C0 W) := h0
    have HSB : Hid (IsC W sb #[.func (.func gf) #[] lb] ∧ IsC W mb #[.func (.func mf) #[] ml] ∧ Sm W ∧ Sq W) := ⟨hsb, hmb, hsm, hq⟩
    have HS : Hid (IsSeq Try.prog gf lb encI xs R T Sq) := hs
    have HM : Hid (IsFn Try.prog mf ml (fun x => .int .i64 (f x)) Rm Sm) := hm
    have HR : Hid (¬ R sb ∧ ¬ R mb ∧ ∀ b, Rm b → ¬ R b) := ⟨h1, h2, h3⟩
    have HDT : Hid (∀ b, D b → ¬ T b) := hdT
    clear hdT hY hd stJ stJx h0 hsb hmb hsm hq hs hm h1 h2 h3
    refine callsIn_of_wp_marks Try.func29 rfl trivial ?_ rfl
    simp only [Try.ntmps29, List.size_toArray, List.length_cons, List.length_nil, Nat.reduceAdd, Nat.reduceSub, Array.replicate_succ, Array.replicate_zero, List.push_toArray, List.append_toArray, List.nil_append, List.cons_append]
    gi_wp2_with fail
    rw [HW0.out]
    have hb0 : Below W.heap.size W W0 := by rw [← HW0.out]; exact (Below.refl _ _).alloc (Nat.le_refl _) _
    have t0 : Tn (fun _ => False) W W0 := Tn.of_below hb0 (Nat.le_refl _)
    have hy0 : IsC W0 W.heap.size #[.func (.yield l) #[] #[]] := by rw [← HW0.out]; exact isC_new _ _ _
    have hs0 : W.heap.size < W0.heap.size := hy0.lt
    have hC0l : ∀ b, C0 b → b < W.heap.size := fun b hb => HSJ.out.1.1 _ _ _ HH0.out b (.inl hb)
    have hDl : ∀ b, D b → b < W.heap.size := fun b hb => HSJ.out.1.1 _ _ _ HH0.out b (.inr hb)
    have hRl : ∀ b, R b → b < W.heap.size := HS.out.lt _ HSB.out.2.2.2
    have hRml : ∀ b, Rm b → b < W.heap.size := HM.out.lt _ HSB.out.2.2.1
    have hml : ∀ b, (b = mb ∨ Rm b) → b < W.heap.size := fun b hb => hb.elim (fun e => e ▸ l2) (hRml b)
    obtain ⟨H, hH⟩ : ∃ H : Nat → Prop, H = fun b => b = W.heap.size ∨ b = mb ∨ Rm b := ⟨_, rfl⟩
    obtain ⟨St, hSt⟩ : ∃ St : World → Prop, St = fun X => (∀ b, (b = mb ∨ Rm b) → X.heap[b]? = W.heap[b]?) ∧ IsC X W.heap.size #[.func (.yield l) #[] #[]] ∧ Sm X := ⟨_, rfl⟩
    obtain ⟨I, hI⟩ : ∃ I : Inv Int, I = HoldI J (fun s => s.map f) H (fun _ X => St X) := ⟨_, rfl⟩
    obtain ⟨Ix, hIx⟩ : ∃ Ix : Code → Inv Int, Ix = fun c => HoldI Jx (fun s => s.map f) H (fun _ X => c = .ret ∧ St X) := ⟨_, rfl⟩
    have stS : ∀ A X Y, St X → Tn A X Y → (∀ b, H b → ¬ A b) → St Y := by
      intro A X Y h ht hA
      rw [hSt] at h ⊢
      rw [hH] at hA
      exact ⟨fun b hb => ht.same (h.1 b hb) (hml b hb) (hA b (.inr hb)), h.2.1.tn ht (hA _ (.inl rfl)), HM.out.stab _ _ _ h.2.2 ht (fun b hb => hA b (.inr (.inr hb)))⟩
    have stI : Stb D I := by rw [hI]; exact HoldI.stb HSJ.out.1 (fun s A X Y h ht hA => stS A X Y h ht hA)
    have stIx : ∀ c, Stb D (Ix c) := fun c => by rw [hIx]; exact HoldI.stb HSJ.out.2 (fun s A X Y h ht hA => ⟨h.1, stS A X Y h.2 ht hA⟩)
    have hSt0 : St W0 := by
      rw [hSt]
      exact ⟨fun b hb => t0.block b (hml b hb) (fun h => h), hy0, HM.out.stab _ _ _ HSB.out.2.2.1 t0 (fun _ _ h => h)⟩
    have hHC : ∀ b, H b → ¬ C0 b ∧ b < W0.heap.size ∧ ¬ R b ∧ (W.heap.size ≤ b ∨ (b = mb ∨ Rm b)) := by
      intro b hb
      rw [hH] at hb
      rcases hb with rfl | rfl | hb
      · exact ⟨fun h => by have := hC0l _ h; omega, hs0, fun h => by have := hRl _ h; omega, .inl (Nat.le_refl _)⟩
      · exact ⟨fun h => HD.out _ h (.inr (.inr (.inl rfl))), by omega, HR.out.2.1, .inr (.inl rfl)⟩
      · exact ⟨fun h => HD.out _ h (.inr (.inr (.inr hb))), by have := hRml b hb; omega, HR.out.2.2 b hb, .inr (.inr hb)⟩
    have hW : Sq W0 := HS.out.stab _ _ _ HSB.out.2.2.2 t0 (fun _ _ h => h)
    have h0 : I [] (fun b => C0 b ∨ H b) W0 := by
      rw [hI]
      exact ⟨C0, rfl, HSJ.out.1.2 _ _ _ _ _ HH0.out t0 (fun _ _ h => h), fun b hb => (hHC b hb).1, fun b hb => (hHC b hb).2.1, hSt0⟩
    refine range_it (gf := gf) (lb := lb) rfl eg (encs := encI) (fun _ => rfl) HS.out hW I Ix D stI stIx (fun b => C0 b ∨ H b) h0 (fun b hb hr => hb.elim (fun h => HD.out b h (.inl hr)) (fun h => (hHC b h).2.2.1 hr)) HDT.out
      (fun x a' => a' = { tmps := #[.func (.yield l) #[] #[], .pointer (some ⟨sb, 0, none⟩), .pointer (some ⟨mb, 0, none⟩), .pointer (some ⟨W.heap.size, 0, none⟩), .int .i64 x, .func (.func gf) #[] lb, .bool false, .bool false, .func (.func mf) #[] ml, .bool false, .bool false, .func (.func gf) #[] lb, .int .i64 x, undef, undef, undef, undef, undef, undef], defers := [] })
      ?assign ?body ?done ?stop
    case assign =>
      intro l2 x X Kc hK
      unfold encI
      gi_wp2
      rfl
    case body =>
      rintro l3 pre x a' C X hpre hIX rfl
      obtain ⟨Cj, rfl, hJ, n1, n2, hsx⟩ := (by rw [hI] at hIX; exact hIX : HoldI J (fun s => s.map f) H (fun _ X => St X) pre C X)
      have hsx' := hsx
      rw [hSt] at hsx
      have k1 : X.drew.cell? ⟨mb, 0, none⟩ = some (.func (.func mf) #[] ml) := (HSB.out.2.1.of_block (hsx.1 mb (.inl rfl))).cell 0
      have k2 : X.drew.cell? ⟨W.heap.size, 0, none⟩ = some (.func (.yield l) #[] #[]) := hsx.2.1.cell 0
      have hxl := hsx.2.1.lt
      have tD : Tn (fun _ => False) X X.drew := (Tn.refl _ _).drew
      have hcall := HM.out.call X.drew x (HM.out.stab _ _ _ hsx.2.2 tD (fun _ _ h => h))
      have em := HM.out.ent
      have hn1 : ∀ b w, (Op.unary UnOp.not (.bool b)).run Try.prog w = .ok (.bool (!b)) w := fun b _ => by cases b <;> kernel_rfl
      have HP : Hid (pre ++ [x] <+: xs) := hpre
      have HJ : Hid (J (pre.map f) Cj X.drew) := HSJ.out.1.2 _ _ _ _ _ hJ tD (fun _ _ h => h)
      have HN : Hid ((∀ b, H b → ¬ Cj b) ∧ ∀ b, H b → b < X.heap.size) := ⟨n1, n2⟩
      have HQ : Hid (St X.drew) := stS _ _ _ hsx' tD (fun _ _ h => h)
      have HI : Hid (I = HoldI J (fun s => s.map f) H (fun _ X => St X) ∧ Ix = fun c => HoldI Jx (fun s => s.map f) H (fun _ X => c = .ret ∧ St X)) := ⟨hI, hIx⟩
      have HSS : Hid (∀ A X Y, St X → Tn A X Y → (∀ b, H b → ¬ A b) → St Y) := stS
      have HF : Hid ((pre ++ [x]).map f = pre.map f ++ [f x]) := by show _ = _; simp
      have HPF : Hid (pre.map f ++ [f x] <+: xs.map f) := by have := List.IsPrefix.map f hpre; rw [List.map_append] at this; exact this
      clear hpre hJ n1 n2 hsx hsx' hIX hI hIx hSt hH stS stI stIx hSt0 hHC h0 hW
      have hmo : Try.prog.follows Departure.mixedOrders = true := by kernel_rfl
      have tok0 : True := trivial
      have tok1 : True := trivial
      gi_wp2_with fail
      gi_region_with_o (first
        | (have _t := tok0; refine ⟨trivial, rfl, CallsIn.mono (F := Fence.wide) (callsIn_wide.2 hcall) ?_⟩; rintro e X1 ⟨rfl, hb1⟩; have k3 : X1.cell? ⟨W.heap.size, 0, none⟩ = some (.func (.yield l) #[] #[]) := (hb1.cell (p := ⟨W.heap.size, 0, none⟩) hxl).trans k2; have HT1 : Hid (Tn (fun _ => False) X.drew X1) := Tn.of_below hb1 (Nat.le_refl _); have HS1 : Hid (St X1) := HSS.out _ _ _ HQ.out HT1.out (fun _ _ h => h); have HJ1 : Hid (J (pre.map f) Cj X1) := HSJ.out.1.2 _ _ _ _ _ HJ.out HT1.out (fun _ _ h => h); have hl1 : W.heap.size < X1.heap.size := Nat.lt_of_lt_of_le hxl HT1.out.size; have hX := HY.out (pre.map f) (f x) Cj X1 HPF.out HJ1.out; unfold encI at hX; obtain ⟨fn, tmps, assign, body, hy2, hR⟩ := hX; clear tok0 _t hb1 hcall k1)
        | (have _t := tok1; refine ⟨rfl, RoundIn.mono (F := Fence.wide) hR ?_⟩; rintro e Y ⟨C', tY, hC', hJ2⟩; obtain ⟨bv, rfl, hJ3⟩ := yes_no hJ2; have HR3 : Hid (Tn Cj X1 Y ∧ (∀ b, C' b → Cj b ∨ X1.heap.size ≤ b) ∧ (bv = true → J (pre.map f ++ [f x]) C' Y) ∧ (bv = false → Jx (pre.map f ++ [f x]) C' Y)) := ⟨tY, hC', hJ3⟩; clear tok1 _t hJ2 hJ3 tY hC' hR))
      all_goals (
        have HN1 : Hid (∀ b, H b → b < X1.heap.size) := fun b hb => Nat.lt_of_lt_of_le (HN.out.2 b hb) HT1.out.size
        cases bv with
        | true =>
          have HG : Hid (RPost I Ix (pre ++ [x]) (fun b => Cj b ∨ H b) X .normal Y) := by
            obtain ⟨C2, g1, g2, g3⟩ := HoldI.round (J := J) (φ := fun s : List Int => s.map f) (s := pre ++ [x]) (J' := J) (St := fun _ X => St X) HN.out.1 HN1.out HR3.out.1 HR3.out.2.1 (by rw [HF.out]; exact HR3.out.2.2.1 rfl) (HSS.out _ _ _ HS1.out HR3.out.1 HN.out.1)
            exact ⟨C2, ((Tn.refl _ X).drew.trans HT1.out (fun _ _ h => h.elim)).trans g1 (fun _ _ h => h), fun b hb => (g2 b hb).imp id (Nat.le_trans HT1.out.size), by rw [HI.out.1]; exact g3⟩
          gi_wp2
          exact HG.out
        | false =>
          have HG : Hid (RPost I Ix (pre ++ [x]) (fun b => Cj b ∨ H b) X .ret Y) := by
            obtain ⟨C2, g1, g2, g3⟩ := HoldI.round (J := J) (φ := fun s : List Int => s.map f) (s := pre ++ [x]) (J' := Jx) (St := fun _ X => Code.ret = Code.ret ∧ St X) HN.out.1 HN1.out HR3.out.1 HR3.out.2.1 (by rw [HF.out]; exact HR3.out.2.2.2 rfl) ⟨rfl, HSS.out _ _ _ HS1.out HR3.out.1 HN.out.1⟩
            exact ⟨C2, ((Tn.refl _ X).drew.trans HT1.out (fun _ _ h => h.elim)).trans g1 (fun _ _ h => h), fun b hb => (g2 b hb).imp id (Nat.le_trans HT1.out.size), by rw [HI.out.2]; exact g3⟩
          gi_wp2
          exact HG.out)
    case done =>
      intro C X hIX tX hqX hC hD nD
      rw [hI] at hIX
      have hE := fun o => hold_done HS.out HSB.out.2.2.2 t0 (H0 := fun b => b = mb ∨ Rm b) (fun b hb => (hHC b hb).2.2.2) hDl HSJ.out.1 hIX (by obtain ⟨_, _, _, _, _, q⟩ := hIX; rw [hSt] at q; exact q.1) tX hqX hC nD o
      have hsm : Sm X := by obtain ⟨_, _, _, _, _, q⟩ := hIX; rw [hSt] at q; exact q.2.2
      clear hI hIx hSt hH
      gi_wp2
      refine ⟨by simp, .inl ⟨_, _, rfl, run_takeDeferred hD, ?_⟩⟩
      obtain ⟨g1, g2, Cj, g3, g4⟩ := hE (.deferred none)
      exact ⟨_, results_none rfl _ _ _, ⟨_, rfl⟩, g1, ⟨g2, HSB.out.1.caught g1 HS.out.sub HR.out.1 (fun h => HD.out _ h (.inr (.inl rfl))), HSB.out.2.1.caught g1 HS.out.sub HR.out.2.1 (fun h => HD.out _ h (.inr (.inr (.inl rfl)))), HM.out.stab _ _ _ hsm (Tn.put _ _ _) (fun b hb e => by have := hRml b hb; omega)⟩, Cj, g3, .inl g4⟩
    case stop =>
      intro c pre C X hpre hIX tX hqX hC hD nD
      rw [hIx] at hIX
      have hc : c = .ret ∧ St X := by obtain ⟨_, _, _, _, _, q⟩ := hIX; exact q
      obtain ⟨rfl, hst⟩ := hc
      rw [hSt] at hst
      have hE := fun o => hold_done HS.out HSB.out.2.2.2 t0 (H0 := fun b => b = mb ∨ Rm b) (fun b hb => (hHC b hb).2.2.2) hDl HSJ.out.2 hIX hst.1 tX hqX hC nD o
      have hsm : Sm X := hst.2.2
      clear hI hIx hSt hH hst
      gi_wp2
      refine ⟨by simp, .inl ⟨_, _, rfl, run_takeDeferred hD, ?_⟩⟩
      obtain ⟨g1, g2, Cj, g3, g4⟩ := hE (.deferred none)
      exact ⟨_, results_none rfl _ _ _, ⟨_, rfl⟩, g1, ⟨g2, HSB.out.1.caught g1 HS.out.sub HR.out.1 (fun h => HD.out _ h (.inr (.inl rfl))), HSB.out.2.1.caught g1 HS.out.sub HR.out.2.1 (fun h => HD.out _ h (.inr (.inr (.inl rfl)))), HM.out.stab _ _ _ hsm (Tn.put _ _ _) (fun b hb e => by have := hRml b hb; omega)⟩, Cj, g3, .inr ⟨_, List.IsPrefix.map f hpre, g4⟩⟩

end Go.Proofs.Ytjkgjckkglfokab

/- Only. -/
namespace Go.Proofs.Ytjkgjckkglfokab
open Go.RowKit Go.Shelf
set_option linter.unusedVariables false
set_option linter.unusedSimpArgs false
attribute [local go_sem] Oper.semAt_some

set_option maxRecDepth 100000 in
set_option maxHeartbeats 2000000 in
theorem only_seq {gf : Nat} {lb : Array Value} {xs : List Int} {R T : Nat → Prop} {Sq : World → Prop} (hs : IsSeq Try.prog gf lb encI xs R T Sq) (eg : ∀ args w, (callFunc gf args).run Try.prog w = .ok (.enter gf args) w) {sb mb mf : Nat} {ml : Array Value} {f : Int → Bool} {Rm : Nat → Prop} {Sm : World → Prop} (hm : IsFn Try.prog mf ml (fun x => .bool (f x)) Rm Sm)
    (h1 : ¬ R sb) (h2 : ¬ R mb) (h3 : ∀ b, Rm b → ¬ R b) :
    IsSeq Try.prog 30 #[.pointer (some ⟨sb, 0, none⟩), .pointer (some ⟨mb, 0, none⟩)] encI (xs.filter f) (fun b => R b ∨ b = sb ∨ b = mb ∨ Rm b) T (fun W => Sq W ∧ IsC W sb #[.func (.func gf) #[] lb] ∧ IsC W mb #[.func (.func mf) #[] ml] ∧ Sm W) := by
  refine ⟨fun b hb => .inl (hs.sub b hb), fun W h b hb => ?_, fun W W' A h ht hA => ⟨hs.stab _ _ _ h.1 ht (fun b hb => hA b (.inl hb)), h.2.1.tn ht (hA _ (.inr (.inl rfl))), h.2.2.1.tn ht (hA _ (.inr (.inr (.inl rfl)))), hm.stab _ _ _ h.2.2.2 ht (fun b hb => hA b (.inr (.inr (.inr hb))))⟩, ?_⟩
  · rcases hb with hb | rfl | rfl | hb
    · exact hs.lt _ h.1 b hb
    · exact h.2.1.lt
    · exact h.2.2.1.lt
    · exact hm.lt _ h.2.2.2 b hb
  · rintro W l J Jx C0 D ⟨hq, hsb, hmb, hsm⟩ stJ stJx hY h0 hd hdT
    have a1 : W.cell? ⟨sb, 0, none⟩ = some (.func (.func gf) #[] lb) := hsb.cell 0
    have a2 : W.cell? ⟨mb, 0, none⟩ = some (.func (.func mf) #[] ml) := hmb.cell 0
    have l1 := hsb.lt
    have l2 := hmb.lt
    obtain ⟨W0, hW0⟩ : ∃ W0, W.alloc (.cells #[.func (.yield l) #[] #[]] 28) = W0 := ⟨_, rfl⟩
    have HW0 : Hid (W.alloc (.cells #[.func (.yield l) #[] #[]] 28) = W0) := hW0
    clear hW0
    have hq1 : ∀ w, (binOp .eql 25 (.func (.func gf) #[] lb) .nilFunc).run Try.prog w = .ok (.bool false) w := fun _ => by kernel_rfl
    have hq2 : ∀ w, (binOp .eql 28 (.func (.func mf) #[] ml) .nilFunc).run Try.prog w = .ok (.bool false) w := fun _ => by kernel_rfl
    have HY : Hid (RoundOk Try.prog l encI (List.filter f xs) J Jx) := hY
    have HD : Hid (∀ b, C0 b → ¬ (R b ∨ b = sb ∨ b = mb ∨ Rm b)) := hd
    have HSJ : Hid (Stb D J ∧ Stb D Jx) := ⟨stJ, stJx⟩
    have HH0 : Hid (J [] C0 W) := h0
    have HSB : Hid (IsC W sb #[.func (.func gf) #[] lb] ∧ IsC W mb #[.func (.func mf) #[] ml] ∧ Sm W ∧ Sq W) := ⟨hsb, hmb, hsm, hq⟩
    have HS : Hid (IsSeq Try.prog gf lb encI xs R T Sq) := hs
    have HM : Hid (IsFn Try.prog mf ml (fun x => .bool (f x)) Rm Sm) := hm
    have HR : Hid (¬ R sb ∧ ¬ R mb ∧ ∀ b, Rm b → ¬ R b) := ⟨h1, h2, h3⟩
    have HDT : Hid (∀ b, D b → ¬ T b) := hdT
    clear hdT hY hd stJ stJx h0 hsb hmb hsm hq hs hm h1 h2 h3
    refine callsIn_of_wp_marks Try.func30 rfl trivial ?_ rfl
    simp only [Try.ntmps30, List.size_toArray, List.length_cons, List.length_nil, Nat.reduceAdd, Nat.reduceSub, Array.replicate_succ, Array.replicate_zero, List.push_toArray, List.append_toArray, List.nil_append, List.cons_append]
    gi_wp2_with fail
    rw [HW0.out]
    have hb0 : Below W.heap.size W W0 := by rw [← HW0.out]; exact (Below.refl _ _).alloc (Nat.le_refl _) _
    have t0 : Tn (fun _ => False) W W0 := Tn.of_below hb0 (Nat.le_refl _)
    have hy0 : IsC W0 W.heap.size #[.func (.yield l) #[] #[]] := by rw [← HW0.out]; exact isC_new _ _ _
    have hs0 : W.heap.size < W0.heap.size := hy0.lt
    have hC0l : ∀ b, C0 b → b < W.heap.size := fun b hb => HSJ.out.1.1 _ _ _ HH0.out b (.inl hb)
    have hDl : ∀ b, D b → b < W.heap.size := fun b hb => HSJ.out.1.1 _ _ _ HH0.out b (.inr hb)
    have hRl : ∀ b, R b → b < W.heap.size := HS.out.lt _ HSB.out.2.2.2
    have hRml : ∀ b, Rm b → b < W.heap.size := HM.out.lt _ HSB.out.2.2.1
    have hml : ∀ b, (b = mb ∨ Rm b) → b < W.heap.size := fun b hb => hb.elim (fun e => e ▸ l2) (hRml b)
    obtain ⟨H, hH⟩ : ∃ H : Nat → Prop, H = fun b => b = W.heap.size ∨ b = mb ∨ Rm b := ⟨_, rfl⟩
    obtain ⟨St, hSt⟩ : ∃ St : World → Prop, St = fun X => (∀ b, (b = mb ∨ Rm b) → X.heap[b]? = W.heap[b]?) ∧ IsC X W.heap.size #[.func (.yield l) #[] #[]] ∧ Sm X := ⟨_, rfl⟩
    obtain ⟨I, hI⟩ : ∃ I : Inv Int, I = HoldI J (fun s => s.filter f) H (fun _ X => St X) := ⟨_, rfl⟩
    obtain ⟨Ix, hIx⟩ : ∃ Ix : Code → Inv Int, Ix = fun c => HoldI Jx (fun s => s.filter f) H (fun _ X => c = .ret ∧ St X) := ⟨_, rfl⟩
    have stS : ∀ A X Y, St X → Tn A X Y → (∀ b, H b → ¬ A b) → St Y := by
      intro A X Y h ht hA
      rw [hSt] at h ⊢
      rw [hH] at hA
      exact ⟨fun b hb => ht.same (h.1 b hb) (hml b hb) (hA b (.inr hb)), h.2.1.tn ht (hA _ (.inl rfl)), HM.out.stab _ _ _ h.2.2 ht (fun b hb => hA b (.inr (.inr hb)))⟩
    have stI : Stb D I := by rw [hI]; exact HoldI.stb HSJ.out.1 (fun s A X Y h ht hA => stS A X Y h ht hA)
    have stIx : ∀ c, Stb D (Ix c) := fun c => by rw [hIx]; exact HoldI.stb HSJ.out.2 (fun s A X Y h ht hA => ⟨h.1, stS A X Y h.2 ht hA⟩)
    have hSt0 : St W0 := by
      rw [hSt]
      exact ⟨fun b hb => t0.block b (hml b hb) (fun h => h), hy0, HM.out.stab _ _ _ HSB.out.2.2.1 t0 (fun _ _ h => h)⟩
    have hHC : ∀ b, H b → ¬ C0 b ∧ b < W0.heap.size ∧ ¬ R b ∧ (W.heap.size ≤ b ∨ (b = mb ∨ Rm b)) := by
      intro b hb
      rw [hH] at hb
      rcases hb with rfl | rfl | hb
      · exact ⟨fun h => by have := hC0l _ h; omega, hs0, fun h => by have := hRl _ h; omega, .inl (Nat.le_refl _)⟩
      · exact ⟨fun h => HD.out _ h (.inr (.inr (.inl rfl))), by omega, HR.out.2.1, .inr (.inl rfl)⟩
      · exact ⟨fun h => HD.out _ h (.inr (.inr (.inr hb))), by have := hRml b hb; omega, HR.out.2.2 b hb, .inr (.inr hb)⟩
    have hW : Sq W0 := HS.out.stab _ _ _ HSB.out.2.2.2 t0 (fun _ _ h => h)
    have h0 : I [] (fun b => C0 b ∨ H b) W0 := by
      rw [hI]
      exact ⟨C0, rfl, HSJ.out.1.2 _ _ _ _ _ HH0.out t0 (fun _ _ h => h), fun b hb => (hHC b hb).1, fun b hb => (hHC b hb).2.1, hSt0⟩
    refine range_it (gf := gf) (lb := lb) rfl eg (encs := encI) (fun _ => rfl) HS.out hW I Ix D stI stIx (fun b => C0 b ∨ H b) h0 (fun b hb hr => hb.elim (fun h => HD.out b h (.inl hr)) (fun h => (hHC b h).2.2.1 hr)) HDT.out
      (fun x a' => a' = { tmps := #[.func (.yield l) #[] #[], .pointer (some ⟨sb, 0, none⟩), .pointer (some ⟨mb, 0, none⟩), .pointer (some ⟨W.heap.size, 0, none⟩), .int .i64 x, .func (.func gf) #[] lb, .bool false, .bool false, .func (.func mf) #[] ml, .bool false, .bool false, .func (.func gf) #[] lb, .int .i64 x, undef, undef, undef, undef, undef, undef, undef, undef, undef], defers := [] })
      ?assign ?body ?done ?stop
    case assign =>
      intro l2 x X Kc hK
      unfold encI
      gi_wp2
      rfl
    case body =>
      rintro l3 pre x a' C X hpre hIX rfl
      obtain ⟨Cj, rfl, hJ, n1, n2, hsx⟩ := (by rw [hI] at hIX; exact hIX : HoldI J (fun s => s.filter f) H (fun _ X => St X) pre C X)
      have hsx' := hsx
      rw [hSt] at hsx
      have k1 : X.cell? ⟨mb, 0, none⟩ = some (.func (.func mf) #[] ml) := (HSB.out.2.1.of_block (hsx.1 mb (.inl rfl))).cell 0
      have k2 : X.cell? ⟨W.heap.size, 0, none⟩ = some (.func (.yield l) #[] #[]) := hsx.2.1.cell 0
      have hxl := hsx.2.1.lt
      have hcall := HM.out.call X x hsx.2.2
      have em := HM.out.ent
      have hn1 : ∀ w, (Op.unary UnOp.not (.bool true)).run Try.prog w = .ok (.bool false) w := fun _ => by kernel_rfl
      have hn2 : ∀ w, (Op.unary UnOp.not (.bool false)).run Try.prog w = .ok (.bool true) w := fun _ => by kernel_rfl
      have HP : Hid (pre ++ [x] <+: xs) := hpre
      have HJ : Hid (J (pre.filter f) Cj X) := hJ
      have HN : Hid ((∀ b, H b → ¬ Cj b) ∧ ∀ b, H b → b < X.heap.size) := ⟨n1, n2⟩
      have HQ : Hid (St X) := hsx'
      have HI : Hid (I = HoldI J (fun s => s.filter f) H (fun _ X => St X) ∧ Ix = fun c => HoldI Jx (fun s => s.filter f) H (fun _ X => c = .ret ∧ St X)) := ⟨hI, hIx⟩
      have HSS : Hid (∀ A X Y, St X → Tn A X Y → (∀ b, H b → ¬ A b) → St Y) := stS
      clear hpre hJ n1 n2 hsx hsx' hIX hI hIx hSt hH stS stI stIx hSt0 hHC h0 hW
      gi_wp2_with fail
      refine ⟨trivial, rfl, CallsIn.mono (F := Fence.wide) (callsIn_wide.2 hcall) ?_⟩
      rintro e X1 ⟨rfl, hb1⟩
      have k3 : X1.cell? ⟨W.heap.size, 0, none⟩ = some (.func (.yield l) #[] #[]) := (hb1.cell (p := ⟨W.heap.size, 0, none⟩) hxl).trans k2
      have HT1 : Hid (Tn (fun _ => False) X X1) := Tn.of_below hb1 (Nat.le_refl _)
      have HS1 : Hid (St X1) := HSS.out _ _ _ HQ.out HT1.out (fun _ _ h => h)
      have HJ1 : Hid (J (pre.filter f) Cj X1) := HSJ.out.1.2 _ _ _ _ _ HJ.out HT1.out (fun _ _ h => h)
      have hl1 : W.heap.size < X1.heap.size := Nat.lt_of_lt_of_le hxl HT1.out.size
      have HN1 : Hid (∀ b, H b → b < X1.heap.size) := fun b hb => Nat.lt_of_lt_of_le (HN.out.2 b hb) HT1.out.size
      clear hb1 hcall k1 k2
      by_cases hfx : f x = true
      · have hX := HY.out (pre.filter f) x Cj X1 (by have := List.IsPrefix.filter f HP.out; rwa [List.filter_append, show [x].filter f = [x] by simp [hfx]] at this) HJ1.out
        have HF : Hid ((pre ++ [x]).filter f = pre.filter f ++ [x]) := by show _ = _; rw [List.filter_append, show [x].filter f = [x] by simp [hfx]]
        unfold encI at hX
        obtain ⟨fn, tmps, assign, body, hy2, hR⟩ := hX
        gi_wp2
        refine ⟨rfl, RoundIn.mono (F := Fence.wide) hR ?_⟩
        rintro e Y ⟨C', tY, hC', (⟨rfl, hJ2⟩ | ⟨rfl, hJ2⟩)⟩
        · have HG : Hid (RPost I Ix (pre ++ [x]) (fun b => Cj b ∨ H b) X .normal Y) := by
            obtain ⟨C2, g1, g2, g3⟩ := HoldI.round (J := J) (φ := fun s : List Int => s.filter f) (s := pre ++ [x]) (J' := J) (St := fun _ X => St X) HN.out.1 HN1.out tY hC' (by rw [HF.out]; exact hJ2) (HSS.out _ _ _ HS1.out tY HN.out.1)
            exact ⟨C2, (HT1.out.mono (fun _ _ h => h.elim)).trans g1 (fun _ _ h => h), fun b hb => (g2 b hb).imp id (Nat.le_trans HT1.out.size), by rw [HI.out.1]; exact g3⟩
          clear tY hC' hJ2 hR
          gi_wp2
          exact HG.out
        · have HG : Hid (RPost I Ix (pre ++ [x]) (fun b => Cj b ∨ H b) X .ret Y) := by
            obtain ⟨C2, g1, g2, g3⟩ := HoldI.round (J := J) (φ := fun s : List Int => s.filter f) (s := pre ++ [x]) (J' := Jx) (St := fun _ X => Code.ret = Code.ret ∧ St X) HN.out.1 HN1.out tY hC' (by rw [HF.out]; exact hJ2) ⟨rfl, HSS.out _ _ _ HS1.out tY HN.out.1⟩
            exact ⟨C2, (HT1.out.mono (fun _ _ h => h.elim)).trans g1 (fun _ _ h => h), fun b hb => (g2 b hb).imp id (Nat.le_trans HT1.out.size), by rw [HI.out.2]; exact g3⟩
          clear tY hC' hJ2 hR
          gi_wp2
          exact HG.out
      · have hfx' : f x = false := by simpa using hfx
        have HG : Hid (RPost I Ix (pre ++ [x]) (fun b => Cj b ∨ H b) X .normal X1) :=
          ⟨_, HT1.out.mono (fun _ _ h => h.elim), fun b hb => .inl hb, by rw [HI.out.1]; exact ⟨Cj, rfl, by show J ((pre ++ [x]).filter f) Cj X1; rw [List.filter_append, show [x].filter f = [] by simp [hfx'], List.append_nil]; exact HJ1.out, HN.out.1, HN1.out, HS1.out⟩⟩
        clear hfx
        gi_wp2
        refine ⟨by simp, ?_⟩
        gi_wp2
        exact HG.out
    case done =>
      intro C X hIX tX hqX hC hD nD
      rw [hI] at hIX
      have hE := fun o => hold_done HS.out HSB.out.2.2.2 t0 (H0 := fun b => b = mb ∨ Rm b) (fun b hb => (hHC b hb).2.2.2) hDl HSJ.out.1 hIX (by obtain ⟨_, _, _, _, _, q⟩ := hIX; rw [hSt] at q; exact q.1) tX hqX hC nD o
      have hsm : Sm X := by obtain ⟨_, _, _, _, _, q⟩ := hIX; rw [hSt] at q; exact q.2.2
      clear hI hIx hSt hH
      gi_wp2
      refine ⟨by simp, .inl ⟨_, _, rfl, run_takeDeferred hD, ?_⟩⟩
      obtain ⟨g1, g2, Cj, g3, g4⟩ := hE (.deferred none)
      exact ⟨_, results_none rfl _ _ _, ⟨_, rfl⟩, g1, ⟨g2, HSB.out.1.caught g1 HS.out.sub HR.out.1 (fun h => HD.out _ h (.inr (.inl rfl))), HSB.out.2.1.caught g1 HS.out.sub HR.out.2.1 (fun h => HD.out _ h (.inr (.inr (.inl rfl)))), HM.out.stab _ _ _ hsm (Tn.put _ _ _) (fun b hb e => by have := hRml b hb; omega)⟩, Cj, g3, .inl g4⟩
    case stop =>
      intro c pre C X hpre hIX tX hqX hC hD nD
      rw [hIx] at hIX
      have hc : c = .ret ∧ St X := by obtain ⟨_, _, _, _, _, q⟩ := hIX; exact q
      obtain ⟨rfl, hst⟩ := hc
      rw [hSt] at hst
      have hE := fun o => hold_done HS.out HSB.out.2.2.2 t0 (H0 := fun b => b = mb ∨ Rm b) (fun b hb => (hHC b hb).2.2.2) hDl HSJ.out.2 hIX hst.1 tX hqX hC nD o
      have hsm : Sm X := hst.2.2
      clear hI hIx hSt hH hst
      gi_wp2
      refine ⟨by simp, .inl ⟨_, _, rfl, run_takeDeferred hD, ?_⟩⟩
      obtain ⟨g1, g2, Cj, g3, g4⟩ := hE (.deferred none)
      exact ⟨_, results_none rfl _ _ _, ⟨_, rfl⟩, g1, ⟨g2, HSB.out.1.caught g1 HS.out.sub HR.out.1 (fun h => HD.out _ h (.inr (.inl rfl))), HSB.out.2.1.caught g1 HS.out.sub HR.out.2.1 (fun h => HD.out _ h (.inr (.inr (.inl rfl)))), HM.out.stab _ _ _ hsm (Tn.put _ _ _) (fun b hb e => by have := hRml b hb; omega)⟩, Cj, g3, .inr ⟨_, List.IsPrefix.filter f hpre, g4⟩⟩

end Go.Proofs.Ytjkgjckkglfokab
