/- A range over a function, by who owns what: an iterator, whoever ranges over it, and the statement. -/
import Derived.Below
import Derived.RangeFuncNested
import Derived.RangeFuncLeaves
import Derived.RangeFuncBound
import Derived.RangeFuncCalls
import Derived.Shelf.Abstract
import Derived.Shelf.RegionOpen
import Derived.OwnWalkIn
import Derived.TacticsInMore
import Derived.LoopNIn
import Derived.LoopIn
import Derived.Test.YtjkgjckkglfokaaGreatProg
import Derived.Maps.OwnIn
import Derived.Test.YtjkgjckkglfokaaGreatU01
import Derived.Test.YtjkgjckkglfokaaGreatU04
namespace Go.Proofs.YtjkgjckkglfokaaGreat
open Go.RowKit Go.Shelf
set_option linter.unusedVariables false
set_option linter.unusedSimpArgs false
structure Tn (A : Nat -> Prop) (w w' : World) : Prop where
 os : w'.os = w.os
 tape : w'.tape = w.tape
 output : w'.output = w.output
 size : w.heap.size <= w'.heap.size
 block : ∀ k, k < w.heap.size -> ¬ A k -> w'.heap[k]? = w.heap[k]?
theorem Tn.refl (A : Nat -> Prop) (w : World) : Tn A w w := ⟨rfl, rfl, rfl, Nat.le_refl _, fun _ _ _ => rfl⟩
theorem Tn.mono {A B : Nat -> Prop} {a b : World} (h : Tn A a b) (hAB : ∀ k, k < a.heap.size -> A k -> B k) : Tn B a b :=
 ⟨h.os, h.tape, h.output, h.size, fun i hi hb => h.block i hi (fun ha => hb (hAB i hi ha))⟩
theorem Tn.trans {A B : Nat -> Prop} {a b c : World} (h : Tn A a b) (k : Tn B b c) (hB : ∀ i, i < a.heap.size -> B i -> A i) : Tn A a c :=
 ⟨k.os.trans h.os, k.tape.trans h.tape, k.output.trans h.output, Nat.le_trans h.size k.size, fun i hi ha => (k.block i (Nat.lt_of_lt_of_le hi h.size) (fun hb => ha (hB i hi hb))).trans (h.block i hi ha)⟩
theorem Tn.of_below {A : Nat -> Prop} {B : Nat} {a b : World} (h : Below B a b) (hB : a.heap.size <= B) : Tn A a b := ⟨h.os, h.tape, h.output, h.size, fun i hi _ => h.block i (by omega)⟩
theorem Tn.below {A : Nat -> Prop} {B : Nat} {a b : World} (h : Tn A a b) (hB : B <= a.heap.size) (hA : ∀ k, A k -> B <= k) : Below B a b :=
 ⟨h.os, h.tape, h.output, h.size, fun k hk => h.block k (by omega) (fun ha => by have := hA k ha; omega)⟩
theorem Tn.put (w : World) (l : Nat) (o : Obj) : Tn (fun k => k = l) w (w.putObj l o) := ⟨rfl, rfl, rfl, by simp, fun k _ hn => World.putObj_heap_other hn⟩
theorem Tn.set {A : Nat -> Prop} {a w : World} (h : Tn A a w) {p : Addr} (hp : A p.block \/ a.heap.size <= p.block) (u : Value) : Tn A a (w.setCell p u) :=
 ⟨h.os, h.tape, h.output, Nat.le_trans h.size (by simp [World.setCell]), fun k hk ha => (Below.heap_setCell _ _ _ _ (fun e => by
  rcases hp with hp | hp
  ·exact ha (by rw [e]; exact hp)
  ·omega)).trans (h.block k hk ha)⟩
theorem Tn.alloc {A : Nat -> Prop} {a w : World} (h : Tn A a w) (o : Obj) : Tn A a (w.alloc o) :=
 ⟨h.os, h.tape, h.output, Nat.le_trans h.size (by simp), fun k hk ha => (Below.heap_alloc _ _ _ (Nat.lt_of_lt_of_le hk h.size)).trans (h.block k hk ha)⟩
theorem Tn.drew {A : Nat -> Prop} {a w : World} (h : Tn A a w) : Tn A a w.drew := ⟨h.os, h.tape, h.output, h.size, h.block⟩
abbrev Inv (α : Type) := List α -> (Nat -> Prop) -> World -> Prop
def Stb {α : Type} (D : Nat -> Prop) (J : Inv α) : Prop := (∀ s C X, J s C X -> ∀ b, C b \/ D b -> b < X.heap.size) /\ ∀ s C A X Y, J s C X -> Tn A X Y -> (∀ b, C b \/ D b -> ¬ A b) -> J s C Y
def RoundOk {α : Type} (P : Program) (l : Nat) (encs : α -> Array Value) (xs : List α) (J Jx : Inv α) : Prop :=
 ∀ pre x C X, pre ++ [x] <+: xs -> J pre C X -> YieldAt Fence.wide 0 P l (encs x) X fun e Y => ∃ C', Tn C X Y /\ (∀ b, C' b -> C b \/ X.heap.size <= b) /\ ((e = .returned (.bool true) /\ J (pre ++ [x]) C' Y) \/ (e = .returned (.bool false) /\ Jx (pre ++ [x]) C' Y))
structure IsSeq {α : Type} (P : Program) (gf : Nat) (lb : Array Value) (encs : α -> Array Value) (xs : List α) (R T : Nat -> Prop) (Sq : World -> Prop) : Prop where
 sub : ∀ b, T b -> R b
 lt : ∀ W, Sq W -> ∀ b, R b -> b < W.heap.size
 stab : ∀ W W' A, Sq W -> Tn A W W' -> (∀ b, R b -> ¬ A b) -> Sq W'
 run : ∀ W l (J Jx : Inv α) C0 D, Sq W -> Stb D J -> Stb D Jx -> RoundOk P l encs xs J Jx -> J [] C0 W -> (∀ b, C0 b -> ¬ R b) -> (∀ b, D b -> ¬ T b) ->
  CallsIn Fence.wide 0 P gf (#[.func (.yield l) #[] #[]] ++ lb) W fun e Y => (∃ v, e = .returned v) /\ Tn (fun b => T b \/ C0 b) W Y /\ Sq Y /\ ∃ C, (∀ b, C b -> C0 b \/ W.heap.size <= b) /\ (J xs C Y \/ ∃ pre, pre <+: xs /\ Jx pre C Y)
def RPost {α : Type} (I : Inv α) (Ix : Code -> Inv α) (s : List α) (C : Nat -> Prop) (W : World) (e : Exit) (Y : World) : Prop :=
 ∃ C', Tn C W Y /\ (∀ b, C' b -> C b \/ W.heap.size <= b) /\ match e with
  | .normal => I s C' Y
  | .ret => Ix .ret s C' Y
  | .exit id => Ix (.exit id) s C' Y
  | .goto t => Ix (.goto t) s C' Y
  | .panic _ => False
  | .outgrown => False
theorem range_it {α : Type} {P : Program} {g : Operand} {ps : Array Tmp} {assign body : Code} {Q : Exit -> Act -> World -> Prop} {a : Act} {w : World} {gf : Nat} {lb : Array Value} (hg : a.eval g = .func (.func gf) #[] lb)
  (eg : ∀ args w, (callFunc gf args).run P w = .ok (.enter gf args) w) {encs : α -> Array Value} (hps : ∀ x, (encs x).size = ps.size) {xs : List α} {R T : Nat -> Prop} {Sq : World -> Prop} (hs : IsSeq P gf lb encs xs R T Sq) (hw : Sq w)
  (I : Inv α) (Ix : Code -> Inv α) (D : Nat -> Prop) (hI : Stb D I) (hIx : ∀ c, Stb D (Ix c)) (C0 : Nat -> Prop) (h0 : I [] C0 w) (hd : ∀ b, C0 b -> ¬ R b) (hdT : ∀ b, D b -> ¬ T b)
  (Ax : α -> Act -> Prop)
  (hassign : ∀ (l : Nat) (x : α) (W : World) (Kc : Act -> World -> Prop), (∀ a', Ax x a' -> Kc a' W) ->
   assign.wpIn (Fence.wide.inRound l) 0 P (Exit.then Kc (fun _ _ _ => False)) { tmps := (ps.zip (encs x)).foldl (fun t (p, v) => t.setIfInBounds p v) a.tmps, defers := [] } W)
  (hbody : ∀ (l : Nat) (pre : List α) (x : α) (a' : Act) (C : Nat -> Prop) (W : World), pre ++ [x] <+: xs -> I pre C W -> Ax x a' -> body.wpIn (Fence.wide.inRound l) 0 P (fun e _ Y => RPost I Ix (pre ++ [x]) C W e Y) a' W)
  (hdone : ∀ C W, I xs C W -> Tn (fun b => T b \/ C0 b) w W -> Sq W -> (∀ b, C b -> C0 b \/ w.heap.size <= b) -> W.heap[w.heap.size]? = some (.deferred (some [])) -> ¬ C w.heap.size -> Q .normal { a with defers := { target := .collected w.heap.size, args := #[] } :: a.defers } W)
  (hstop : ∀ c pre C W, pre <+: xs -> Ix c pre C W -> Tn (fun b => T b \/ C0 b) w W -> Sq W -> (∀ b, C b -> C0 b \/ w.heap.size <= b) -> W.heap[w.heap.size]? = some (.deferred (some [])) -> ¬ C w.heap.size -> c.wpIn Fence.wide 0 P Q { a with defers := { target := .collected w.heap.size, args := #[] } :: a.defers } W) :
  (Code.rangeFunc g ps assign body).wpIn Fence.wide 0 P Q a w := by
 refine wpIn_rangeFunc (fun fn _ => ?_)
 obtain ⟨rc, hrc⟩ : ∃ rc : LoopState -> Option Code -> Loop, rc = fun st pe => { state := st, pending := pe, fn := fn, tmps := a.tmps, params := ps, assign := assign, body := body, defers := w.heap.size } := ⟨_, rfl⟩
 obtain ⟨V, hV⟩ : ∃ V, (w.alloc (.deferred (some []))).alloc (.loop (rc .ready none)) = V := ⟨_, rfl⟩
 have hVs : V.heap.size = w.heap.size + 2 := by rw [<- hV]; simp
 have hVb : Below w.heap.size w V := by rw [<- hV]; exact ((Below.refl _ w).alloc (Nat.le_refl _) _).alloc (by simp) _
 have hVr : V.heap[w.heap.size + 1]? = some (.loop (rc .ready none)) := by
  rw [<- hV]
  have := heap_alloc_new (w.alloc (.deferred (some []))) (.loop (rc .ready none))
  rwa [World.size_alloc] at this
 have hVd : V.heap[w.heap.size]? = some (.deferred (some [])) := by rw [<- hV]; exact (Below.heap_alloc _ _ _ (by simp)).trans (heap_alloc_new w _)
 have hRl : ∀ b, R b -> b < w.heap.size := hs.lt w hw
 have hC0l : ∀ b, C0 b -> b < w.heap.size := fun b hb => hI.1 _ _ _ h0 b (.inl hb)
 have hDl : ∀ b, D b -> b < w.heap.size := fun b hb => hI.1 _ _ _ h0 b (.inr hb)
 obtain ⟨N, hN⟩ : ∃ N, N = w.heap.size := ⟨_, rfl⟩
 rw [<- hN] at hVs hVb hVr hVd hRl hC0l hDl
 obtain ⟨J, hJ⟩ : ∃ J : Inv α, J = fun s C X => ∃ Cu, C = (fun b => Cu b \/ b = N \/ b = N + 1) /\ I s Cu X /\ ¬ Cu N /\ ¬ Cu (N + 1) /\ X.heap[N + 1]? = some (.loop (rc .ready none)) /\ X.heap[N]? = some (.deferred (some [])) := ⟨_, rfl⟩
 obtain ⟨Jx, hJx⟩ : ∃ Jx : Inv α, Jx = fun s C X => ∃ c Cu, C = (fun b => Cu b \/ b = N \/ b = N + 1) /\ Ix c s Cu X /\ ¬ Cu N /\ ¬ Cu (N + 1) /\ X.heap[N + 1]? = some (.loop (rc .done (some c))) /\ X.heap[N]? = some (.deferred (some [])) := ⟨_, rfl⟩
 have keep : ∀ {A : Nat -> Prop} {X Y : World} {k : Nat} {o : Obj}, Tn A X Y -> X.heap[k]? = some o -> ¬ A k -> Y.heap[k]? = some o := fun h h1 h2 => (h.block _ (Array.getElem?_eq_some_iff.1 h1).1 h2).trans h1
 have stJ : Stb D J := by
  refine ⟨fun s C X h b hb => ?_, fun s C A X Y h ht hA => ?_⟩
  ·rw [hJ] at h
   obtain ⟨Cu, rfl, h1, -, -, h2, h3⟩ := h
   rcases hb with (hb | rfl | rfl) | hb
   ·exact hI.1 _ _ _ h1 b (.inl hb)
   ·exact (Array.getElem?_eq_some_iff.1 h3).1
   ·exact (Array.getElem?_eq_some_iff.1 h2).1
   ·exact hI.1 _ _ _ h1 b (.inr hb)
  ·rw [hJ] at h ⊢
   obtain ⟨Cu, rfl, h1, n1, n2, h2, h3⟩ := h
   exact ⟨Cu, rfl, hI.2 _ _ _ _ _ h1 ht (fun b hb => hA b (hb.imp .inl id)), n1, n2, keep ht h2 (hA _ (.inl (.inr (.inr rfl)))), keep ht h3 (hA _ (.inl (.inr (.inl rfl))))⟩
 have stJx : Stb D Jx := by
  refine ⟨fun s C X h b hb => ?_, fun s C A X Y h ht hA => ?_⟩
  ·rw [hJx] at h
   obtain ⟨c, Cu, rfl, h1, -, -, h2, h3⟩ := h
   rcases hb with (hb | rfl | rfl) | hb
   ·exact (hIx c).1 _ _ _ h1 b (.inl hb)
   ·exact (Array.getElem?_eq_some_iff.1 h3).1
   ·exact (Array.getElem?_eq_some_iff.1 h2).1
   ·exact (hIx c).1 _ _ _ h1 b (.inr hb)
  ·rw [hJx] at h ⊢
   obtain ⟨c, Cu, rfl, h1, n1, n2, h2, h3⟩ := h
   exact ⟨c, Cu, rfl, (hIx c).2 _ _ _ _ _ h1 ht (fun b hb => hA b (hb.imp .inl id)), n1, n2, keep ht h2 (hA _ (.inl (.inr (.inr rfl)))), keep ht h3 (hA _ (.inl (.inr (.inl rfl))))⟩
 have hwV : Sq V := hs.stab w V (fun _ => False) hw (Tn.of_below hVb (by omega)) (fun _ _ h => h)
 have hIV : I [] C0 V := hI.2 _ _ (fun _ => False) _ _ h0 (Tn.of_below hVb (by omega)) (fun _ _ h => h)
 have nC0 : ¬ C0 N /\ ¬ C0 (N + 1) := ⟨fun h => by have := hC0l _ h; omega, fun h => by have := hC0l _ h; omega⟩
 have start : J [] (fun b => C0 b \/ b = N \/ b = N + 1) V := by
  rw [hJ]
  exact ⟨C0, rfl, hIV, nC0.1, nC0.2, hVr, hVd⟩
 refine ⟨w.heap.size + 1, [{ target := .collected w.heap.size, args := #[] }], V, { target := .fn (.func gf) lb, args := #[.func (.yield (w.heap.size + 1)) #[] #[]] }, V, gf, #[.func (.yield (w.heap.size + 1)) #[] #[]] ++ lb, V, ?_, ?_, fun _ _ => trivial, ?_, fun h => by simp [Fence.wide] at h, ?_⟩
 ·rw [<- hV, hrc]
  exact run_enterLoop_outer _ _ _ _ _
 ·simp only [resolve, hg]
  simp [go_sem]
 ·simp [invoke, go_sem, eg]
 ·rw [<- hN]
  refine (hs.run V (N + 1) J Jx _ D hwV stJ stJx ?_ start (fun b hb h => ?_) hdT).mono ?_
  ·intro pre x C X hpx hX
   rw [hJ] at hX
   obtain ⟨Cu, rfl, hi, n1, n2, hr, hdd⟩ := hX
   have hlt : N + 1 < X.heap.size := (Array.getElem?_eq_some_iff.1 hr).1
   have hy := run_yield (P := P) (args := encs x) hr (by rw [hrc]; exact hps x)
   rw [hrc] at hy
   refine ⟨fn, _, assign, body, hy, roundIn_of_wpIn trivial (hassign _ x X _ ?_)⟩
   intro a' hax
   refine ⟨_, run_beginRound hr (by rw [hrc]), ?_⟩
   obtain ⟨Z, hZ⟩ : ∃ Z, X.putObj (N + 1) (.loop { rc .ready none with state := .busy }) = Z := ⟨_, rfl⟩
   rw [hZ]
   have tZ : Tn (fun k => k = N + 1) X Z := by rw [<- hZ]; exact Tn.put _ _ _
   have hsZ : Z.heap.size = X.heap.size := by rw [<- hZ]; simp
   have hrZ : Z.heap[N + 1]? = some (.loop (rc .busy none)) := by
    rw [<- hZ, World.putObj_heap_same hlt, hrc]
   have hdZ : Z.heap[N]? = some (.deferred (some [])) := keep tZ hdd (by omega)
   have hiZ : I pre Cu Z := hI.2 _ _ _ _ _ hi tZ (fun b hb (e : b = N + 1) => hb.elim (fun hb => n2 (e ▸ hb)) (fun hb => by have := hDl b hb; omega))
   refine wpIn_mono (hbody _ pre x a' Cu Z hpx hiZ hax) ?_
   have last : ∀ (j : Option Code) (E : World) (C' : Nat -> Prop), Tn Cu Z E -> (∀ b, C' b -> Cu b \/ Z.heap.size <= b) ->
     (Instr.endRound (N + 1) j).run P E = .ok (.bool j.isNone) (E.putObj (N + 1) (.loop (rc (if j.isNone then .ready else .done) j))) /\
     (E.putObj (N + 1) (.loop (rc (if j.isNone then .ready else .done) j))).heap[N + 1]? = some (.loop (rc (if j.isNone then .ready else .done) j)) /\
     (E.putObj (N + 1) (.loop (rc (if j.isNone then .ready else .done) j))).heap[N]? = some (.deferred (some [])) /\
     Tn (fun b => Cu b \/ b = N \/ b = N + 1) X (E.putObj (N + 1) (.loop (rc (if j.isNone then .ready else .done) j))) /\
     (¬ C' N /\ ¬ C' (N + 1)) /\ (∀ b, (C' b \/ b = N \/ b = N + 1) -> (Cu b \/ b = N \/ b = N + 1) \/ X.heap.size <= b) := by
    intro j E C' hE hC
    have hrE := keep hE hrZ n2
    have hdE := keep hE hdZ n1
    have run := run_endRound (P := P) j hrE
    have tt : Tn (fun b => Cu b \/ b = N \/ b = N + 1) X (E.putObj (N + 1) (.loop (rc (if j.isNone then .ready else .done) j))) :=
     ((tZ.mono (B := fun b => Cu b \/ b = N \/ b = N + 1) (fun k _ e => .inr (.inr e))).trans hE (fun i _ h => .inl h)).trans (Tn.put _ _ _) (fun i _ h => .inr (.inr h))
    refine ⟨?_, World.putObj_heap_same (Array.getElem?_eq_some_iff.1 hrE).1, (World.putObj_heap_other (by omega)).trans hdE, tt, ⟨fun h => ?_, fun h => ?_⟩, fun b hb => ?_⟩
    ·rw [run, hrc]
    ·rcases hC _ h with h | h
     ·exact n1 h
     ·omega
    ·rcases hC _ h with h | h
     ·exact n2 h
     ·omega
    ·rcases hb with hb | hb
     ·rcases hC _ hb with h | h
      ·exact .inl (.inl h)
      ·exact .inr (by omega)
     ·exact .inl (.inr hb)
   have goes : ∀ (c : Code) (E : World) (C' : Nat -> Prop), Tn Cu Z E -> (∀ b, C' b -> Cu b \/ Z.heap.size <= b) -> Ix c (pre ++ [x]) C' E -> ∃ v E', (Instr.endRound (N + 1) (some c)).run P E = .ok v E' /\
     ∃ C'', Tn (fun b => Cu b \/ b = N \/ b = N + 1) X E' /\ (∀ b, C'' b -> (Cu b \/ b = N \/ b = N + 1) \/ X.heap.size <= b) /\ ((Ending.returned v = .returned (.bool true) /\ J (pre ++ [x]) C'' E') \/ (Ending.returned v = .returned (.bool false) /\ Jx (pre ++ [x]) C'' E')) := by
    intro c E C' hE hC hx
    obtain ⟨h1, h2, h3, h4, h5, h6⟩ := last (some c) E C' hE hC
    refine ⟨_, _, h1, (fun b => C' b \/ b = N \/ b = N + 1), h4, h6, .inr ⟨rfl, ?_⟩⟩
    rw [hJx]
    exact ⟨c, C', rfl, (hIx c).2 _ _ _ _ _ hx (Tn.put _ _ _) (fun b hb (e : b = N + 1) => hb.elim (fun hb => h5.2 (e ▸ hb)) (fun hb => by have := hDl b hb; omega)), h5.1, h5.2, h2, h3⟩
   intro e a3 E hE
   obtain ⟨C', hE1, hE2, hE3⟩ := hE
   cases e with
   | normal =>
    obtain ⟨h1, h2, h3, h4, h5, h6⟩ := last none E C' hE1 hE2
    refine ⟨_, _, h1, (fun b => C' b \/ b = N \/ b = N + 1), h4, h6, .inl ⟨rfl, ?_⟩⟩
    rw [hJ]
    exact ⟨C', rfl, hI.2 _ _ _ _ _ hE3 (Tn.put _ _ _) (fun b hb (e : b = N + 1) => hb.elim (fun hb => h5.2 (e ▸ hb)) (fun hb => by have := hDl b hb; omega)), h5.1, h5.2, h2, h3⟩
   | ret => exact goes .ret E C' hE1 hE2 hE3
   | exit id => exact goes (.exit id) E C' hE1 hE2 hE3
   | goto t => exact goes (.goto t) E C' hE1 hE2 hE3
   | panic ch => exact (hE3 : False).elim
   | outgrown => exact (hE3 : False).elim
  ·have := hRl b h
   rcases hb with hb | rfl | rfl
   ·exact hd b hb h
   ·omega
   ·omega
  ·rintro e E ⟨⟨v, rfl⟩, ht, hq, C, hC, hE⟩
   have after : ∀ o, Tn (fun b => T b \/ C0 b) w (E.putObj (N + 1) o) /\ Sq (E.putObj (N + 1) o) := fun o => by
    refine ⟨((Tn.of_below hVb (by omega)).trans ht (fun i hi h => ?_)).trans (Tn.put _ _ _) (fun i hi h => by omega), hs.stab _ _ _ hq (Tn.put _ _ _) (fun b hb e => by have := hRl b hb; omega)⟩
    rcases h with h | h | h | h
    ·exact .inl h
    ·exact .inr h
    ·omega
    ·omega
   rcases hE with hE | ⟨pre, hpre, hE⟩
   ·rw [hJ] at hE
    obtain ⟨Cu, rfl, hi, n1, n2, hr, hdd⟩ := hE
    have run := run_endLoop (P := P) hr (by rw [hrc]; simp)
    have run' : (Instr.endLoop (N + 1)).run P E = .ok none (E.putObj (N + 1) (.loop { rc .ready none with state := .exhausted })) := by rw [run, hrc]
    refine ⟨none, _, run', ?_⟩
    have := hdone Cu _ (hI.2 _ _ (fun k => k = N + 1) E (E.putObj (N + 1) (.loop { rc .ready none with state := .exhausted })) hi (Tn.put _ _ _) (fun b hb (e : b = N + 1) => hb.elim (fun hb => n2 (e ▸ hb)) (fun hb => by have := hDl b hb; omega))) (after _).1 (after _).2 (fun b hb => ?_) (by rw [<- hN]; exact (World.putObj_heap_other (by omega)).trans hdd) (by rw [<- hN]; exact n1)
    ·rw [<- hN] at this
     exact this
    ·rcases hC b (.inl hb) with (h | rfl | rfl) | h
     ·exact .inl h
     ·exact absurd hb n1
     ·exact absurd hb n2
     ·exact .inr (by omega)
   ·rw [hJx] at hE
    obtain ⟨c, Cu, rfl, hi, n1, n2, hr, hdd⟩ := hE
    have run := run_endLoop (P := P) hr (by rw [hrc]; simp)
    have run' : (Instr.endLoop (N + 1)).run P E = .ok (some c) (E.putObj (N + 1) (.loop { rc .done (some c) with state := .exhausted })) := by rw [run, hrc]
    refine ⟨some c, _, run', ?_⟩
    have := hstop c pre Cu _ hpre ((hIx c).2 _ _ (fun k => k = N + 1) E (E.putObj (N + 1) (.loop { rc .done (some c) with state := .exhausted })) hi (Tn.put _ _ _) (fun b hb (e : b = N + 1) => hb.elim (fun hb => n2 (e ▸ hb)) (fun hb => by have := hDl b hb; omega))) (after _).1 (after _).2 (fun b hb => ?_) (by rw [<- hN]; exact (World.putObj_heap_other (by omega)).trans hdd) (by rw [<- hN]; exact n1)
    ·rw [<- hN] at this
     exact this
    ·rcases hC b (.inl hb) with (h | rfl | rfl) | h
     ·exact .inl h
     ·exact absurd hb n1
     ·exact absurd hb n2
     ·exact .inr (by omega)
end Go.Proofs.YtjkgjckkglfokaaGreat
/- What a link of iterators holds besides; functions that are handed in. -/
namespace Go.Proofs.YtjkgjckkglfokaaGreat
open Go.RowKit Go.Shelf
set_option linter.unusedVariables false
set_option linter.unusedSimpArgs false
def IsC (w : World) (b : Nat) (cs : Array Value) : Prop := ∃ t, w.heap[b]? = some (.cells cs t (0, 0))
theorem IsC.lt {w : World} {b : Nat} {cs : Array Value} (h : IsC w b cs) : b < w.heap.size := by
 obtain ⟨t, h⟩ := h
 exact (Array.getElem?_eq_some_iff.1 h).1
theorem IsC.cell {w : World} {b : Nat} {cs : Array Value} (h : IsC w b cs) (o : Nat) : w.cell? ⟨b, o, none⟩ = cs[o]? := by
 obtain ⟨t, h⟩ := h
 simp [World.cell?, h]
theorem IsC.frozen {w : World} {b : Nat} {cs : Array Value} (h : IsC w b cs) (o : Nat) : w.frozen? ⟨b, o, none⟩ = false := by
 obtain ⟨t, h⟩ := h
 simp [World.frozen?, h]
theorem IsC.of_block {w w' : World} {b : Nat} {cs : Array Value} (h : IsC w b cs) (hb : w'.heap[b]? = w.heap[b]?) : IsC w' b cs := by
 obtain ⟨t, h⟩ := h
 exact ⟨t, hb.trans h⟩
theorem IsC.tn {A : Nat -> Prop} {w w' : World} {b : Nat} {cs : Array Value} (h : IsC w b cs) (ht : Tn A w w') (hb : ¬ A b) : IsC w' b cs := h.of_block (ht.block b h.lt hb)
theorem isC_new (w : World) (cs : Array Value) (t : TypeId) : IsC (w.alloc (.cells cs t)) w.heap.size cs := ⟨t, heap_alloc_new w _⟩
theorem yes_no {e : Ending} {p q : Prop} (h : (e = .returned (.bool true) /\ p) \/ (e = .returned (.bool false) /\ q)) : ∃ bv : Bool, e = .returned (.bool bv) /\ (bv = true -> p) /\ (bv = false -> q) := by
 rcases h with h | h
 ·exact ⟨true, h.1, fun _ => h.2, (fun h => by cases h)⟩
 ·exact ⟨false, h.1, (fun h => by cases h), fun _ => h.2⟩
end Go.Proofs.YtjkgjckkglfokaaGreat
/- Small things. -/
namespace Go.Proofs.YtjkgjckkglfokaaGreat
open Go.RowKit Go.Shelf
set_option linter.unusedVariables false
set_option linter.unusedSimpArgs false
structure Way {α : Type} (J : Inv α) (C0 T R : Nat -> Prop) (Sq : World -> Prop) (W : World) (s : List α) (X : World) (C : Nat -> Prop) : Prop where
 j : J s C X
 sub : ∀ b, C b -> C0 b \/ W.heap.size <= b
 tn : Tn (fun b => T b \/ C0 b) W X
 sq : Sq X
theorem take_pre {β : Type} {l : List β} {k : Nat} {x : β} (h : l[k]? = some x) : l.take k ++ [x] = l.take (k + 1) /\ l.take k ++ [x] <+: l := by
 obtain ⟨h1, h2⟩ := List.getElem?_eq_some_iff.1 h
 have e : l.take k ++ [x] = l.take (k + 1) := by rw [List.take_succ_eq_append_getElem h1, h2]
 exact ⟨e, by rw [e]; exact List.take_prefix _ _⟩
theorem res_bool {fn : Func} {p : Tmp} (h : fn.results = #[.cell p 4]) (tmps : Array Value) (w : World) (b : Nat) (v : Value) (hp : tmps.getD p undef = .pointer (some ⟨b, 0, none⟩)) (hc : w.cell? ⟨b, 0, none⟩ = some v) : (results fn tmps).run Tryz.prog w = .ok v w := by
 have hp' : tmps[p]?.getD undef = .pointer (some ⟨b, 0, none⟩) := by simpa using hp
 simp [results, h, hp', go_sem, hc]
theorem own_weak {w : World} {b b' : Nat} {e : TypeId} {size : Nat} {v : Value} {n : Nat} {xs : List Value} (h : w.ownsRow b e size v n xs) (hb : b' <= b) : w.ownsRow b' e size v n xs := by
 refine ⟨h.1, ?_⟩
 rcases h.2 with hn | ⟨g, cap, cur, rfl, h1, r⟩
 ·exact .inl hn
 ·exact .inr ⟨g, cap, cur, rfl, Nat.le_trans hb h1, r⟩
end Go.Proofs.YtjkgjckkglfokaaGreat
/- slices.Values and slices.Backward over handles. -/
namespace Go.Proofs.YtjkgjckkglfokaaGreat
open Go.RowKit Go.Shelf
set_option linter.unusedVariables false
set_option linter.unusedSimpArgs false
set_option maxRecDepth 100000
set_option maxHeartbeats 2000000
attribute [local go_sem] Oper.semAt_some
def encH (x : Nat) : Array Value := #[.int .u64 (x : Int)]
def HdsAt (w : World) (g : Nat) (a : Option Addr) (L : List Nat) : Prop := ∀ (i x : Nat), L[i]? = some x -> ∃ o, a = some ⟨g, o, none⟩ /\ g < w.heap.size /\ w.cell? ⟨g, o + i, none⟩ = some (.int .u64 (x : Int))
theorem HdsAt.tn {A : Nat -> Prop} {w w' : World} {g : Nat} {a : Option Addr} {L : List Nat} (h : HdsAt w g a L) (ht : Tn A w w') (hA : L ≠ [] -> ¬ A g) : HdsAt w' g a L := fun i x hx => by
 obtain ⟨o, h1, h3, h4⟩ := h i x hx
 exact ⟨o, h1, Nat.lt_of_lt_of_le h3 ht.size, (World.cell?_of_block (w := w) (a := ⟨g, o + i, none⟩) (ht.block g h3 (hA (by rintro rfl; simp at hx)))).trans h4⟩
theorem HdsAt.lt {w : World} {g : Nat} {a : Option Addr} {L : List Nat} (h : HdsAt w g a L) (hn : L ≠ []) : g < w.heap.size := by
 obtain ⟨x, r, rfl⟩ := List.exists_cons_of_ne_nil hn
 obtain ⟨o, -, h1, -⟩ := h 0 x rfl
 exact h1
theorem values_seq {xs : List Nat} {a : Option Addr} {cap lb g : Nat} (hl : xs.length < 4611686018427387904) :
  IsSeq Tryz.prog 61 #[.pointer (some ⟨lb, 0, none⟩)] encH xs (fun b => b = lb \/ (xs ≠ [] /\ b = g)) (fun _ => False) (fun W => IsC W lb #[.slice a xs.length cap] /\ HdsAt W g a xs) := by
 refine ⟨fun b hb => hb.elim, fun W h b hb => ?_, fun W W' A h ht hA => ⟨h.1.tn ht (hA _ (.inl rfl)), h.2.tn ht (fun hn => hA _ (.inr ⟨hn, rfl⟩))⟩, ?_⟩
 ·rcases hb with rfl | ⟨hn, rfl⟩
  ·exact h.1.lt
  ·exact h.2.lt hn
 ·intro W l J Jx C0 D hq stJ stJx hY h0 hd hdT
  obtain ⟨Sq, hSq⟩ : ∃ Sq : World -> Prop, Sq = fun W => IsC W lb #[.slice a xs.length cap] /\ HdsAt W g a xs := ⟨_, rfl⟩
  have hq' : Sq W := by rw [hSq]; exact hq
  have HSq := hid hSq
  have HY := hid hY
  have HD := hid hd
  have HSJ : Hid (Stb D J /\ Stb D Jx) := ⟨stJ, stJx⟩
  have HLW : Hid (lb < W.heap.size /\ (xs ≠ [] -> g < W.heap.size)) := ⟨hq.1.lt, fun hn => hq.2.lt hn⟩
  have HW0 : Hid (Way J C0 (fun _ => False) (fun _ => True) Sq W [] W C0) := ⟨h0, fun _ h => .inl h, Tn.refl _ _, hq'⟩
  have c1 : W.cell? ⟨lb, 0, none⟩ = some (.slice a xs.length cap) := hq.1.cell 0
  have hll := hq.1.lt
  have hxs : (xs.length : Int) < 4611686018427387904 := by omega
  have hro : Fence.wide.round = none := rfl
  have hn1 : ∀ b w, (Op.unary UnOp.not (.bool b)).run Tryz.prog w = .ok (.bool (!b)) w := fun b _ => by cases b <;> kernel_rfl
  clear hdT hY hd stJ stJx h0 hq hq' hSq
  refine callsIn_of_wp Tryz.func61 rfl trivial ?_ rfl
  simp only [Tryz.ntmps61, List.size_toArray, List.length_cons, List.length_nil, Nat.reduceAdd, Nat.reduceSub, Array.replicate_succ, Array.replicate_zero, List.push_toArray, List.append_toArray, List.nil_append, List.cons_append]
  gi_wp2
  gi_loopw [7] (fun i wr => ∃ k : Nat, k <= xs.length /\ i = .int .i64 (k : Int) /\ Hid (∃ C, Way J C0 (fun _ => False) (fun _ => True) Sq W (xs.take k) wr C)) (fun i _ => xs.length - (intOf i).toNat)
  case atStart => exact ⟨0, Nat.zero_le _, rfl, ⟨_, HW0.out⟩⟩
  case round =>
   clear HW0
   obtain ⟨k, hk, rfl, HWk⟩ := hrel
   obtain ⟨C, hway⟩ := HWk.out
   have hsq := hway.sq
   rw [HSq.out] at hsq
   obtain ⟨q1, q4⟩ := hsq
   by_cases hlt : k < xs.length
   ·have hx := List.getElem?_eq_getElem hlt
    obtain ⟨o, ha, hg2, hg3⟩ := q4 k _ hx
    obtain ⟨e1, e2⟩ := take_pre hx
    generalize xs[k] = x at *
    subst ha
    have hk1 : (k : Int) < (xs.length : Int) := by omega
    have HE : Hid (xs.take k ++ [x] = xs.take (k + 1) /\ xs.take k ++ [x] <+: xs) := ⟨e1, e2⟩
    have HWY := hid hway
    have hX := HY.out _ x C wr e2 hway.j
    unfold encH at hX
    obtain ⟨fn, tmps, assign, body, hy2, hR⟩ := hX
    clear q1 q4 e1 e2 hway HWk hx
    gi_wp2_with fail
    refine ⟨rfl, RoundIn.mono (F := Fence.wide) hR ?_⟩
    rintro e Y ⟨C', tY, hC', hJ2⟩
    obtain ⟨bv, rfl, hJ3⟩ := yes_no hJ2
    have HYW : Hid (Tn (fun b => False \/ C0 b) W Y /\ Sq Y /\ (∀ b, C' b -> C0 b \/ W.heap.size <= b) /\ (bv = true -> J (xs.take (k + 1)) C' Y) /\ (bv = false -> Jx (xs.take (k + 1)) C' Y)) := by
     have hs1 := HWY.out.tn.size
     refine ⟨HWY.out.tn.trans tY (fun i hi h => (HWY.out.sub i h).elim .inr (fun h => by omega)), ?_, fun b hb => ?_, by rw [<- HE.out.1]; exact hJ3.1, by rw [<- HE.out.1]; exact hJ3.2⟩
     ·have hq := HWY.out.sq
      rw [HSq.out] at hq ⊢
      refine ⟨hq.1.tn tY (fun h => (HWY.out.sub _ h).elim (fun h => HD.out _ h (.inl rfl)) (fun h => by have := HLW.out.1; omega)), hq.2.tn tY (fun hn h => (HWY.out.sub _ h).elim (fun h => HD.out _ h (.inr ⟨hn, rfl⟩)) (fun h => by have := HLW.out.2 hn; omega))⟩
     ·rcases hC' b hb with h | h
      ·exact HWY.out.sub b h
      ·exact .inr (by omega)
    clear hJ2 hJ3 tY hC' hR
    cases bv with
    | true =>
     have HG : Hid (∃ C, Way J C0 (fun _ => False) (fun _ => True) Sq W (xs.take (k + 1)) Y C) := ⟨C', HYW.out.2.2.2.1 rfl, HYW.out.2.2.1, HYW.out.1, HYW.out.2.1⟩
     clear HYW
     gi_wp2
     go_roundw
     case rel => exact ⟨k + 1, by omega, by go_num, HG⟩
     case measure => simp [intOf]; omega
    | false =>
     have HG : Hid (Tn (fun b => False \/ C0 b) W Y /\ Sq Y /\ (∀ b, C' b -> C0 b \/ W.heap.size <= b) /\ Jx (xs.take (k + 1)) C' Y) := ⟨HYW.out.1, HYW.out.2.1, HYW.out.2.2.1, HYW.out.2.2.2.2 rfl⟩
     clear HYW
     gi_wp2
     refine bodyPost_ret (results_none rfl _ _ _) rfl ?_
     exact ⟨⟨_, rfl⟩, HG.out.1, by have h := HG.out.2.1; rw [HSq.out] at h; exact h, C', HG.out.2.2.1, .inr ⟨_, List.take_prefix _ _, HG.out.2.2.2⟩⟩
   ·obtain rfl : k = xs.length := by omega
    have HWY := hid hway
    clear q1 q4 hway HWk
    gi_wp2
    go_end0
    exact ⟨⟨_, rfl⟩, HWY.out.tn, by have h := HWY.out.sq; rw [HSq.out] at h; exact h, C, HWY.out.sub, .inl (by have := HWY.out.j; rwa [List.take_length] at this)⟩
def encB (p : Nat × Nat) : Array Value := #[.int .i64 (p.1 : Int), .int .u64 (p.2 : Int)]
def bwd (L : List Nat) : List (Nat × Nat) := (List.range L.length).map (fun k => (L.length - 1 - k, L.getD (L.length - 1 - k) 0))
theorem bwd_length (L : List Nat) : (bwd L).length = L.length := by simp [bwd]
theorem bwd_get {L : List Nat} {k x : Nat} (hk : k < L.length) (h : L[L.length - 1 - k]? = some x) : (bwd L)[k]? = some (L.length - 1 - k, x) := by
 simp [bwd, hk, List.getD, h]
theorem backward_seq {L : List Nat} {n : Nat} {a : Option Addr} {cap lb g : Nat} (hn : L.length = n) (hl : n < 4611686018427387904) :
  IsSeq Tryz.prog 125 #[.pointer (some ⟨lb, 0, none⟩)] encB (bwd L) (fun b => b = lb \/ (L ≠ [] /\ b = g)) (fun _ => False) (fun W => IsC W lb #[.slice a n cap] /\ HdsAt W g a L) := by
 refine ⟨fun b hb => hb.elim, fun W h b hb => ?_, fun W W' A h ht hA => ⟨h.1.tn ht (hA _ (.inl rfl)), h.2.tn ht (fun hn => hA _ (.inr ⟨hn, rfl⟩))⟩, ?_⟩
 ·rcases hb with rfl | ⟨hn, rfl⟩
  ·exact h.1.lt
  ·exact h.2.lt hn
 ·intro W l J Jx C0 D hq stJ stJx hY h0 hd hdT
  obtain ⟨Sq, hSq⟩ : ∃ Sq : World -> Prop, Sq = fun W => IsC W lb #[.slice a n cap] /\ HdsAt W g a L := ⟨_, rfl⟩
  have hq' : Sq W := by rw [hSq]; exact hq
  have HSq := hid hSq
  have HY := hid hY
  have HD := hid hd
  have HSJ : Hid (Stb D J /\ Stb D Jx) := ⟨stJ, stJx⟩
  have HLW : Hid (lb < W.heap.size /\ (L ≠ [] -> g < W.heap.size)) := ⟨hq.1.lt, fun hn => hq.2.lt hn⟩
  have HW0 : Hid (Way J C0 (fun _ => False) (fun _ => True) Sq W [] W C0) := ⟨h0, fun _ h => .inl h, Tn.refl _ _, hq'⟩
  have c1 : W.cell? ⟨lb, 0, none⟩ = some (.slice a n cap) := hq.1.cell 0
  have hll := hq.1.lt
  have hxs : (n : Int) < 4611686018427387904 := by omega
  have hro : Fence.wide.round = none := rfl
  have hn1 : ∀ b w, (Op.unary UnOp.not (.bool b)).run Tryz.prog w = .ok (.bool (!b)) w := fun b _ => by cases b <;> kernel_rfl
  have HNL := hid hn
  clear hdT hY hd stJ stJx h0 hq hq' hSq hn
  refine callsIn_of_wp Tryz.func125 rfl trivial ?_ rfl
  simp only [Tryz.ntmps125, List.size_toArray, List.length_cons, List.length_nil, Nat.reduceAdd, Nat.reduceSub, Array.replicate_succ, Array.replicate_zero, List.push_toArray, List.append_toArray, List.nil_append, List.cons_append]
  gi_wp2
  gi_loopw [3] (fun i wr => ∃ k : Nat, k <= n /\ i = .int .i64 ((n : Int) - 1 - (k : Int)) /\ Hid (∃ C, Way J C0 (fun _ => False) (fun _ => True) Sq W ((bwd L).take k) wr C)) (fun i _ => (intOf i + 1).toNat)
  case atStart => exact ⟨0, Nat.zero_le _, by simp, ⟨_, HW0.out⟩⟩
  case round =>
   clear HW0 c1
   obtain ⟨k, hk, rfl, HWk⟩ := hrel
   obtain ⟨C, hway⟩ := HWk.out
   have hsq := hway.sq
   rw [HSq.out] at hsq
   obtain ⟨q1, q4⟩ := hsq
   have c1 : wr.cell? ⟨lb, 0, none⟩ = some (.slice a n cap) := q1.cell 0
   have hll := q1.lt
   by_cases hlt : k < n
   ·obtain ⟨m, hm⟩ : ∃ m : Nat, m = n - 1 - k := ⟨_, rfl⟩
    have hmL : m < L.length := by have := HNL.out; omega
    have hx := List.getElem?_eq_getElem hmL
    obtain ⟨o, ha, hg2, hg3⟩ := q4 m _ hx
    have hbx : (bwd L)[k]? = some (m, L[m]) := by
     have := bwd_get (L := L) (k := k) (x := L[m]) (by have := HNL.out; omega) (by rw [HNL.out, <- hm]; exact hx)
     rw [HNL.out, <- hm] at this
     exact this
    obtain ⟨e1, e2⟩ := take_pre hbx
    generalize L[m] = x at *
    subst ha
    have hmi : (n : Int) - 1 - (k : Int) = (m : Int) := by omega
    rw [hmi]
    have hmn : (m : Int) < (n : Int) := by omega
    have HMK := hid hm
    have HE : Hid ((bwd L).take k ++ [(m, x)] = (bwd L).take (k + 1) /\ (bwd L).take k ++ [(m, x)] <+: bwd L) := ⟨e1, e2⟩
    have HWY := hid hway
    have hX := HY.out _ (m, x) C wr e2 hway.j
    unfold encB at hX
    obtain ⟨fn, tmps, assign, body, hy2, hR⟩ := hX
    simp only at hy2 hR
    clear q1 q4 e1 e2 hway HWk hx hbx hmL hm hmi
    gi_wp2_with fail
    refine ⟨rfl, RoundIn.mono (F := Fence.wide) hR ?_⟩
    rintro e Y ⟨C', tY, hC', hJ2⟩
    obtain ⟨bv, rfl, hJ3⟩ := yes_no hJ2
    have HYW : Hid (Tn (fun b => False \/ C0 b) W Y /\ Sq Y /\ (∀ b, C' b -> C0 b \/ W.heap.size <= b) /\ (bv = true -> J ((bwd L).take (k + 1)) C' Y) /\ (bv = false -> Jx ((bwd L).take (k + 1)) C' Y)) := by
     have hs1 := HWY.out.tn.size
     refine ⟨HWY.out.tn.trans tY (fun i hi h => (HWY.out.sub i h).elim .inr (fun h => by omega)), ?_, fun b hb => ?_, by rw [<- HE.out.1]; exact hJ3.1, by rw [<- HE.out.1]; exact hJ3.2⟩
     ·have hq := HWY.out.sq
      rw [HSq.out] at hq ⊢
      refine ⟨hq.1.tn tY (fun h => (HWY.out.sub _ h).elim (fun h => HD.out _ h (.inl rfl)) (fun h => by have := HLW.out.1; omega)), hq.2.tn tY (fun hn h => (HWY.out.sub _ h).elim (fun h => HD.out _ h (.inr ⟨hn, rfl⟩)) (fun h => by have := HLW.out.2 hn; omega))⟩
     ·rcases hC' b hb with h | h
      ·exact HWY.out.sub b h
      ·exact .inr (by omega)
    clear hJ2 hJ3 tY hC' hR
    cases bv with
    | true =>
     have HG : Hid (∃ C, Way J C0 (fun _ => False) (fun _ => True) Sq W ((bwd L).take (k + 1)) Y C) := ⟨C', HYW.out.2.2.2.1 rfl, HYW.out.2.2.1, HYW.out.1, HYW.out.2.1⟩
     clear HYW
     gi_wp2
     go_roundw
     case rel => exact ⟨k + 1, by omega, by congr 1; have := HMK.out; push_cast; omega, HG⟩
     case measure => (simp only [intOf]; have := HMK.out; omega)
    | false =>
     have HG : Hid (Tn (fun b => False \/ C0 b) W Y /\ Sq Y /\ (∀ b, C' b -> C0 b \/ W.heap.size <= b) /\ Jx ((bwd L).take (k + 1)) C' Y) := ⟨HYW.out.1, HYW.out.2.1, HYW.out.2.2.1, HYW.out.2.2.2.2 rfl⟩
     clear HYW
     gi_wp2
     refine bodyPost_ret (results_none rfl _ _ _) rfl ?_
     exact ⟨⟨_, rfl⟩, HG.out.1, by have h := HG.out.2.1; rw [HSq.out] at h; exact h, C', HG.out.2.2.1, .inr ⟨_, List.take_prefix _ _, HG.out.2.2.2⟩⟩
   ·obtain rfl : k = n := by omega
    have HWY := hid hway
    have hmi : (k : Int) - 1 - (k : Int) = -1 := by omega
    rw [hmi]
    clear q1 q4 hway HWk hmi
    gi_wp2
    go_end0
    exact ⟨⟨_, rfl⟩, HWY.out.tn, by have h := HWY.out.sq; rw [HSq.out] at h; exact h, C, HWY.out.sub, .inl (by have := HWY.out.j; rwa [List.take_of_length_le (by rw [bwd_length, HNL.out]; exact Nat.le_refl _)] at this)⟩
end Go.Proofs.YtjkgjckkglfokaaGreat
/- List: all that an iterator tells, gathered. -/
namespace Go.Proofs.YtjkgjckkglfokaaGreat
open Go.RowKit Go.Shelf
open Gr (hvals)
set_option linter.unusedVariables false
set_option linter.unusedSimpArgs false
set_option maxRecDepth 100000
set_option maxHeartbeats 2000000
attribute [local go_sem] Oper.semAt_some
def InfoOf (P : Program) (e : TypeId) (z : Value) (size bytes : Nat) : Prop := (P.info? e).map (fun i => (i.zero, i.size, i.bytes)) = some (some z, size, bytes)
theorem InfoOf.parts {P : Program} {e : TypeId} {z : Value} {size bytes : Nat} (h : InfoOf P e z size bytes) : ∃ i, P.info? e = some i /\ i.zero = some z /\ i.size = size /\ i.bytes = bytes := by
 unfold InfoOf at h
 cases hi : P.info? e with
 | none => rw [hi] at h; cases h
 | some i =>
  rw [hi] at h
  simp only [Option.map_some, Option.some.injEq, Prod.mk.injEq] at h
  exact ⟨i, rfl, h.1, h.2.1, h.2.2⟩
theorem infoH : InfoOf Tryz.prog 27 (.int .u64 0) 1 8 := by unfold InfoOf; kernel_rfl
theorem own_slice {w : World} {base : Nat} {e : TypeId} {size : Nat} {v : Value} {n : Nat} {xs : List Value} (h : w.ownsRow base e size v n xs) : ∃ a cap, v = .slice a n cap := by
 rcases h.2 with ⟨rfl, rfl⟩ | ⟨g, cap, cur, rfl, _⟩
 ·exact ⟨_, _, rfl⟩
 ·exact ⟨_, _, rfl⟩
theorem own_block_lt {w : World} {base : Nat} {e : TypeId} {size : Nat} {v : Value} {n : Nat} {xs : List Value} (h : w.ownsRow base e size v n xs) : ∀ k, v.ownBlock = some k -> base <= k /\ k < w.heap.size := by
 intro k hk
 rcases h.2 with ⟨rfl, rfl⟩ | ⟨g, cap, cur, rfl, hb, hh, _⟩
 ·cases hk
 ·simp only [Value.ownBlock, Option.some.injEq] at hk
  subst hk
  exact ⟨hb, (Array.getElem?_eq_some_iff.1 hh).1⟩
theorem own_of_block {w w' : World} {base : Nat} {e : TypeId} {size : Nat} {v : Value} {n : Nat} {xs : List Value} (h : w.ownsRow base e size v n xs) (hb : ∀ k, v.ownBlock = some k -> w'.heap[k]? = w.heap[k]?) : w'.ownsRow base e size v n xs := by
 refine ⟨h.1, ?_⟩
 rcases h.2 with hn | ⟨g, cap, cur, rfl, hb', hh, r⟩
 ·exact .inl hn
 ·exact .inr ⟨g, cap, cur, rfl, hb', (hb g rfl).trans hh, r⟩
def Row1 (N lbx gbx mbx : Nat) (most : Int) : Inv Nat := fun s C X => ∃ a c, C = (fun b => b = lbx \/ b = gbx \/ (Value.slice a s.length c).ownBlock = some b) /\ IsC X lbx #[.slice a s.length c] /\ X.ownsRow N 27 1 (.slice a s.length c) s.length (hvals s) /\ IsC X gbx #[.bool false] /\ IsC X mbx #[.int .i64 most] /\ (s.length : Int) <= most /\ N <= X.heap.size
theorem Row1.stb {N lbx gbx mbx : Nat} {most : Int} : Stb (fun b => b = mbx) (Row1 N lbx gbx mbx most) := by
 refine ⟨?_, ?_⟩
 ·rintro s C X ⟨a, c, rfl, q1, q2, q3, q4, -⟩ b hb
  rcases hb with (rfl | rfl | hb) | rfl
  ·exact q1.lt
  ·exact q3.lt
  ·exact (own_block_lt q2 b hb).2
  ·exact q4.lt
 ·rintro s C A X Y ⟨a, c, rfl, q1, q2, q3, q4, q5⟩ ht hA
  exact ⟨a, c, rfl, q1.tn ht (hA _ (.inl (.inl rfl))), own_of_block q2 (fun k hk => ht.block k (own_block_lt q2 k hk).2 (hA k (.inl (.inr (.inr hk))))), q3.tn ht (hA _ (.inl (.inr (.inl rfl)))), q4.tn ht (hA _ (.inr rfl)), q5.1, Nat.le_trans q5.2 ht.size⟩
def Long1 (gbx mbx : Nat) (most : Int) (n : Nat) (c : Code) : Inv Nat := fun s C X => c = .ret /\ C = (fun b => b = gbx) /\ IsC X gbx #[.bool true] /\ most < (n : Int) /\ IsC X mbx #[.int .i64 most]
theorem Long1.stb {gbx mbx : Nat} {most : Int} {n : Nat} {c : Code} : Stb (fun b => b = mbx) (Long1 gbx mbx most n c) := by
 refine ⟨?_, ?_⟩
 ·rintro s C X ⟨-, rfl, q, -, q2⟩ b hb
  rcases hb with rfl | rfl
  ·exact q.lt
  ·exact q2.lt
 ·rintro s C A X Y ⟨q1, rfl, q2, q3, q4⟩ ht hA
  exact ⟨q1, rfl, q2.tn ht (hA _ (.inl rfl)), q3, q4.tn ht (hA _ (.inr rfl))⟩
def List1P (xs : List Nat) (T : Nat -> Prop) (Sq : World -> Prop) (lbx gbx : Nat) (most : Int) (W : World) (e : Ending) (Y : World) : Prop :=
 (∃ v, e = .returned v) /\ Tn (fun b => T b \/ b = lbx \/ b = gbx) W Y /\ Sq Y /\ (((xs.length : Int) <= most /\ IsC Y gbx #[.bool false] /\ ∃ a c, IsC Y lbx #[.slice a xs.length c] /\ Y.ownsRow W.heap.size 27 1 (.slice a xs.length c) xs.length (hvals xs)) \/ (most < (xs.length : Int) /\ IsC Y gbx #[.bool true]))
theorem list1_any {gf : Nat} {lb : Array Value} {xs : List Nat} {R T : Nat -> Prop} {Sq : World -> Prop} (hs : IsSeq Tryz.prog gf lb encH xs R T Sq) (eg : ∀ args w, (callFunc gf args).run Tryz.prog w = .ok (.enter gf args) w)
  (W : World) (hq : Sq W) (sb lbx mbx gbx : Nat) (most : Int) (hsb : IsC W sb #[.func (.func gf) #[] lb]) (h1 : IsC W lbx #[.slice none 0 0]) (h2 : IsC W mbx #[.int .i64 most]) (h3 : IsC W gbx #[.bool false]) (hm : 0 <= most)
  (n1 : ¬ R lbx) (n2 : ¬ R gbx) (n3 : ¬ R mbx) (d1 : lbx ≠ gbx) (d2 : lbx ≠ mbx) (d3 : gbx ≠ mbx) (hl : xs.length < 1099511627776) :
  CallsIn Fence.wide 0 Tryz.prog 96 #[.pointer (some ⟨sb, 0, none⟩), .pointer (some ⟨lbx, 0, none⟩), .pointer (some ⟨mbx, 0, none⟩), .pointer (some ⟨gbx, 0, none⟩)] W (List1P xs T Sq lbx gbx most W) := by
 have a1 : W.cell? ⟨sb, 0, none⟩ = some (.func (.func gf) #[] lb) := hsb.cell 0
 have HS := hid hs
 have HSQ := hid hq
 have HB : Hid (IsC W lbx #[.slice none 0 0] /\ IsC W mbx #[.int .i64 most] /\ IsC W gbx #[.bool false]) := ⟨h1, h2, h3⟩
 have HN : Hid (¬ R lbx /\ ¬ R gbx /\ ¬ R mbx) := ⟨n1, n2, n3⟩
 have b1 := h1.lt
 have b2 := h2.lt
 have b3 := h3.lt
 have hRl : ∀ b, R b -> b < W.heap.size := hs.lt _ hq
 have h0 : Row1 W.heap.size lbx gbx mbx most [] (fun b => b = lbx \/ b = gbx \/ (Value.slice none 0 0).ownBlock = some b) W := ⟨none, 0, rfl, h1, ⟨by simp [hvals], .inl ⟨rfl, rfl⟩⟩, h3, h2, by simpa using hm, Nat.le_refl _⟩
 clear hs hq hsb h1 h2 h3 n1 n2 n3
 refine callsIn_of_wp_marks Tryz.func96 rfl trivial ?_ rfl
 simp only [Tryz.ntmps96, List.size_toArray, List.length_cons, List.length_nil, Nat.reduceAdd, Nat.reduceSub, Array.replicate_succ, Array.replicate_zero, List.push_toArray, List.append_toArray, List.nil_append, List.cons_append]
 gi_wp2_with fail
 refine range_it (gf := gf) (lb := lb) rfl eg (encs := encH) (fun _ => rfl) HS.out HSQ.out (Row1 W.heap.size lbx gbx mbx most) (Long1 gbx mbx most xs.length) (fun b => b = mbx) Row1.stb (fun c => Long1.stb) _ h0 (fun b hb hr => ?_) (fun b (e : b = mbx) ht => HN.out.2.2 (e ▸ HS.out.sub b ht))
  (fun x a' => a' = { tmps := #[.pointer (some ⟨sb, 0, none⟩), .pointer (some ⟨lbx, 0, none⟩), .pointer (some ⟨mbx, 0, none⟩), .pointer (some ⟨gbx, 0, none⟩), .int .u64 (x : Int), .func (.func gf) #[] lb, .int .u64 (x : Int), undef, undef, undef, undef, undef, undef, undef, undef], defers := [] })
  ?assign ?body ?done ?stop
 ·rcases hb with rfl | rfl | hb
  ·exact HN.out.1 hr
  ·exact HN.out.2.1 hr
  ·cases hb
 case assign =>
  intro l2 x X Kc hK
  unfold encH
  gi_wp2
  rfl
 case body =>
  rintro l3 pre x a' C X hpre ⟨a, c, rfl, q1, q2, q3, q4, q5⟩ rfl
  have hlt : pre.length < xs.length := by
   obtain ⟨t, rfl⟩ := hpre
   simp
  have c1 : X.cell? ⟨lbx, 0, none⟩ = some (.slice a pre.length c) := q1.cell 0
  have c2 : X.cell? ⟨mbx, 0, none⟩ = some (.int .i64 most) := q4.cell 0
  have c3 : X.cell? ⟨gbx, 0, none⟩ = some (.bool false) := q3.cell 0
  have f3 := q3.frozen 0
  have l1 := q1.lt
  have l3 := q3.lt
  by_cases hm : (pre.length : Int) = most
  ·have hmb : ((pre.length : Int) == most) = true := by simp [hm]
   obtain ⟨X1, hX1⟩ : ∃ X1, X.setCell ⟨gbx, 0, none⟩ (.bool true) = X1 := ⟨_, rfl⟩
   have t1 : Tn (fun b => b = gbx) X X1 := by rw [<- hX1]; exact (Tn.refl (fun b => b = gbx) X).set (p := ⟨gbx, 0, none⟩) (.inl rfl) _
   have HG : Hid (RPost (Row1 W.heap.size lbx gbx mbx most) (Long1 gbx mbx most xs.length) (pre ++ [x]) (fun b => b = lbx \/ b = gbx \/ (Value.slice a pre.length c).ownBlock = some b) X .ret X1) := by
    refine ⟨fun b => b = gbx, t1.mono (fun _ _ h => .inr (.inl h)), fun b hb => .inl (.inr (.inl hb)), rfl, rfl, ?_, by omega, q4.tn t1 (fun e => d3 e.symm)⟩
    obtain ⟨t, ht⟩ := q3
    exact ⟨t, by rw [<- hX1]; simp [World.setCell, Array.getElem?_modify, ht]⟩
   have HX1 := hid hX1
   clear hX1 t1 hm q1 q2 q3 q4 q5 hpre hlt
   gi_wp2
   rw [HX1.out]
   exact HG.out
  ·have hmb : ((pre.length : Int) == most) = false := by simp [hm]
   have HQ := hid q2
   obtain ⟨i0, hi0, hz0, hz1, hz2⟩ := infoH.parts
   have HQa : Hid ((X.alloc (.cells #[.int .u64 (x : Int)] 27)).ownsRow W.heap.size 27 1 (.slice a pre.length c) pre.length (hvals pre)) := own_of_block q2 (fun k hk => Below.heap_alloc _ _ _ (own_block_lt q2 k hk).2)
   have hWX : W.heap.size <= X.heap.size := q5.2
   have q50 := q5.1
   have hfin : ∀ Y la' lc', Y.ownsRow W.heap.size 27 1 (.slice la' (pre.length + 1) lc') (pre.length + 1) (hvals pre ++ [.int .u64 (x : Int)]) -> (X.alloc (.cells #[.int .u64 (x : Int)] 27)).grownBy Y (Value.slice a pre.length c).ownBlock -> ((Value.slice la' (pre.length + 1) lc').ownBlock = (Value.slice a pre.length c).ownBlock \/ (Value.slice la' (pre.length + 1) lc').ownBlock = some (X.alloc (.cells #[.int .u64 (x : Int)] 27)).heap.size) ->
     Y.cell? ⟨lbx, 0, none⟩ = some (.slice a pre.length c) /\ Y.frozen? ⟨lbx, 0, none⟩ = false /\ Hid (RPost (Row1 W.heap.size lbx gbx mbx most) (Long1 gbx mbx most xs.length) (pre ++ [x]) (fun b => b = lbx \/ b = gbx \/ (Value.slice a pre.length c).ownBlock = some b) X .normal (Y.setCell ⟨lbx, 0, none⟩ (.slice la' (pre.length + 1) lc'))) := by
    intro Y la' lc' r1 r2 r3
    have nb : ∀ k, (Value.slice a pre.length c).ownBlock = some k -> W.heap.size <= k := fun k hk => (own_block_lt q2 k hk).1
    have kp : ∀ k, k < X.heap.size -> (Value.slice a pre.length c).ownBlock ≠ some k -> Y.heap[k]? = X.heap[k]? := fun k hk hne => (r2.block k (by simp; omega) (fun e => hne e.symm)).trans (Below.heap_alloc _ _ _ hk)
    have e1 : IsC Y lbx #[.slice a pre.length c] := q1.of_block (kp lbx q1.lt (fun e => by have := nb _ e; omega))
    have e3 : IsC Y gbx #[.bool false] := q3.of_block (kp gbx q3.lt (fun e => by have := nb _ e; omega))
    have e4 : IsC Y mbx #[.int .i64 most] := q4.of_block (kp mbx q4.lt (fun e => by have := nb _ e; omega))
    have tY : Tn (fun b => (Value.slice a pre.length c).ownBlock = some b) X Y := ⟨r2.os, r2.tape, r2.output, Nat.le_trans (by simp) r2.size, kp⟩
    have t2 : Tn (fun b => b = lbx) Y (Y.setCell ⟨lbx, 0, none⟩ (.slice la' (pre.length + 1) lc')) := (Tn.refl (fun b => b = lbx) Y).set (p := ⟨lbx, 0, none⟩) (.inl rfl) _
    have hlen : (pre ++ [x]).length = pre.length + 1 := by simp
    have rb := own_block_lt r1
    refine ⟨e1.cell 0, e1.frozen 0, fun b => b = lbx \/ b = gbx \/ (Value.slice la' (pre.length + 1) lc').ownBlock = some b, (tY.mono (fun _ _ h => .inr (.inr h))).trans t2 (fun _ _ h => .inl h), fun b hb => ?_, la', lc', by rw [hlen], ?_, ?_, e3.tn t2 (fun e => d1 e.symm), e4.tn t2 (fun e => d2 e.symm), by rw [hlen]; omega, Nat.le_trans hWX (Nat.le_trans tY.size t2.size)⟩
    ·rcases hb with h | h | h
     ·exact .inl (.inl h)
     ·exact .inl (.inr (.inl h))
     ·rcases r3 with r3 | r3
      ·exact .inl (.inr (.inr (r3 ▸ h)))
      ·rw [h] at r3
       simp at r3
       exact .inr (by omega)
    ·obtain ⟨t, ht⟩ := e1
     refine ⟨t, ?_⟩
     rw [hlen]
     simp [World.setCell, Array.getElem?_modify, ht]
    ·rw [hlen, show hvals (pre ++ [x]) = hvals pre ++ [.int .u64 (x : Int)] by simp [hvals]]
     exact own_of_block r1 (fun k hk => t2.block k (rb k hk).2 (fun e => by have := (rb k hk).1; omega))
   have hnews : ∀ (j : Nat) (u : Value), ([.int .u64 (x : Int)] : List Value)[j]? = some u -> (X.alloc (.cells #[.int .u64 (x : Int)] 27)).cell? ((⟨X.heap.size, 0, none⟩ : Addr).add j) = some u := by
    intro j u hu
    cases j with
    | zero =>
     simp at hu
     subst hu
     exact (isC_new X #[.int .u64 (x : Int)] 27).cell 0
    | succ j => simp at hu
   clear q1 q2 q3 q4 q5 hpre hm
   have hlx : lbx < X.heap.size + 1 := by omega
   have hgx : gbx < X.heap.size + 1 := by omega
   gi_wp2_with (gi_at_builtin; (with_reducible refine wpListIn_append_own_at _ rfl _ _ 23 rfl W.heap.size 27 i0 (.int .u64 0) 1 8 Tryz.underlying23 hi0 hz0 hz1 hz2 rfl (by decide) (.slice a pre.length c) pre.length (hvals pre) ?p1 ?p2 ⟨X.heap.size, 0, none⟩ 1 1 [.int .u64 (x : Int)] ?p3 ?p4 ?p5 ?p6 ?p7 ?p8 ?p9 ?p10); (case p1 => rfl); (case p2 => exact HQa.out); (case p3 => rfl); (case p4 => rfl); (case p5 => exact hnews); (case p6 => (intro u hu; simp at hu; subst hu; rfl)); (case p7 => (unfold maxLen; omega)); (case p8 => omega); (case p9 => (simp; omega)); intro v' Y q1 q2 q3 q4; obtain ⟨la', lc', rfl⟩ := own_slice q1; obtain ⟨s1, s2, s4⟩ := hfin Y la' lc' q1 q2 q4; clear q1 q2 q3 q4 hfin)
   exact s4.out
 case done =>
  rintro C X ⟨a, c, rfl, q1, q2, q3, q4, q5, q6⟩ tX hqX hC hD nD
  have tP : Tn (fun k => k = W.heap.size) X (X.putObj W.heap.size (.deferred none)) := Tn.put _ _ _
  have HG : Hid (List1P xs T Sq lbx gbx most W (.returned (.tuple #[])) (X.putObj W.heap.size (.deferred none))) := by
   refine ⟨⟨_, rfl⟩, (tX.mono (fun k _ h => ?_)).trans tP (fun i hi (e : i = W.heap.size) => by omega), HS.out.stab _ _ _ hqX tP (fun b hb (e : b = W.heap.size) => by have := hRl b hb; omega), .inl ⟨q5, q3.tn tP (by omega), a, c, q1.tn tP (by omega), own_of_block q2 (fun k hk => tP.block k (own_block_lt q2 k hk).2 (fun (e : k = W.heap.size) => nD (.inr (.inr (e ▸ hk)))))⟩⟩
   rcases h with h | h | h | h
   ·exact .inl h
   ·exact .inr (.inl h)
   ·exact .inr (.inr h)
   ·cases h
  clear q1 q2 q3 q4 q5 q6 tX hqX hC nD tP
  gi_wp2
  refine ⟨by simp, .inl ⟨_, _, rfl, run_takeDeferred hD, ?_⟩⟩
  exact ⟨_, results_none rfl _ _ _, HG.out⟩
 case stop =>
  rintro c pre C X hpre ⟨rfl, rfl, q1, q2, q3⟩ tX hqX hC hD nD
  have tP : Tn (fun k => k = W.heap.size) X (X.putObj W.heap.size (.deferred none)) := Tn.put _ _ _
  have HG : Hid (List1P xs T Sq lbx gbx most W (.returned (.tuple #[])) (X.putObj W.heap.size (.deferred none))) := by
   refine ⟨⟨_, rfl⟩, (tX.mono (fun k _ h => ?_)).trans tP (fun i hi (e : i = W.heap.size) => by omega), HS.out.stab _ _ _ hqX tP (fun b hb (e : b = W.heap.size) => by have := hRl b hb; omega), .inr ⟨q2, q1.tn tP (by omega)⟩⟩
   rcases h with h | h | h | h
   ·exact .inl h
   ·exact .inr (.inl h)
   ·exact .inr (.inr h)
   ·cases h
  clear q1 q2 q3 tX hqX hC nD tP
  gi_wp2
  refine ⟨by simp, .inl ⟨_, _, rfl, run_takeDeferred hD, ?_⟩⟩
  exact ⟨_, results_none rfl _ _ _, HG.out⟩
end Go.Proofs.YtjkgjckkglfokaaGreat
