/- meet: what is open stands on stacks. In plain, and what holds between two calls. -/
import Derived.Test.YtafpfelgngniiaaNed
namespace Go.Proofs.Ytafpfelgngniiaa
open Go.RowKit
set_option linter.unusedVariables false

theorem upd_upd (S : Int → List Nat) (s : Int) (l l' : List Nat) : upd (upd S s l) s l' = upd S s l' := by
  funext t
  simp only [upd]
  split <;> rfl
theorem upd_same (S : Int → List Nat) (s : Int) (l : List Nat) : upd S s l s = l := by simp [upd]
theorem stks_outer {dr : Bool} {A D : List Pl} {k : Nat} {c : Int} {S : Int → List Nat} {x : Pl} (h : Stks dr A k c S) (hx : A[k]? = some x) (hc : c ≤ x.s.b) (hCan : Can A D) : Stks dr A (k + 1) x.s.b (upd S (slot dr A k) (popK A x.s.b (S (slot dr A k)) ++ [k])) := by
  have h1 := h.look hc (slot dr A k)
  have h2 := h1.push hx (hCan.va x (List.mem_of_getElem? hx)).2.1 (fun j hj => ?_) (fun j y hjk hy hb => ?_)
  · rwa [upd_upd, upd_same] at h2
  · rw [upd_same, popK_filter _ _ _ (h.fall _)] at hj
    simpa using (List.mem_filter.1 hj).2
  · have := anc_iff.1 (hCan.aa hjk hy hx hb)
    omega

/-- Who is told: how many were, his blocks. -/
abbrev TeI := Nat → (Nat → Prop) → World → Prop
structure TeOk (J : TeI) (B : Nat) : Prop where
  lt : ∀ {i C W}, J i C W → ∀ b, C b → B ≤ b ∧ b < W.heap.size
  stab : ∀ {i C A W W'}, J i C W → Tn A W W' → (∀ b, A b → B ≤ b ∧ ¬ C b) → J i C W'
/-- The stacks in memory. -/
structure StkS (N : Nat) (S : Int → List Nat) (cs : Array Value) (X : World) : Prop where
  box : IsCells X (N + 4) cs
  row : ∀ s : Nat, s < 65 → ∃ oa oc, cs[s]? = some (.slice oa (S s).length oc) ∧ X.ownsRow (N + 6) 3 1 (.slice oa (S s).length oc) (S s).length (ks (S s))
  apart : ∀ (s s' : Nat) v v' b, cs[s]? = some v → cs[s']? = some v' → v.ownBlock = some b → v'.ownBlock = some b → s = s'
  size : cs.size = 65
def Sb (cs : Array Value) (b : Nat) : Prop := ∃ (s : Nat) (v : Value), cs[s]? = some v ∧ v.ownBlock = some b
theorem StkS.lt {N : Nat} {S : Int → List Nat} {cs : Array Value} {X : World} (h : StkS N S cs X) : ∀ b, Sb cs b → N + 6 ≤ b ∧ b < X.heap.size := by
  rintro b ⟨s, v, h1, h2⟩
  have hs : s < 65 := by rw [← h.size]; exact (Array.getElem?_eq_some_iff.1 h1).1
  obtain ⟨oa, oc, h3, h4⟩ := h.row s hs
  rw [h1] at h3
  cases h3
  exact own_block_lt h4 b h2
theorem StkS.tn {A : Nat → Prop} {N : Nat} {S : Int → List Nat} {cs : Array Value} {X Y : World} (h : StkS N S cs X) (t : Tn A X Y) (h4 : ¬ A (N + 4)) (hA : ∀ b, Sb cs b → ¬ A b) : StkS N S cs Y :=
  ⟨h.box.tn t h4, fun s hs => by
    obtain ⟨oa, oc, h1, h2⟩ := h.row s hs
    exact ⟨oa, oc, h1, own_tn h2 t (fun k hk => hA k ⟨s, _, h1, hk⟩)⟩, h.apart, h.size⟩
/-- One stack becomes another: its row is the old one or new. -/
theorem StkS.put {N : Nat} {S : Int → List Nat} {cs : Array Value} {X Y : World} {s : Nat} {l : List Nat} {v0 : Value} {va : Option Addr} {vc : Nat} (h : StkS N S cs X) (hs : s < 65) (h0 : cs[s]? = some v0) (t : Tn (fun b => v0.ownBlock = some b) X Y) (ho : Y.ownsRow (N + 6) 3 1 (.slice va l.length vc) l.length (ks l)) (hb : ∀ b, (Value.slice va l.length vc).ownBlock = some b → v0.ownBlock = some b ∨ X.heap.size ≤ b) (hz : N + 6 ≤ X.heap.size) :
    StkS N (upd S s l) (cs.setIfInBounds s (.slice va l.length vc)) (Y.setCell ⟨N + 4, s, none⟩ (.slice va l.length vc)) := by
  have hs' : s < cs.size := by rw [h.size]; exact hs
  have tS := Tn.one Y (N + 4) s (.slice va l.length vc)
  have hlt := h.lt
  have n4 : ∀ k, v0.ownBlock = some k → N + 6 ≤ k := fun k hk => (hlt k ⟨s, v0, h0, hk⟩).1
  refine ⟨?_, fun r hr => ?_, fun r r' v v' b h1 h2 h3 h4 => ?_, by simp [h.size]⟩
  · exact (h.box.tn t (fun e => by have := n4 _ e; omega)).set s _
  · by_cases e : r = s
    · subst e
      refine ⟨va, vc, ?_, ?_⟩
      · rw [upd_same]
        simp [hs']
      · rw [upd_same]
        exact own_tn ho tS (fun k hk e => by have := (own_block_lt ho k hk).1; omega)
    · obtain ⟨oa, oc, h1, h2⟩ := h.row r hr
      have e' : upd S s l (r : Int) = S r := by simp [upd]; intro h; exact absurd (by omega) e
      rw [e']
      refine ⟨oa, oc, ?_, ?_⟩
      · rw [Array.getElem?_setIfInBounds_ne (fun h => e h.symm)]
        exact h1
      · exact own_tn (own_tn h2 t (fun k hk hk' => e (h.apart r s _ _ k h1 h0 hk hk'))) tS (fun k hk e => by have := (own_block_lt h2 k hk).1; omega)
  · have key : ∀ (q : Nat) u, (cs.setIfInBounds s (.slice va l.length vc))[q]? = some u → (q = s ∧ u = .slice va l.length vc) ∨ (q ≠ s ∧ cs[q]? = some u) := by
      intro q u hq
      by_cases e : q = s
      · subst e
        simp [hs'] at hq
        exact .inl ⟨rfl, hq.symm⟩
      · rw [Array.getElem?_setIfInBounds_ne (fun h => e h.symm)] at hq
        exact .inr ⟨e, hq⟩
    have other : ∀ (q : Nat) u, q ≠ s → cs[q]? = some u → u.ownBlock = some b → (Value.slice va l.length vc).ownBlock = some b → False := by
      intro q u hne hq hu hv
      rcases hb b hv with h' | h'
      · exact hne (h.apart q s u v0 b hq h0 hu h')
      · have := (hlt b ⟨q, u, hq, hu⟩).2
        omega
    rcases key r v h1 with ⟨rfl, rfl⟩ | ⟨n1, g1⟩
    · rcases key r' v' h2 with ⟨rfl, rfl⟩ | ⟨n2, g2⟩
      · rfl
      · exact (other r' v' n2 g2 h4 h3).elim
    · rcases key r' v' h2 with ⟨rfl, rfl⟩ | ⟨n2, g2⟩
      · exact (other r v n1 g1 h3 h4).elim
      · exact h.apart r r' v v' b g1 g2 h3 h4
theorem Sb.put {cs : Array Value} {s : Nat} {v v0 : Value} {X : World} (h0 : cs[s]? = some v0) (hb : ∀ b, v.ownBlock = some b → v0.ownBlock = some b ∨ X.heap.size ≤ b) : ∀ b, Sb (cs.setIfInBounds s v) b → Sb cs b ∨ X.heap.size ≤ b := by
  rintro b ⟨q, u, hq, hu⟩
  by_cases e : q = s
  · subst e
    have hs := (Array.getElem?_eq_some_iff.1 h0).1
    simp [hs] at hq
    subst hq
    rcases hb b hu with h | h
    · exact .inl ⟨q, v0, h0, h⟩
    · exact .inr h
  · rw [Array.getElem?_setIfInBounds_ne (fun h => e h.symm)] at hq
    exact .inl ⟨q, u, hq, hu⟩

/-- What both lists' places say of the label. -/
structure MtP (A D : List Pl) (k i : Nat) (c : Int) : Prop where
  ca : ∀ x, A[k]? = some x → c ≤ x.s.b
  cd : ∀ y, D[i]? = some y → c ≤ y.s.b
  lo : ∀ j x y, j < k → A[j]? = some x → D[i]? = some y → x.s.b < y.s.b
  le : k ≤ A.length
theorem pw_lt {L : List Pl} (h : L.Pairwise (fun x y => x.s.b < y.s.b)) {i j : Nat} {x y : Pl} (hij : i < j) (hx : L[i]? = some x) (hy : L[j]? = some y) : x.s.b < y.s.b := by
  have h1 := List.pairwise_iff_getElem.1 h i j (List.getElem?_eq_some_iff.1 hx).1 (List.getElem?_eq_some_iff.1 hy).1 hij
  rwa [(List.getElem?_eq_some_iff.1 hx).2, (List.getElem?_eq_some_iff.1 hy).2] at h1
theorem MtP.outer {A D : List Pl} {k i : Nat} {c : Int} (h : MtP A D k i c) (hCan : Can A D) {x : Pl} (hx : A[k]? = some x) (hy : ∀ y, D[i]? = some y → x.s.b < y.s.b) : MtP A D (k + 1) i x.s.b := by
  refine ⟨fun z hz => ?_, fun y hy' => by have := hy y hy'; omega, fun j z y hj hz hy' => ?_, (List.getElem?_eq_some_iff.1 hx).1⟩
  · have := pw_lt hCan.ra (Nat.lt_succ_self k) hx hz; omega
  · rcases Nat.lt_or_ge j k with h1 | h1
    · exact h.lo j z y h1 hz hy'
    · have : j = k := by omega
      subst this
      rw [hx] at hz
      cases hz
      exact hy y hy'
theorem MtP.inner {A D : List Pl} {k i : Nat} {c : Int} (h : MtP A D k i c) (hCan : Can A D) {y : Pl} (hy : D[i]? = some y) (hx : ∀ x, A[k]? = some x → y.s.b ≤ x.s.b) : MtP A D k (i + 1) y.s.b := by
  refine ⟨hx, fun z hz => ?_, fun j z z' hj hz hz' => ?_, h.le⟩
  · have := pw_lt hCan.rd (Nat.lt_succ_self i) hy hz; omega
  · have h1 := h.lo j z y hj hz hy
    have h2 := pw_lt hCan.rd (Nat.lt_succ_self i) hy hz'
    omega
theorem MtP.opn {dr : Bool} {A D : List Pl} {k i : Nat} {c : Int} {S : Int → List Nat} (h : MtP A D k i c) (hCan : Can A D) (hS : Stks dr A k c S) {y : Pl} (hy : D[i]? = some y) (hx : ∀ x, A[k]? = some x → y.s.b ≤ x.s.b) : popK A y.s.b (S (if dr then y.s.l else 0)) = opn dr A y.s := by
  rw [hS.popped (h.cd y hy)]
  refine opn_eq hCan (List.mem_of_getElem? hy) h.le (fun j x hj hjx => h.lo j x y hj hjx hy) (fun j x hj hjx => ?_)
  rcases Nat.lt_or_ge k j with h1 | h1
  · obtain ⟨z, hz⟩ : ∃ z, A[k]? = some z := ⟨_, List.getElem?_eq_getElem (by have := (List.getElem?_eq_some_iff.1 hjx).1; omega)⟩
    have h2 := pw_lt hCan.ra h1 hz hjx
    have h3 := hx z hz
    omega
  · have : j = k := by omega
    subst this
    have := hx x hjx
    omega

/-- meet under way. -/
def MtC (N : Nat) (cs : Array Value) (Cj : Nat → Prop) : Nat → Prop := fun b => Cj b ∨ (N ≤ b ∧ b < N + 6) ∨ Sb cs b
structure MtS (N B : Nat) (dr : Bool) (A D : List Pl) (a d : Option Addr) (ca cd tf : Nat) (tb : Array Value) (J : TeI) (k i ij : Nat) (Cj : Nat → Prop) (cs : Array Value) (S : Int → List Nat) (c : Int) (X : World) : Prop where
  ap : ∀ b, Cj b → ¬ (N ≤ b ∧ b < N + 6) ∧ ¬ Sb cs b
  j : J ij Cj X
  st : StkS N S cs X
  pl : Stks dr A k c S
  mp : MtP A D k i c
  b0 : IsCells X N #[.slice a A.length ca]
  b1 : IsCells X (N + 1) #[.slice d D.length cd]
  b2 : IsCells X (N + 2) #[.bool dr]
  b3 : IsCells X (N + 3) #[.func (.func tf) #[] tb]
  b5 : IsCells X (N + 5) #[.func (.func 36) #[] #[.pointer (some ⟨N + 2, 0, none⟩)]]
  pa : PlsAt X B a A
  pd : PlsAt X B d D
  bn : B ≤ N
def MtI (N B : Nat) (dr : Bool) (A D : List Pl) (a d : Option Addr) (ca cd tf : Nat) (tb : Array Value) (J : TeI) : ThI := fun k i C X => ∃ Cj cs S c, C = MtC N cs Cj ∧ MtS N B dr A D a d ca cd tf tb J k i i Cj cs S c X
theorem MtS.tn {N B : Nat} {dr : Bool} {A D : List Pl} {a d : Option Addr} {ca cd tf : Nat} {tb : Array Value} {J : TeI} {k i ij : Nat} {Cj : Nat → Prop} {cs : Array Value} {S : Int → List Nat} {c : Int} {X Y : World} {Q : Nat → Prop} (hJ : TeOk J B) (h : MtS N B dr A D a d ca cd tf tb J k i ij Cj cs S c X) (t : Tn Q X Y) (hQ : ∀ b, Q b → B ≤ b ∧ ¬ MtC N cs Cj b)   : MtS N B dr A D a d ca cd tf tb J k i ij Cj cs S c Y := by
  have hb : Below B X Y := t.below (by have := h.b0.lt; have := h.bn; omega) (fun k hk => (hQ k hk).1)
  have nq : ∀ j, j < 6 → ¬ Q (N + j) := fun j hj hq => (hQ _ hq).2 (.inr (.inl ⟨by omega, by omega⟩))
  exact ⟨h.ap, hJ.stab h.j t (fun b hb => ⟨(hQ b hb).1, fun hc => (hQ b hb).2 (.inl hc)⟩), h.st.tn t (nq 4 (by omega)) (fun b hb hq => (hQ b hq).2 (.inr (.inr hb))), h.pl, h.mp, h.b0.tn t (nq 0 (by omega)), h.b1.tn t (nq 1 (by omega)), h.b2.tn t (nq 2 (by omega)), h.b3.tn t (nq 3 (by omega)), h.b5.tn t (nq 5 (by omega)), h.pa.below hb (Nat.le_refl _), h.pd.below hb (Nat.le_refl _), h.bn⟩
theorem MtI.ok {N B : Nat} {dr : Bool} {A D : List Pl} {a d : Option Addr} {ca cd tf : Nat} {tb : Array Value} {J : TeI} (hJ : TeOk J B) : ThOk (MtI N B dr A D a d ca cd tf tb J) B := by
  refine ⟨?_, ?_⟩
  · rintro k i C W ⟨Cj, cs, S, c, rfl, h⟩
    have l0 := h.b5.lt
    have hn := h.bn
    refine ⟨by omega, fun b hb => ?_⟩
    rcases hb with hb | hb | hb
    · exact hJ.lt h.j b hb
    · omega
    · have := h.st.lt b hb
      omega
  · rintro k i C Q W W' ⟨Cj, cs, S, c, rfl, h⟩ t hQ
    exact ⟨Cj, cs, S, c, rfl, h.tn hJ t hQ⟩

/-- One stack became another one. -/
theorem MtS.move {N B : Nat} {dr : Bool} {A D : List Pl} {a d : Option Addr} {ca cd tf : Nat} {tb : Array Value} {J : TeI} {k i ij k' i' : Nat} {Cj : Nat → Prop} {cs : Array Value} {S : Int → List Nat} {c c' : Int} {X Y : World} {s : Nat} {l : List Nat} {v0 : Value} {va : Option Addr} {vc : Nat} (hJ : TeOk J B) (h : MtS N B dr A D a d ca cd tf tb J k i ij Cj cs S c X) (hs : s < 65) (h0 : cs[s]? = some v0) (t : Tn (fun b => v0.ownBlock = some b) X Y) (ho : Y.ownsRow (N + 6) 3 1 (.slice va l.length vc) l.length (ks l)) (hb : ∀ b, (Value.slice va l.length vc).ownBlock = some b → v0.ownBlock = some b ∨ X.heap.size ≤ b)
    (hp : Stks dr A k' c' (upd S s l)) (hm : MtP A D k' i' c') :
    MtS N B dr A D a d ca cd tf tb J k' i' ij Cj (cs.setIfInBounds s (.slice va l.length vc)) (upd S s l) c' (Y.setCell ⟨N + 4, s, none⟩ (.slice va l.length vc)) ∧ Tn (MtC N cs Cj) X (Y.setCell ⟨N + 4, s, none⟩ (.slice va l.length vc)) ∧ ∀ b, MtC N (cs.setIfInBounds s (.slice va l.length vc)) Cj b → MtC N cs Cj b ∨ X.heap.size ≤ b := by
  have l5 := h.b5.lt
  have hn := h.bn
  have tS := Tn.one Y (N + 4) s (.slice va l.length vc)
  have tX : Tn (fun b => v0.ownBlock = some b ∨ b = N + 4) X (Y.setCell ⟨N + 4, s, none⟩ (.slice va l.length vc)) := (t.mono (fun _ _ h => .inl h)).trans tS (fun _ _ h => .inr h)
  have hv : ∀ b, v0.ownBlock = some b → N + 6 ≤ b ∧ Sb cs b := fun b hb => ⟨(h.st.lt b ⟨s, v0, h0, hb⟩).1, s, v0, h0, hb⟩
  have hB : Below B X (Y.setCell ⟨N + 4, s, none⟩ (.slice va l.length vc)) := tX.below (by omega) (fun b hb => hb.elim (fun h => by have := (hv b h).1; omega) (fun e => by omega))
  have nq : ∀ j, j < 6 → j ≠ 4 → ¬ (v0.ownBlock = some (N + j) ∨ N + j = N + 4) := fun j hj h4 hq => hq.elim (fun h => by have := (hv _ h).1; omega) (fun e => by omega)
  have hsb := Sb.put (v := .slice va l.length vc) (X := X) h0 hb
  refine ⟨⟨fun b hb' => ⟨(h.ap b hb').1, fun hq => ?_⟩, hJ.stab h.j tX (fun b hb' => ⟨?_, fun hc => ?_⟩), h.st.put hs h0 t ho hb (by omega), hp, hm, h.b0.tn tX (nq 0 (by omega) (by omega)), h.b1.tn tX (nq 1 (by omega) (by omega)), h.b2.tn tX (nq 2 (by omega) (by omega)), h.b3.tn tX (nq 3 (by omega) (by omega)), h.b5.tn tX (nq 5 (by omega) (by omega)), h.pa.below hB (Nat.le_refl _), h.pd.below hB (Nat.le_refl _), h.bn⟩, tX.mono (fun b _ hb' => ?_), fun b hb' => ?_⟩
  · rcases hsb b hq with h' | h'
    · exact (h.ap b hb').2 h'
    · have := (hJ.lt h.j b hb').2
      omega
  · rcases hb' with h' | h'
    · have := (hv b h').1; omega
    · omega
  · rcases hb' with h' | h'
    · exact (h.ap b hc).2 (hv b h').2
    · exact (h.ap b hc).1 ⟨by omega, by omega⟩
  · rcases hb' with h' | h'
    · exact .inr (.inr (hv b h').2)
    · exact .inr (.inl ⟨by omega, by omega⟩)
  · rcases hb' with h' | h' | h'
    · exact .inl (.inl h')
    · exact .inl (.inr (.inl h'))
    · exact (hsb b h').imp (fun h => .inr (.inr h)) id
/-- He was told. -/
theorem MtS.told {N B : Nat} {dr : Bool} {A D : List Pl} {a d : Option Addr} {ca cd tf : Nat} {tb : Array Value} {J : TeI} {k i ij ij' : Nat} {Cj Cj' : Nat → Prop} {cs : Array Value} {S : Int → List Nat} {c : Int} {X Y : World} (hJ : TeOk J B) (h : MtS N B dr A D a d ca cd tf tb J k i ij Cj cs S c X) (t : Tn Cj X Y) (hC : ∀ b, Cj' b → Cj b ∨ X.heap.size ≤ b) (hj : J ij' Cj' Y) :
    MtS N B dr A D a d ca cd tf tb J k i ij' Cj' cs S c Y ∧ Tn (MtC N cs Cj) X Y ∧ ∀ b, MtC N cs Cj' b → MtC N cs Cj b ∨ X.heap.size ≤ b := by
  have l5 := h.b5.lt
  have hn := h.bn
  have hB : Below B X Y := t.below (by omega) (fun b hb => (hJ.lt h.j b hb).1)
  have nq : ∀ j, j < 6 → ¬ Cj (N + j) := fun j hj hq => (h.ap _ hq).1 ⟨by omega, by omega⟩
  refine ⟨⟨fun b hb' => ⟨fun hq => ?_, fun hq => ?_⟩, hj, h.st.tn t (nq 4 (by omega)) (fun b hb hq => (h.ap b hq).2 hb), h.pl, h.mp, h.b0.tn t (nq 0 (by omega)), h.b1.tn t (nq 1 (by omega)), h.b2.tn t (nq 2 (by omega)), h.b3.tn t (nq 3 (by omega)), h.b5.tn t (nq 5 (by omega)), h.pa.below hB (Nat.le_refl _), h.pd.below hB (Nat.le_refl _), h.bn⟩, t.mono (fun b _ hb' => .inl hb'), fun b hb' => ?_⟩
  · rcases hC b hb' with h' | h'
    · exact (h.ap b h').1 hq
    · omega
  · rcases hC b hb' with h' | h'
    · exact (h.ap b h').2 hq
    · have := (h.st.lt b hq).2; omega
  · rcases hb' with h' | h' | h'
    · exact (hC b h').imp .inl id
    · exact .inl (.inr (.inl h'))
    · exact .inl (.inr (.inr h'))

end Go.Proofs.Ytafpfelgngniiaa
