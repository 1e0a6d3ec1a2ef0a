/- Joins in plain: spans that do not cross, the stack of what is open, which join. -/
import Derived.Test.YtmeinebfdljndaaSp
namespace Go.Proofs.Ytmeinebfdljndaa
open Go.RowKit
set_option linter.unusedVariables false

/-- Those that have not ended ahead of b. -/
def pop (b : Int) (st : List Sp) : List Sp := (st.reverse.dropWhile (fun x => decide (x.e < b))).reverse
theorem pop_nil (b : Int) : pop b [] = [] := rfl
theorem pop_lt {b : Int} {st : List Sp} {x : Sp} (h : x.e < b) : pop b (st ++ [x]) = pop b st := by simp [pop, h]
theorem pop_ge {b : Int} {st : List Sp} {x : Sp} (h : ¬ x.e < b) : pop b (st ++ [x]) = st ++ [x] := by simp [pop, h]
/-- Two spans do not cross. -/
def Ok (x y : Sp) : Prop := x = y ∨ x.e < y.b ∨ y.e < x.b ∨ anc x y = true ∨ anc y x = true
theorem Ok.symm {x y : Sp} (h : Ok x y) : Ok y x := by
  rcases h with h | h | h | h | h
  · exact .inl h.symm
  · exact .inr (.inr (.inl h))
  · exact .inr (.inl h)
  · exact .inr (.inr (.inr (.inr h)))
  · exact .inr (.inr (.inr (.inl h)))
/-- One is the other one or around it. -/
def Le (x y : Sp) : Prop := x = y ∨ anc x y = true
theorem anc_iff {x y : Sp} : anc x y = true ↔ x.b < y.b ∧ y.e < x.e := by simp [anc]
theorem Le.trans {x y z : Sp} (h : Le x y) (k : Le y z) : Le x z := by
  rcases h with rfl | h
  · exact k
  · rcases k with rfl | k
    · exact .inr h
    · rw [anc_iff] at h k
      exact .inr (anc_iff.2 (by omega))
theorem Le.ok {x y : Sp} (h : Le x y) : Ok x y := h.elim .inl (fun h => .inr (.inr (.inr (.inl h))))
theorem Le.en {x y : Sp} (h : Le x y) : y.e ≤ x.e := by
  rcases h with rfl | h
  · omega
  · rw [anc_iff] at h; omega

theorem pop_eq (b : Int) (st : List Sp) : ∃ r, st = pop b st ++ r ∧ (∀ x ∈ r, x.e < b) ∧ ∀ t, (pop b st).getLast? = some t → ¬ t.e < b := by
  induction h : st.length generalizing st with
  | zero =>
    have : st = [] := List.length_eq_zero_iff.1 h
    subst this
    exact ⟨[], rfl, fun _ h => (by cases h), fun _ h => (by cases h)⟩
  | succ n ih =>
    obtain ⟨s, x, rfl⟩ : ∃ s x, st = s ++ [x] := ⟨st.dropLast, st.getLast (by intro e; rw [e] at h; cases h), (List.dropLast_concat_getLast _).symm⟩
    by_cases hx : x.e < b
    · have e : pop b (s ++ [x]) = pop b s := by simp [pop, hx]
      obtain ⟨r, h1, h2, h3⟩ := ih s (by simpa using h)
      rw [e]
      refine ⟨r ++ [x], by rw [← List.append_assoc, ← h1], fun y hy => ?_, h3⟩
      rcases List.mem_append.1 hy with hy | hy
      · exact h2 y hy
      · rw [List.mem_singleton.1 hy]; exact hx
    · have e : pop b (s ++ [x]) = s ++ [x] := by simp [pop, hx]
      rw [e]
      refine ⟨[], by simp, fun _ h => (by cases h), fun t ht => ?_⟩
      simp at ht
      rw [← ht]
      exact hx

/-- What was seen, and what is open of it, at a label. -/
structure Opn (c : Int) (P st : List Sp) : Prop where
  all : ∀ x ∈ P, c ≤ x.e → x ∈ st
  sub : ∀ x ∈ st, x ∈ P
  chain : st.Pairwise Le
theorem Opn.nil (c : Int) : Opn c [] [] := ⟨fun _ h => (by cases h), fun _ h => (by cases h), .nil⟩

theorem last_le {st : List Sp} {t : Sp} (h : st.Pairwise Le) (ht : st.getLast? = some t) : ∀ x ∈ st, Le x t := by
  intro x hx
  obtain ⟨s, rfl⟩ : ∃ s, st = s ++ [t] := by
    rw [List.getLast?_eq_some_iff] at ht
    exact ht
  rcases List.mem_append.1 hx with h1 | h1
  · exact (List.pairwise_append.1 h).2.2 x h1 t (by simp)
  · rw [List.mem_singleton.1 h1]; exact .inl rfl

/-- Behind popping. -/
theorem Opn.pop {c b : Int} {P st : List Sp} (h : Opn c P st) (hc : c ≤ b) : Opn b P (pop b st) ∧ ∀ x ∈ pop b st, b ≤ x.e := by
  obtain ⟨r, h1, h2, h3⟩ := pop_eq b st
  have hsub : ∀ x ∈ Go.Proofs.Ytmeinebfdljndaa.pop b st, x ∈ st := fun x hx => by rw [h1]; exact List.mem_append_left _ hx
  have hch : (Go.Proofs.Ytmeinebfdljndaa.pop b st).Pairwise Le := by
    have := h.chain
    rw [h1] at this
    exact (List.pairwise_append.1 this).1
  refine ⟨⟨fun x hx he => ?_, fun x hx => h.sub x (hsub x hx), hch⟩, fun x hx => ?_⟩
  · have := h.all x hx (by omega)
    rw [h1] at this
    rcases List.mem_append.1 this with h | h
    · exact h
    · have := h2 x h; omega
  · cases hl : (Go.Proofs.Ytmeinebfdljndaa.pop b st).getLast? with
    | none => rw [List.getLast?_eq_none_iff.1 hl] at hx; cases hx
    | some t =>
      have := h3 t hl
      have := (last_le hch hl x hx).en
      omega

/-- The one that comes fits to what is open: then to all. -/
theorem Opn.fits {P st : List Sp} {s : Sp} (h : Opn s.b P st) (hb : ∀ x ∈ P, x.b ≤ s.b) (hs : s.b < s.e) (he : ∀ x ∈ st, s.b ≤ x.e) :
    ((∀ t, st.getLast? = some t → Le t s) ↔ ∀ x ∈ P, Ok x s) := by
  constructor
  · intro ht x hx
    by_cases hxe : x.e < s.b
    · exact .inr (.inl hxe)
    · have hm := h.all x hx (by omega)
      cases hl : st.getLast? with
      | none => rw [List.getLast?_eq_none_iff.1 hl] at hm; cases hm
      | some t => exact ((last_le h.chain hl x hm).trans (ht t hl)).ok
  · intro ha t ht
    have hm : t ∈ st := List.mem_of_getLast? ht
    have h1 := ha t (h.sub t hm)
    have h2 := he t hm
    have h3 := hb t (h.sub t hm)
    rcases h1 with h1 | h1 | h1 | h1 | h1
    · exact .inl h1
    · omega
    · omega
    · exact .inr h1
    · rw [anc_iff] at h1; omega

/-- It comes. -/
theorem Opn.push {P st : List Sp} {s : Sp} (h : Opn s.b P st) (ht : ∀ t, st.getLast? = some t → Le t s) : Opn s.b (P ++ [s]) (st ++ [s]) := by
  refine ⟨fun x hx he => ?_, fun x hx => ?_, ?_⟩
  · rcases List.mem_append.1 hx with hx | hx
    · exact List.mem_append_left _ (h.all x hx he)
    · exact List.mem_append_right _ hx
  · rcases List.mem_append.1 hx with hx | hx
    · exact List.mem_append_left _ (h.sub x hx)
    · exact List.mem_append_right _ hx
  · refine List.pairwise_append.2 ⟨h.chain, List.pairwise_singleton _ _, fun x hx y hy => ?_⟩
    rw [List.mem_singleton.1 hy]
    cases hl : st.getLast? with
    | none => rw [List.getLast?_eq_none_iff.1 hl] at hx; cases hx
    | some t => exact (last_le h.chain hl x hx).trans (ht t hl)
/-- It is there already. -/
theorem Opn.same {P st : List Sp} {s : Sp} (h : Opn s.b P st) (ht : st.getLast? = some s) : Opn s.b (P ++ [s]) st := by
  refine ⟨fun x hx he => ?_, fun x hx => List.mem_append_left _ (h.sub x hx), h.chain⟩
  rcases List.mem_append.1 hx with hx | hx
  · exact h.all x hx he
  · rw [List.mem_singleton.1 hx]; exact List.mem_of_getLast? ht

theorem pw_snoc {P : List Sp} {s : Sp} : (P ++ [s]).Pairwise Ok ↔ P.Pairwise Ok ∧ ∀ x ∈ P, Ok x s := by
  rw [List.pairwise_append]
  constructor
  · rintro ⟨h1, -, h2⟩
    exact ⟨h1, fun x hx => h2 x hx s (by simp)⟩
  · rintro ⟨h1, h2⟩
    exact ⟨h1, List.pairwise_singleton _ _, fun x hx y hy => by rw [List.mem_singleton.1 hy]; exact h2 x hx⟩

/-- The program's look: what comes fits to the last that is open. -/
def lastFits (st : List Sp) (s : Sp) : Bool := match st.getLast? with
  | none => true
  | some t => decide (t.b = s.b ∧ t.e = s.e ∧ t.l = s.l) || anc t s
theorem lastFits_iff {st : List Sp} {s : Sp} : lastFits st s = true ↔ ∀ t, st.getLast? = some t → Le t s := by
  unfold lastFits
  cases st.getLast? with
  | none => simp
  | some t =>
    simp only [Option.some.injEq, forall_eq', Bool.or_eq_true, decide_eq_true_eq, Le]
    constructor
    · rintro (⟨h1, h2, h3⟩ | h)
      · left; cases t; cases s; simp_all
      · exact .inr h
    · rintro (rfl | h)
      · exact .inl ⟨rfl, rfl, rfl⟩
      · exact .inr h
def come (z : List Sp × Bool) (s : Sp) : List Sp × Bool := (pop s.b z.1 ++ [s], z.2 && lastFits (pop s.b z.1) s)

theorem come_false (L : List Sp) (z : List Sp × Bool) (h : z.2 = false) : (L.foldl come z).2 = false := by
  induction L generalizing z with
  | nil => exact h
  | cons x L ih => exact ih _ (by simp [come, h])
theorem come_fold (L P : List Sp) (st : List Sp) (c : Int) (ho : Opn c P st) (hw : P.Pairwise Ok) (hs : (P ++ L).Pairwise (fun x y => x.b ≤ y.b)) (hc : ∀ x ∈ L, c ≤ x.b) (hv : ∀ x ∈ L, x.b < x.e) :
    ((L.foldl come (st, true)).2 = true ↔ (P ++ L).Pairwise Ok) := by
  induction L generalizing P st c with
  | nil => simpa using hw
  | cons s L ih =>
    obtain ⟨h1, h2⟩ := ho.pop (hc s (by simp))
    have hb : ∀ x ∈ P, x.b ≤ s.b := fun x hx => (List.pairwise_append.1 hs).2.2 x hx s (by simp)
    have hL : ∀ x ∈ L, s.b ≤ x.b := fun x hx => (List.pairwise_cons.1 (List.pairwise_append.1 hs).2.1).1 x hx
    have hf := h1.fits hb (hv s (by simp)) h2
    have e : P ++ s :: L = (P ++ [s]) ++ L := by simp
    rw [e]
    simp only [List.foldl_cons]
    cases hq : lastFits (pop s.b st) s with
    | true =>
      have e2 : come (st, true) s = (pop s.b st ++ [s], true) := by simp [come, hq]
      rw [e2]
      have hlf := lastFits_iff.1 hq
      exact ih (P ++ [s]) _ s.b (h1.push hlf) (pw_snoc.2 ⟨hw, hf.1 hlf⟩) (by rw [← e]; exact hs) hL (fun x hx => hv x (by simp [hx]))
    | false =>
      have e2 : (come (st, true) s).2 = false := by simp [come, hq]
      rw [come_false L _ e2]
      constructor
      · intro h; cases h
      · intro h
        have h3 := pw_snoc.1 (List.pairwise_append.1 h).1
        have := lastFits_iff.2 (hf.2 h3.2)
        rw [hq] at this
        cases this

/-- The document's look. -/
def fitR (st : List Sp) : List Sp → Bool
  | [] => true
  | s :: L => match (pop s.b st).getLast? with
    | none => fitR (pop s.b st ++ [s]) L
    | some t => if slf s t then (if s.l = t.l then fitR (pop s.b st) L else false) else (if anc t s then fitR (pop s.b st ++ [s]) L else false)
theorem slf_iff {x y : Sp} : slf x y = true ↔ x.b = y.b ∧ x.e = y.e := by simp [slf]
theorem fitR_iff (L P : List Sp) (st : List Sp) (c : Int) (ho : Opn c P st) (hw : P.Pairwise Ok) (hs : (P ++ L).Pairwise (fun x y => x.b ≤ y.b)) (hc : ∀ x ∈ L, c ≤ x.b) (hv : ∀ x ∈ L, x.b < x.e) :
    (fitR st L = true ↔ (P ++ L).Pairwise Ok) := by
  induction L generalizing P st c with
  | nil => simpa [fitR] using hw
  | cons s L ih =>
    obtain ⟨h1, h2⟩ := ho.pop (hc s (by simp))
    have hb : ∀ x ∈ P, x.b ≤ s.b := fun x hx => (List.pairwise_append.1 hs).2.2 x hx s (by simp)
    have hL : ∀ x ∈ L, s.b ≤ x.b := fun x hx => (List.pairwise_cons.1 (List.pairwise_append.1 hs).2.1).1 x hx
    have hf := h1.fits hb (hv s (by simp)) h2
    have e : P ++ s :: L = (P ++ [s]) ++ L := by simp
    have hv' : ∀ x ∈ L, x.b < x.e := fun x hx => hv x (by simp [hx])
    rw [e]
    have hs' := hs
    rw [e] at hs'
    have bad : ∀ t, (pop s.b st).getLast? = some t → ¬ Le t s → ¬ ((P ++ [s]) ++ L).Pairwise Ok := fun t ht hn h => hn (hf.2 (pw_snoc.1 (List.pairwise_append.1 h).1).2 t ht)
    unfold fitR
    cases hl : (pop s.b st).getLast? with
    | none =>
      have hlf : ∀ t, (pop s.b st).getLast? = some t → Le t s := fun t ht => by rw [hl] at ht; cases ht
      exact ih (P ++ [s]) _ s.b (h1.push hlf) (pw_snoc.2 ⟨hw, hf.1 hlf⟩) hs' hL hv'
    | some t =>
      simp only
      cases hq : slf s t with
      | true =>
        have hq' := slf_iff.1 hq
        by_cases hll : s.l = t.l
        · have hst : s = t := by
            obtain ⟨h5, h6⟩ := hq'
            clear hl bad hf h1 h2
            cases s
            cases t
            simp only at h5 h6 hll
            rw [h5, h6, hll]
          subst hst
          have hlf : ∀ t, (pop s.b st).getLast? = some t → Le t s := fun t ht => by rw [hl] at ht; cases ht; exact .inl rfl
          simp only [if_true]
          exact ih (P ++ [s]) _ s.b (h1.same hl) (pw_snoc.2 ⟨hw, hf.1 hlf⟩) hs' hL hv'
        · simp only [if_true, if_neg hll]
          constructor
          · intro h; cases h
          · intro h
            exfalso
            refine bad t hl (fun h => ?_) h
            rcases h with rfl | h
            · exact hll rfl
            · rw [anc_iff] at h; omega
      | false =>
        simp only [Bool.false_eq_true, if_false]
        cases ha : anc t s with
        | true =>
          simp only [if_true]
          have hlf : ∀ t, (pop s.b st).getLast? = some t → Le t s := fun t' ht => by rw [hl] at ht; cases ht; exact .inr ha
          exact ih (P ++ [s]) _ s.b (h1.push hlf) (pw_snoc.2 ⟨hw, hf.1 hlf⟩) hs' hL hv'
        | false =>
          constructor
          · intro h; simp at h
          · intro h
            exfalso
            refine bad t hl (fun h => ?_) h
            rcases h with rfl | h
            · simp [slf] at hq
            · rw [ha] at h; cases h

/-- Both lists in one: the second's first where they begin alike. -/
def mgP : List Sp → List Sp → List Sp
  | [], D => D
  | a :: A, [] => a :: A
  | a :: A, d :: D => if a.b < d.b then a :: mgP A (d :: D) else d :: mgP (a :: A) D
termination_by A D => A.length + D.length
/-- The first's first. -/
def mgR : List Sp → List Sp → List Sp
  | [], D => D
  | a :: A, [] => a :: A
  | a :: A, d :: D => if a.b ≤ d.b then a :: mgR A (d :: D) else d :: mgR (a :: A) D
termination_by A D => A.length + D.length

theorem mgP_nil (A : List Sp) : mgP A [] = A := by cases A <;> simp [mgP]
theorem mgR_nil (A : List Sp) : mgR A [] = A := by cases A <;> simp [mgR]
theorem mgP_perm (A D : List Sp) : (mgP A D).Perm (A ++ D) := by
  induction A, D using mgP.induct with
  | case1 D => simp [mgP]
  | case2 a A => simp [mgP]
  | case3 a A d D h ih => rw [mgP, if_pos h]; exact ih.cons a
  | case4 a A d D h ih => rw [mgP, if_neg h]; exact (ih.cons d).trans List.perm_middle.symm
theorem mgR_perm (A D : List Sp) : (mgR A D).Perm (A ++ D) := by
  induction A, D using mgR.induct with
  | case1 D => simp [mgR]
  | case2 a A => simp [mgR]
  | case3 a A d D h ih => rw [mgR, if_pos h]; exact ih.cons a
  | case4 a A d D h ih => rw [mgR, if_neg h]; exact (ih.cons d).trans List.perm_middle.symm
abbrev Ris (L : List Sp) : Prop := L.Pairwise (fun x y => x.b ≤ y.b)
theorem mgP_ris (A D : List Sp) (hA : Ris A) (hD : Ris D) : Ris (mgP A D) := by
  induction A, D using mgP.induct with
  | case1 D => simpa [mgP] using hD
  | case2 a A => simpa [mgP] using hA
  | case3 a A d D h ih =>
    rw [mgP, if_pos h]
    refine List.pairwise_cons.2 ⟨fun x hx => ?_, ih (List.pairwise_cons.1 hA).2 hD⟩
    rcases List.mem_append.1 ((mgP_perm _ _).mem_iff.1 hx) with h1 | h1
    · exact (List.pairwise_cons.1 hA).1 x h1
    · rcases List.mem_cons.1 h1 with rfl | h1
      · omega
      · have := (List.pairwise_cons.1 hD).1 x h1; omega
  | case4 a A d D h ih =>
    rw [mgP, if_neg h]
    refine List.pairwise_cons.2 ⟨fun x hx => ?_, ih hA (List.pairwise_cons.1 hD).2⟩
    rcases List.mem_append.1 ((mgP_perm _ _).mem_iff.1 hx) with h1 | h1
    · rcases List.mem_cons.1 h1 with rfl | h1
      · omega
      · have := (List.pairwise_cons.1 hA).1 x h1; omega
    · exact (List.pairwise_cons.1 hD).1 x h1
theorem mgR_ris (A D : List Sp) (hA : Ris A) (hD : Ris D) : Ris (mgR A D) := by
  induction A, D using mgR.induct with
  | case1 D => simpa [mgR] using hD
  | case2 a A => simpa [mgR] using hA
  | case3 a A d D h ih =>
    rw [mgR, if_pos h]
    refine List.pairwise_cons.2 ⟨fun x hx => ?_, ih (List.pairwise_cons.1 hA).2 hD⟩
    rcases List.mem_append.1 ((mgR_perm _ _).mem_iff.1 hx) with h1 | h1
    · exact (List.pairwise_cons.1 hA).1 x h1
    · rcases List.mem_cons.1 h1 with rfl | h1
      · omega
      · have := (List.pairwise_cons.1 hD).1 x h1; omega
  | case4 a A d D h ih =>
    rw [mgR, if_neg h]
    refine List.pairwise_cons.2 ⟨fun x hx => ?_, ih hA (List.pairwise_cons.1 hD).2⟩
    rcases List.mem_append.1 ((mgR_perm _ _).mem_iff.1 hx) with h1 | h1
    · rcases List.mem_cons.1 h1 with rfl | h1
      · omega
      · have := (List.pairwise_cons.1 hA).1 x h1; omega
    · exact (List.pairwise_cons.1 hD).1 x h1

/-- No two of both lists cross. -/
def Fine (A D : List Sp) : Prop := (A ++ D).Pairwise Ok
theorem fine_P {A D : List Sp} (hA : Ris A) (hD : Ris D) (hv : ∀ x ∈ A ++ D, x.b < x.e) (h0 : ∀ x ∈ A ++ D, 0 ≤ x.b) : ((mgP A D).foldl come ([], true)).2 = true ↔ Fine A D := by
  have h := come_fold (mgP A D) [] [] 0 (Opn.nil _) .nil (by simpa using mgP_ris A D hA hD) (fun x hx => h0 x ((mgP_perm A D).mem_iff.1 hx)) (fun x hx => hv x ((mgP_perm A D).mem_iff.1 hx))
  rw [h, List.nil_append]
  exact (mgP_perm A D).pairwise_iff (fun h => h.symm)
theorem fine_R {A D : List Sp} (hA : Ris A) (hD : Ris D) (hv : ∀ x ∈ A ++ D, x.b < x.e) (h0 : ∀ x ∈ A ++ D, 0 ≤ x.b) : fitR [] (mgR A D) = true ↔ Fine A D := by
  have h := fitR_iff (mgR A D) [] [] 0 (Opn.nil _) .nil (by simpa using mgR_ris A D hA hD) (fun x hx => h0 x ((mgR_perm A D).mem_iff.1 hx)) (fun x hx => hv x ((mgR_perm A D).mem_iff.1 hx))
  rw [h, List.nil_append]
  exact (mgR_perm A D).pairwise_iff (fun h => h.symm)
/-- A node with its span. -/
structure Pl where
  n : Int
  s : Sp
/-- Whether one joins with another one. -/
def jns (dr : Bool) (a d : Sp) : Bool := anc a d && (!dr || par a d)
def en (A : List Pl) (j : Nat) : Int := match A[j]? with | none => 0 | some x => x.s.e
/-- Which stack one stands on. -/
def slot (dr : Bool) (A : List Pl) (j : Nat) : Int := if dr then (match A[j]? with | none => 0 | some x => x.s.l + 1) else 0
def popK (A : List Pl) (b : Int) (l : List Nat) : List Nat := (l.reverse.dropWhile (fun j => decide (en A j < b))).reverse
theorem popK_nil (A : List Pl) (b : Int) : popK A b [] = [] := rfl
theorem popK_lt {A : List Pl} {b : Int} {l : List Nat} {j : Nat} (h : en A j < b) : popK A b (l ++ [j]) = popK A b l := by simp [popK, h]
theorem popK_ge {A : List Pl} {b : Int} {l : List Nat} {j : Nat} (h : ¬ en A j < b) : popK A b (l ++ [j]) = l ++ [j] := by simp [popK, h]
/-- Ends fall: then those that have not ended are those behind none that has. -/
theorem popK_filter (A : List Pl) (b : Int) (l : List Nat) (h : l.Pairwise (fun i j => en A j ≤ en A i)) : popK A b l = l.filter (fun j => decide (b ≤ en A j)) := by
  induction hn : l.length generalizing l with
  | zero =>
    have : l = [] := List.length_eq_zero_iff.1 hn
    subst this
    rfl
  | succ n ih =>
    obtain ⟨s, x, rfl⟩ : ∃ s x, l = s ++ [x] := ⟨l.dropLast, l.getLast (by intro e; rw [e] at hn; cases hn), (List.dropLast_concat_getLast _).symm⟩
    obtain ⟨h1, -, h2⟩ := List.pairwise_append.1 h
    by_cases hx : en A x < b
    · rw [popK_lt hx, ih s h1 (by simpa using hn), List.filter_append]
      simp [hx]
    · rw [popK_ge hx, List.filter_eq_self.2]
      intro j hj
      rcases List.mem_append.1 hj with hj | hj
      · have := h2 j hj x (by simp)
        simp; omega
      · rw [List.mem_singleton.1 hj]; simp; omega

/-- The stacks, when k of a were put on them, at a label. -/
structure Stks (dr : Bool) (A : List Pl) (k : Nat) (c : Int) (S : Int → List Nat) : Prop where
  all : ∀ s, (S s).filter (fun j => decide (c ≤ en A j)) = (List.range k).filter (fun j => decide (slot dr A j = s) && decide (c ≤ en A j))
  fall : ∀ s, (S s).Pairwise (fun i j => en A j ≤ en A i)
  lt : ∀ s, ∀ j ∈ S s, j < k
  len : ∀ s, (S s).length ≤ k
theorem Stks.nil (dr : Bool) (A : List Pl) (c : Int) : Stks dr A 0 c (fun _ => []) := ⟨fun _ => by simp, fun _ => .nil, fun _ _ h => (by cases h), fun _ => by simp⟩
theorem Stks.popped {dr : Bool} {A : List Pl} {k : Nat} {c b : Int} {S : Int → List Nat} (h : Stks dr A k c S) (hc : c ≤ b) (s : Int) : popK A b (S s) = (List.range k).filter (fun j => decide (slot dr A j = s) && decide (b ≤ en A j)) := by
  rw [popK_filter _ _ _ (h.fall s)]
  have e := congrArg (List.filter (fun j => decide (b ≤ en A j))) (h.all s)
  rw [List.filter_filter, List.filter_filter] at e
  have e1 : (S s).filter (fun j => decide (b ≤ en A j)) = (S s).filter (fun a => decide (b ≤ en A a) && decide (c ≤ en A a)) := List.filter_congr (fun j _ => by
    by_cases hb : b ≤ en A j
    · simp [hb]; omega
    · simp [hb])
  rw [e1, e]
  refine List.filter_congr (fun j _ => ?_)
  by_cases hb : b ≤ en A j
  · have : c ≤ en A j := by omega
    simp [hb, this]
  · simp [hb]
def upd (S : Int → List Nat) (s : Int) (l : List Nat) : Int → List Nat := fun t => if t = s then l else S t
/-- A label further on, one stack looked at. -/
theorem Stks.look {dr : Bool} {A : List Pl} {k : Nat} {c b : Int} {S : Int → List Nat} (h : Stks dr A k c S) (hc : c ≤ b) (s : Int) : Stks dr A k b (upd S s (popK A b (S s))) := by
  have hp : ∀ t, (popK A b (S t)).filter (fun j => decide (b ≤ en A j)) = popK A b (S t) := fun t => by rw [popK_filter _ _ _ (h.fall t), List.filter_filter]; simp
  have hf : ∀ t, (S t).filter (fun j => decide (b ≤ en A j)) = (List.range k).filter (fun j => decide (slot dr A j = t) && decide (b ≤ en A j)) := fun t => by rw [← popK_filter _ _ _ (h.fall t), h.popped hc]
  have hsub : ∀ t, (popK A b (S t)).Sublist (S t) := fun t => by rw [popK_filter _ _ _ (h.fall t)]; exact List.filter_sublist
  refine ⟨fun t => ?_, fun t => ?_, fun t j hj => ?_, fun t => ?_⟩
  · by_cases e : t = s
    · subst e
      simp only [upd, if_true]
      rw [hp, h.popped hc]
    · simp only [upd, if_neg e]
      exact hf t
  · by_cases e : t = s
    · subst e
      simp only [upd, if_true]
      exact (h.fall t).sublist (hsub t)
    · simp only [upd, if_neg e]
      exact h.fall t
  · by_cases e : t = s
    · subst e
      simp only [upd, if_true] at hj
      exact h.lt t j ((hsub t).subset hj)
    · simp only [upd, if_neg e] at hj
      exact h.lt t j hj
  · by_cases e : t = s
    · subst e
      simp only [upd, if_true]
      exact Nat.le_trans (hsub t).length_le (h.len t)
    · simp only [upd, if_neg e]
      exact h.len t
/-- One more of a. -/
theorem Stks.push {dr : Bool} {A : List Pl} {k : Nat} {x : Pl} {S : Int → List Nat} (h : Stks dr A k x.s.b S) (hx : A[k]? = some x) (hv : x.s.b < x.s.e) (hl : ∀ j ∈ S (slot dr A k), x.s.b ≤ en A j) (hs : ∀ j y, j < k → A[j]? = some y → x.s.b ≤ y.s.e → x.s.e ≤ y.s.e) :
    Stks dr A (k + 1) x.s.b (upd S (slot dr A k) (S (slot dr A k) ++ [k])) := by
  have hek : en A k = x.s.e := by simp [en, hx]
  refine ⟨fun t => ?_, fun t => ?_, fun t j hj => ?_, fun t => ?_⟩
  · rw [List.range_succ, List.filter_append]
    by_cases e : t = slot dr A k
    · subst e
      simp only [upd, if_true, List.filter_append, h.all]
      have : x.s.b ≤ en A k := by omega
      simp [this]
    · simp only [upd, if_neg e, h.all]
      have : ¬ slot dr A k = t := fun h => e h.symm
      simp [this]
  · by_cases e : t = slot dr A k
    · subst e
      simp only [upd, if_true]
      refine List.pairwise_append.2 ⟨h.fall _, List.pairwise_singleton _ _, fun i hi j hj => ?_⟩
      rw [List.mem_singleton.1 hj, hek]
      have hik := h.lt _ i hi
      have hb := hl i hi
      have hkl : k < A.length := (List.getElem?_eq_some_iff.1 hx).1
      obtain ⟨y, hy⟩ : ∃ y, A[i]? = some y := ⟨_, List.getElem?_eq_getElem (by omega)⟩
      have hey : en A i = y.s.e := by simp [en, hy]
      rw [hey] at hb ⊢
      exact hs i y hik hy hb
    · simp only [upd, if_neg e]
      exact h.fall t
  · by_cases e : t = slot dr A k
    · subst e
      simp only [upd, if_true] at hj
      rcases List.mem_append.1 hj with hj | hj
      · have := h.lt _ j hj; omega
      · have := List.mem_singleton.1 hj; omega
    · simp only [upd, if_neg e] at hj
      have := h.lt t j hj; omega
  · by_cases e : t = slot dr A k
    · subst e
      simp only [upd, if_true, List.length_append, List.length_singleton]
      have := h.len (slot dr A k)
      omega
    · simp only [upd, if_neg e]
      have := h.len t
      omega

/-- Which of a join with one. -/
def opn (dr : Bool) (A : List Pl) (d : Sp) : List Nat := (List.range A.length).filter (fun j => match A[j]? with | none => false | some x => jns dr x.s d)
/-- Both lists can be joined. -/
structure Can (A D : List Pl) : Prop where
  va : ∀ x ∈ A, 1 ≤ x.s.b ∧ x.s.b < x.s.e ∧ 0 ≤ x.s.l ∧ x.s.l < 64
  vd : ∀ x ∈ D, 1 ≤ x.s.b ∧ x.s.b < x.s.e ∧ 0 ≤ x.s.l ∧ x.s.l < 64
  ra : A.Pairwise (fun x y => x.s.b < y.s.b)
  rd : D.Pairwise (fun x y => x.s.b < y.s.b)
  fine : Fine (A.map Pl.s) (D.map Pl.s)
theorem Can.aa {A D : List Pl} (h : Can A D) {j k : Nat} {x y : Pl} (hjk : j < k) (hx : A[j]? = some x) (hy : A[k]? = some y) (hb : y.s.b ≤ x.s.e) : anc x.s y.s = true := by
  have hf := (List.pairwise_append.1 h.fine).1
  have hp : (A.map Pl.s).Pairwise Ok := hf
  rw [List.pairwise_iff_getElem] at hp
  have l1 := (List.getElem?_eq_some_iff.1 hx).1
  have l2 := (List.getElem?_eq_some_iff.1 hy).1
  have h1 := hp j k (by simpa using l1) (by simpa using l2) hjk
  simp only [List.getElem_map, (List.getElem?_eq_some_iff.1 hx).2, (List.getElem?_eq_some_iff.1 hy).2] at h1
  have h2 := (List.pairwise_iff_getElem.1 h.ra) j k l1 l2 hjk
  rw [(List.getElem?_eq_some_iff.1 hx).2, (List.getElem?_eq_some_iff.1 hy).2] at h2
  have h3 := h.va y (List.mem_of_getElem? hy)
  rcases h1 with h1 | h1 | h1 | h1 | h1
  · rw [h1] at h2; omega
  · omega
  · omega
  · exact h1
  · rw [anc_iff] at h1; omega
theorem Can.ad {A D : List Pl} (h : Can A D) {x d : Pl} (hx : x ∈ A) (hd : d ∈ D) (hb : x.s.b < d.s.b) (he : d.s.b ≤ x.s.e) : anc x.s d.s = true := by
  have h1 := (List.pairwise_append.1 h.fine).2.2 x.s (List.mem_map.2 ⟨x, hx, rfl⟩) d.s (List.mem_map.2 ⟨d, hd, rfl⟩)
  have h3 := h.vd d hd
  rcases h1 with h1 | h1 | h1 | h1 | h1
  · rw [h1] at hb; omega
  · omega
  · omega
  · exact h1
  · rw [anc_iff] at h1; omega
theorem range_filter_ext (p : Nat → Bool) (k m : Nat) (h : ∀ j, k ≤ j → p j = false) : (List.range (k + m)).filter p = (List.range k).filter p := by
  induction m with
  | zero => rfl
  | succ m ih => rw [← Nat.add_assoc, List.range_succ, List.filter_append, ih]; simp [h (k + m) (by omega)]
/-- What is open where one of d comes. -/
theorem opn_eq {dr : Bool} {A D : List Pl} (h : Can A D) {d : Pl} (hd : d ∈ D) {k : Nat} (hk : k ≤ A.length) (h1 : ∀ j x, j < k → A[j]? = some x → x.s.b < d.s.b) (h2 : ∀ j x, k ≤ j → A[j]? = some x → ¬ x.s.b < d.s.b) :
    (List.range k).filter (fun j => decide (slot dr A j = (if dr then d.s.l else 0)) && decide (d.s.b ≤ en A j)) = opn dr A d.s := by
  unfold opn
  rw [show A.length = k + (A.length - k) by omega, range_filter_ext]
  · refine List.filter_congr (fun j hj => ?_)
    have hj' : j < k := List.mem_range.1 hj
    obtain ⟨x, hx⟩ : ∃ x, A[j]? = some x := ⟨_, List.getElem?_eq_getElem (by omega)⟩
    have hb := h1 j x hj' hx
    have hxm := List.mem_of_getElem? hx
    have hvd := h.vd d hd
    simp only [hx, en, slot]
    by_cases he : d.s.b ≤ x.s.e
    · have ha := h.ad hxm hd hb he
      have ha' := anc_iff.1 ha
      cases dr with
      | true => simp [jns, ha, he, par, ha'.1, ha'.2]
      | false => simp [jns, ha, he]
    · have ha : anc x.s d.s = false := by
        cases hq : anc x.s d.s with
        | false => rfl
        | true => rw [anc_iff] at hq; omega
      simp [jns, ha, he]
  · intro j hj
    cases hx : A[j]? with
    | none => rfl
    | some x =>
      have := h2 j x hj hx
      have ha : anc x.s d.s = false := by
        cases hq : anc x.s d.s with
        | false => rfl
        | true => rw [anc_iff] at hq; omega
      simp [jns, ha]

end Go.Proofs.Ytmeinebfdljndaa
