/- The document's forest, in plain: event by event as the program's siblings. -/
import Derived.Test.YtmifejkddgcbmabGreatB19
namespace Go.Proofs.YtmifejkddgcbmabGreat
set_option linter.unusedVariables false
set_option linter.unusedSimpArgs false

theorem nextK_same' {l : Bs} {s s1 : St} {k : Int} (h : nextK l s = .inl (k, s1)) : s1 = s := by
  unfold nextK at h
  cases hg : l[s.at_]? with
  | none => rw [hg] at h; cases h; rfl
  | some c =>
    rw [hg] at h
    simp only at h
    split at h
    · cases h; rfl
    · split at h
      · cases h; rfl
      · split at h
        · cases h; rfl
        · split at h
          · cases h
          · cases hd : l[s.at_ + 1]? with
            | none => rw [hd] at h; cases h
            | some d =>
              rw [hd] at h
              simp only at h
              split at h
              · cases h; rfl
              · cases h

/-- Where a text ends, nothing of a text stands. -/
theorem wordsF_end {tx : ByteArray} : ∀ (f : Nat) (s s1 : St) (o t : Bs), Ok tx s → o.length ≤ 16384 → tx.size - s.at_ < f → wordsF tx.data.toList f s o = .inl (t, s1) → ∃ k, nextK tx.data.toList s1 = .inl (k, s1) ∧ k ≠ 2 := by
  intro f
  induction f with
  | zero => intro s s1 o t ok hl hf h; omega
  | succ f ih =>
    intro s s1 o t ok hl hf h
    rw [words_next _ _ _ _ (by rw [size_list]; exact ok.at_)] at h
    cases hn : nextK tx.data.toList s with
    | inr q_ => obtain ⟨p, e⟩ := q_; rw [hn] at h; cases h
    | inl q_ =>
      obtain ⟨k, s2⟩ := q_
      have es := nextK_same' hn
      rw [hn] at h
      simp only at h
      split at h
      · cases hw : withinP tx.data.toList s o with
        | inr q_ => obtain ⟨p, e⟩ := q_; rw [hw] at h; cases h
        | inl q_ =>
          obtain ⟨o1, s3⟩ := q_
          rw [hw] at h
          simp only at h
          obtain ⟨g1, g2, g3⟩ := withinP_ok ok hl hw
          have := g2.ok.at_
          exact ih s3 s1 o1 t g2.ok g3 (by omega) h
      · rename_i hk
        cases h
        exact ⟨k, by rw [hn, es], hk⟩
theorem words_again {tx : ByteArray} {s s1 : St} {t : Bs} (ok : Ok tx s) (h : wordsP tx.data.toList s = .inl (t, s1)) : wordsP tx.data.toList s1 = .inl ([], s1) ∧ ∃ k, nextK tx.data.toList s1 = .inl (k, s1) ∧ k ≠ 2 := by
  obtain ⟨st, -⟩ := wordsP_ok ok h
  obtain ⟨k, h1, h2⟩ := wordsF_end _ _ _ _ _ ok (by simp) (by rw [size_list]; omega) h
  refine ⟨?_, k, h1, h2⟩
  unfold wordsP
  rw [words_next _ _ _ _ (by rw [size_list]; exact st.ok.at_), h1]
  simp only [h2, if_false]

/-- Where siblings end: at the end of all, or at an end. -/
def closeQ {α : Type} (l : Bs) (op : List ByteArray) (x : α) (s : St) : Rs α := if s.at_ = l.length then (if op = [] then .inl (x, s) else .inr (l.length, 4)) else match endQ l op s.at_ { s with at_ := s.at_ + 2 } with
  | .inr (p, e) => .inr (p, e)
  | .inl (_, s2) => .inl (x, { s2 with op := s2.op - 1 })
def forQ (l : Bs) (d : Nat) (op : List ByteArray) (s : St) : Rs (List (T d)) := match sibP l d s with
  | .inr (p, e) => .inr (p, e)
  | .inl (x, s1) => closeQ l op x s1

theorem expectP_op {l : Bs} {c : UInt8} {s : St} {k : Nat} : expectP l c { s with op := k } = match expectP l c s with
    | .inr (p, e) => .inr (p, e)
    | .inl (u, s1) => .inl (u, { s1 with op := k }) := by
  unfold expectP
  simp only
  cases l[s.at_]? with
  | none => rfl
  | some b =>
    simp only
    by_cases h : b = c
    · simp only [h, if_true]
    · simp only [h, if_false]
theorem nameP_op {l : Bs} {s : St} {k : Nat} : nameP l { s with op := k } = match nameP l s with
    | .inr (p, e) => .inr (p, e)
    | .inl (n, s1) => .inl (n, { s1 with op := k }) := by
  unfold nameP
  simp only
  cases l[s.at_]? with
  | none => rfl
  | some b =>
    simp only
    cases beginB b.toNat
    · simp
    · cases nameL ((l.drop s.at_).takeWhile fun b => inB b.toNat) <;> simp
theorem ba_inj {n m : Bs} (h : ba n = ba m) : n = m := by
  have := congrArg (fun b : ByteArray => b.data.toList) h
  simpa [ba] using this

theorem end_close {α : Type} {l : Bs} {op : List ByteArray} {n : Bs} {s : St} (x : α) (h : s.at_ = l.length ∨ seesP l pEnd s.at_ = true) :
    (match endP l n { s with op := s.op - 1 } with
      | .inr (p, e) => .inr (p, e)
      | .inl (_, s6) => .inl (x, s6)) = closeQ l (op ++ [ba n]) x s := by
  unfold closeQ
  by_cases ha : s.at_ = l.length
  · have h1 : expectP l 60 { s with op := s.op - 1 } = .inr (s.at_, 4) := by
      unfold expectP
      simp only
      rw [List.getElem?_eq_none (by omega)]
    unfold endP
    rw [h1]
    simp only [ha, if_true]
    rw [if_neg (by simp)]
  · have hs : seesP l pEnd s.at_ = true := by
      rcases h with h | h
      · exact absurd h ha
      · exact h
    obtain ⟨r, e1, e2⟩ := sees_head hs
    obtain ⟨t, e3⟩ : ∃ t, r = 47 :: t := by
      cases r with
      | nil => cases e2
      | cons x t =>
        rw [List.isPrefixOf_cons_cons, Bool.and_eq_true, beq_iff_eq] at e2
        exact ⟨t, by rw [← e2.1]⟩
    subst e3
    have g0 : l[s.at_]? = some 60 := by
      have := congrArg (fun z => z[0]?) e1
      simpa using this
    have g1 : l[s.at_ + 1]? = some 47 := by
      have := congrArg (fun z => z[1]?) e1
      simpa using this
    have x1 : expectP l 60 { s with op := s.op - 1 } = .inl ((), { s with op := s.op - 1, at_ := s.at_ + 1 }) := by
      unfold expectP
      simp [g0]
    have x2 : expectP l 47 { s with op := s.op - 1, at_ := s.at_ + 1 } = .inl ((), { s with op := s.op - 1, at_ := s.at_ + 2 }) := by
      unfold expectP
      simp [g1]
    have x3 := nameP_op (l := l) (s := { s with at_ := s.at_ + 2 }) (k := s.op - 1)
    unfold endP endQ
    simp only [x1, x2, ha, if_false]
    rw [show ({ at_ := s.at_ + 2, nodes := s.nodes, op := s.op - 1 } : St) = { ({ s with at_ := s.at_ + 2 } : St) with op := s.op - 1 } from rfl, x3]
    cases hn : nameP l { s with at_ := s.at_ + 2 } with
    | inr q_ => obtain ⟨p, e⟩ := q_; rfl
    | inl q_ =>
      obtain ⟨m, s3⟩ := q_
      simp only [List.getLast?_append, List.getLast?_singleton, Option.some_or, Option.some.injEq]
      by_cases hm : m = n
      · subst hm
        simp only [if_true]
        rw [show blanksP l { s3 with op := s.op - 1 } = { (blanksP l s3) with op := s.op - 1 } from rfl, expectP_op]
        cases hx : expectP l 62 (blanksP l s3) with
        | inr q_ => obtain ⟨p, e⟩ := q_; rfl
        | inl q_ =>
          obtain ⟨u, s4⟩ := q_
          obtain ⟨e4, -⟩ := expectP_ok hx
          obtain ⟨e5, -⟩ := nameP_ok hn
          simp only
          rw [e4, e5]
          rfl
      · have hm2 : ¬ ba n = ba m := fun e => hm (ba_inj e).symm
        simp only [hm, hm2, if_false]

/-- Siblings end at the end of all, or at an end. -/
def SibEnd (tx : ByteArray) (d : Nat) : Prop := ∀ (s s1 : St) (x : List (T d)), Ok tx s → s.op + d = 64 → sibP tx.data.toList d s = .inl (x, s1) → s1.at_ = tx.size ∨ seesP tx.data.toList pEnd s1.at_ = true
theorem sibF_end {tx : ByteArray} {d : Nat} : ∀ (k : Nat) (s s1 : St) (acc x : List (T (d + 1))), Ok tx s → s.op + (d + 1) = 64 → tx.size - s.at_ < k → sibF tx.data.toList (elemP tx.data.toList (sibP tx.data.toList d)) k s acc = .inl (x, s1) → s1.at_ = tx.size ∨ seesP tx.data.toList pEnd s1.at_ = true := by
  intro k
  induction k with
  | zero => intro s s1 acc x ok hop hk h; omega
  | succ k ih =>
    intro s s1 acc x ok hop hk h
    unfold sibF at h
    cases h1 : wordsP tx.data.toList s with
    | inr q_ => obtain ⟨p, e⟩ := q_; rw [h1] at h; cases h
    | inl q_ =>
      obtain ⟨t, s2⟩ := q_
      rw [h1] at h
      simp only at h
      obtain ⟨st, -⟩ := wordsP_ok ok h1
      split at h
      · rename_i hx
        cases h
        rw [size_list] at hx
        exact hx
      · rename_i hne
        rw [size_list] at hne
        have hlt : s2.at_ < tx.size := by
          have h1 := st.ok.at_
          have : s2.at_ ≠ tx.size := fun e => hne (.inl e)
          omega
        cases h2 : elemP tx.data.toList (sibP tx.data.toList d) s2 with
        | inr q_ => obtain ⟨p, e⟩ := q_; rw [h2] at h; cases h
        | inl q_ =>
          obtain ⟨y, s3⟩ := q_
          rw [h2] at h
          simp only at h
          obtain ⟨st2, hlt2⟩ := elemP_ok (sibs_ok tx d) st.ok (by rw [st.op]; exact hop) hlt h2
          have := st.le
          have := st2.ok.at_
          exact ih s3 s1 _ x st2.ok (by rw [st2.op, st.op]; exact hop) (by omega) h
theorem sib_end (tx : ByteArray) : ∀ (d : Nat), SibEnd tx d
  | 0, s, s1, x, ok, hop, h => by
    unfold sibP at h
    cases h1 : wordsP tx.data.toList s with
    | inr q_ => obtain ⟨p, e⟩ := q_; rw [h1] at h; cases h
    | inl q_ =>
      obtain ⟨t, s2⟩ := q_
      rw [h1] at h
      simp only at h
      split at h
      · rename_i hx
        cases h
        rw [size_list] at hx
        exact hx
      · cases h
  | d + 1, s, s1, x, ok, hop, h => by
    unfold sibP at h
    exact sibF_end _ _ _ _ _ ok hop (by rw [size_list]; omega) h

/-- An element by its tag, and the forest that stands in it. -/
theorem elem_tag {tx : ByteArray} {d : Nat} {s : St} (op : List ByteArray) (ok : Ok tx s) (hop : s.op + (d + 1) = 64) (hlt : s.at_ < tx.size) : elemP tx.data.toList (sibP tx.data.toList d) s = match beginP s s.at_ with
    | .inr (p, e) => .inr (p, e)
    | .inl (_, s1) => match tagQ tx.data.toList { s1 with at_ := s1.at_ + 1 } with
      | .inr (p, e) => .inr (p, e)
      | .inl (r, s3) => if r.2.2 = true then .inl ((elT r.1 r.2.1 []), s3) else match forQ tx.data.toList d (op ++ [ba r.1]) { s3 with op := s3.op + 1 } with
        | .inr (p, e) => .inr (p, e)
        | .inl (x, s6) => .inl ((elT r.1 r.2.1 x), s6) := by
  unfold elemP tagQ
  cases h1 : beginP s s.at_ with
  | inr q_ => obtain ⟨p, e⟩ := q_; rfl
  | inl q_ =>
    obtain ⟨u, s1⟩ := q_
    simp only
    obtain ⟨es1, hn1, hn2⟩ := beginP_ok h1
    have ok1 : Ok tx { s1 with at_ := s1.at_ + 1 } := by subst es1; exact ⟨ok.len, by simp only; omega, by have := ok.nodes; simp only; omega, ok.op⟩
    cases h2 : nameP tx.data.toList { s1 with at_ := s1.at_ + 1 } with
    | inr q_ => obtain ⟨p, e⟩ := q_; rfl
    | inl q_ =>
      obtain ⟨n, s2⟩ := q_
      simp only
      have ok2 := ok1.name h2
      obtain ⟨e2, -⟩ := nameP_ok h2
      cases h3 : attrsP tx.data.toList s2 with
      | inr q_ => obtain ⟨p, e⟩ := q_; rfl
      | inl q_ =>
        obtain ⟨a, s3⟩ := q_
        simp only
        obtain ⟨g1, g2, g3, g4, g5⟩ := attrsP_ok h3 (by rw [size_list]; exact ok2.at_)
        rw [size_list] at g2
        cases h4 : tx.data.toList[s3.at_]? with
        | none => rfl
        | some b =>
          simp only
          by_cases hb : b = 47
          · simp only [hb, if_true]
            cases h5 : expectP tx.data.toList 62 { s3 with at_ := s3.at_ + 1 } with
            | inr q_ => obtain ⟨p, e⟩ := q_; rfl
            | inl q_ => obtain ⟨u4, s4⟩ := q_; simp
          · simp only [hb, if_false]
            cases h5 : expectP tx.data.toList 62 s3 with
            | inr q_ => obtain ⟨p, e⟩ := q_; rfl
            | inl q_ =>
              obtain ⟨u4, s4⟩ := q_
              simp only [Bool.false_eq_true, if_false]
              obtain ⟨e5, e6⟩ := expectP_ok h5
              rw [size_list] at e6
              have hop4 : s4.op = s.op := by rw [e5]; simp only; rw [g4, e2]; simp only; rw [es1]
              have ok4 : Ok tx { s4 with op := s4.op + 1 } := by
                refine ⟨ok.len, ?_, ?_, by simp only; omega⟩
                · rw [e5]; exact e6
                · rw [e5]; simp only; rw [g3]; exact ok2.nodes
              unfold forQ
              cases h6 : sibP tx.data.toList d { s4 with op := s4.op + 1 } with
              | inr q_ => obtain ⟨p, e⟩ := q_; rfl
              | inl q_ =>
                obtain ⟨x, s5⟩ := q_
                simp only
                have hend := sib_end tx d _ _ _ ok4 (by simp only; omega) h6
                rw [← size_list] at hend
                rw [← end_close x hend]
                cases endP tx.data.toList n { s5 with op := s5.op - 1 } <;> rfl

end Go.Proofs.YtmifejkddgcbmabGreat

/- The document's forest, in plain: what each event comes to. -/
namespace Go.Proofs.YtmifejkddgcbmabGreat
set_option linter.unusedVariables false
set_option linter.unusedSimpArgs false

def bindQ {α : Type} (l : Bs) (op : List ByteArray) (r : Rs α) : Rs α := match r with
  | .inr (p, e) => .inr (p, e)
  | .inl (x, s1) => closeQ l op x s1
theorem forQ_bind (l : Bs) (d : Nat) (op : List ByteArray) (s : St) : forQ l d op s = bindQ l op (sibP l d s) := by
  unfold forQ bindQ
  cases sibP l d s <;> rfl

theorem words_far {tx : ByteArray} {s s1 : St} {t : Bs} (ok : Ok tx s) (h : wordsP tx.data.toList s = .inl (t, s1)) (ht : t ≠ []) : s.at_ < s1.at_ := by
  unfold wordsP at h
  rw [words_next _ _ _ _ (by rw [size_list]; exact ok.at_)] at h
  cases hn : nextK tx.data.toList s with
  | inr q_ => obtain ⟨p, e⟩ := q_; rw [hn] at h; cases h
  | inl q_ =>
    obtain ⟨k, s2⟩ := q_
    rw [hn] at h
    simp only at h
    split at h
    · cases hw : withinP tx.data.toList s [] with
      | inr q_ => obtain ⟨p, e⟩ := q_; rw [hw] at h; cases h
      | inl q_ =>
        obtain ⟨o1, s3⟩ := q_
        rw [hw] at h
        simp only at h
        obtain ⟨g1, g2, g3⟩ := withinP_ok ok (by simp) hw
        obtain ⟨st, -⟩ := wordsF_ok _ _ _ _ _ g2.ok g3 h
        have := st.le
        omega
    · cases h
      exact absurd rfl ht

/-- What the next event comes to, among siblings. -/
def EvSib (tx : ByteArray) (d : Nat) (op : List ByteArray) (k : Nat) (s' : St) (acc : List (T (d + 1))) (r : Rs Ev) : Prop := match r with
  | .inr (p, e) => bindQ tx.data.toList op (sibF tx.data.toList (elemP tx.data.toList (sibP tx.data.toList d)) (k + 1) s' acc) = .inr (p, e)
  | .inl (.none, s1) => bindQ tx.data.toList op (sibF tx.data.toList (elemP tx.data.toList (sibP tx.data.toList d)) (k + 1) s' acc) = .inl (acc, s1)
  | .inl ((.some (.inr (.inr _))), s1) => bindQ tx.data.toList op (sibF tx.data.toList (elemP tx.data.toList (sibP tx.data.toList d)) (k + 1) s' acc) = .inl (acc, s1)
  | .inl ((.some (.inl t)), s1) => sibF tx.data.toList (elemP tx.data.toList (sibP tx.data.toList d)) (k + 1) s' acc = sibF tx.data.toList (elemP tx.data.toList (sibP tx.data.toList d)) (k + 1) s1 (acc ++ [txtT t]) ∧ s'.at_ < s1.at_ ∧ Step tx s' s1 ∧ t.length ≤ 16384
  | .inl ((.some (.inr (.inl (n, a, em)))), s1) => (em = true → sibF tx.data.toList (elemP tx.data.toList (sibP tx.data.toList d)) (k + 1) s' acc = sibF tx.data.toList (elemP tx.data.toList (sibP tx.data.toList d)) k s1 (acc ++ [elT n a []])) ∧
      (em = false → sibF tx.data.toList (elemP tx.data.toList (sibP tx.data.toList d)) (k + 1) s' acc = match forQ tx.data.toList d (op ++ [ba n]) s1 with
        | .inr (p, e) => .inr (p, e)
        | .inl (x, s6) => sibF tx.data.toList (elemP tx.data.toList (sibP tx.data.toList d)) k s6 (acc ++ [elT n a x]))

theorem sibF_at {l : Bs} {d k : Nat} {el : St → Rs (T (d + 1))} {s s1 : St} {acc : List (T (d + 1))} (h : wordsP l s = .inl ([], s1)) : sibF l el (k + 1) s acc = if s1.at_ = l.length ∨ seesP l pEnd s1.at_ = true then .inl (acc, s1) else match el s1 with
    | .inr (p, e) => .inr (p, e)
    | .inl (x, s2) => sibF l el k s2 (acc ++ [x]) := by
  rw [sibF, h]
  simp only [if_true]
  split
  · rfl
  · cases el s1 <;> rfl

theorem next_sib {tx : ByteArray} {d : Nat} {op : List ByteArray} {k : Nat} {s' : St} {acc : List (T (d + 1))} (ok : Ok tx s') (hop : s'.op + (d + 1) = 64) : EvSib tx d op k s' acc (nextQ tx.data.toList op s') := by
  unfold nextQ
  cases hw : wordsP tx.data.toList s' with
  | inr q_ =>
    obtain ⟨p, e⟩ := q_
    simp only
    show bindQ _ _ _ = _
    rw [sibF_words_bad hw]
    rfl
  | inl q_ =>
    obtain ⟨t, s1⟩ := q_
    obtain ⟨st, htl⟩ := wordsP_ok ok hw
    obtain ⟨hag, kk, hnk, hk2⟩ := words_again ok hw
    simp only
    by_cases ht : t = []
    · subst ht
      have hsib := sibF_at (d := d) (k := k) (el := elemP tx.data.toList (sibP tx.data.toList d)) (acc := acc) hw
      obtain ⟨-, hkind⟩ := nextK_kind hnk hk2 (by rw [size_list]; exact st.ok.at_)
      simp only [ne_eq, not_true_eq_false, if_false]
      by_cases ha : s1.at_ = tx.data.toList.length
      · simp only [ha, if_true, true_or] at hsib ⊢
        by_cases hoe : op = []
        · simp only [hoe, if_true]
          show bindQ _ _ _ = _
          rw [hsib]
          simp only [bindQ, closeQ, ha, if_true]
        · simp only [hoe, if_false]
          show bindQ _ _ _ = _
          rw [hsib]
          simp only [bindQ, closeQ, ha, if_true, hoe, if_false]
      · simp only [ha, if_false, false_or] at hsib ⊢
        by_cases hs : seesP tx.data.toList pEnd s1.at_ = true
        · simp only [hs, if_true] at hsib ⊢
          cases he : endQ tx.data.toList op s1.at_ { s1 with at_ := s1.at_ + 2 } with
          | inr q_ =>
            obtain ⟨p, e⟩ := q_
            show bindQ _ _ _ = _
            rw [hsib]
            simp only [bindQ, closeQ, ha, if_false, he]
          | inl q_ =>
            obtain ⟨u, s2⟩ := q_
            show bindQ _ _ _ = _
            rw [hsib]
            simp only [bindQ, closeQ, ha, if_false, he]
        · simp only [hs, Bool.false_eq_true, if_false] at hsib ⊢
          have hlt : s1.at_ < tx.size := by
            have := st.ok.at_
            rw [size_list] at ha
            omega
          have hel := elem_tag (d := d) op st.ok (by rw [st.op]; exact hop) hlt
          cases hb : beginP s1 s1.at_ with
          | inr q_ =>
            obtain ⟨p, e⟩ := q_
            rw [hb] at hel
            show bindQ _ _ _ = _
            rw [hsib, hel]
            rfl
          | inl q_ =>
            obtain ⟨u, s2⟩ := q_
            rw [hb] at hel
            simp only at hel ⊢
            cases hq : tagQ tx.data.toList { s2 with at_ := s2.at_ + 1 } with
            | inr q_ =>
              obtain ⟨p, e⟩ := q_
              rw [hq] at hel
              show bindQ _ _ _ = _
              rw [hsib, hel]
              rfl
            | inl q_ =>
              obtain ⟨r, s3⟩ := q_
              rw [hq] at hel
              simp only at hel ⊢
              obtain ⟨n, a, em⟩ := r
              refine ⟨fun e => ?_, fun e => ?_⟩
              · subst e
                simp only [if_true] at hel ⊢
                rw [hsib, hel]
              · subst e
                simp only [Bool.false_eq_true, if_false] at hel ⊢
                rw [hsib, hel]
                cases forQ tx.data.toList d (op ++ [ba n]) { s3 with op := s3.op + 1 } <;> rfl
    · simp only [ne_eq, ht, not_false_eq_true, if_true]
      refine ⟨?_, words_far ok hw ht, st, htl⟩
      rw [sibF_at hag, sibF, hw]
      simp only [ht, if_false]
      split
      · rfl
      · cases elemP tx.data.toList (sibP tx.data.toList d) s1 <;> rfl

/-- Where as many are open as may be, there is no text. -/
theorem put_full {s : St} {x : Bs} {a : Nat} (h : s.op = 64) : putP s [] x a = .inr (a, 2) := by simp [putP, beginP, h]
theorem within_full {tx : ByteArray} {s s1 : St} {o1 : Bs} (ok : Ok tx s) (h64 : s.op = 64) (h : withinP tx.data.toList s [] = .inl (o1, s1)) : o1 = [] := by
  unfold withinP at h
  split at h
  · cases hp : skipP tx.data.toList 4 [45, 45, 62] s with
    | inr q_ => obtain ⟨p, e⟩ := q_; rw [hp] at h; cases h
    | inl q_ => obtain ⟨x, s2⟩ := q_; rw [hp] at h; cases h; rfl
  · split at h
    · cases hp : skipP tx.data.toList 2 [63, 62] s with
      | inr q_ => obtain ⟨p, e⟩ := q_; rw [hp] at h; cases h
      | inl q_ => obtain ⟨x, s2⟩ := q_; rw [hp] at h; cases h; rfl
    · split at h
      · rename_i hs
        have h9 := seesP_le hs (by simp)
        unfold rawP at h
        cases hp : skipP tx.data.toList 9 [93, 93, 62] s with
        | inr q_ => obtain ⟨p, e⟩ := q_; rw [hp] at h; cases h
        | inl q_ =>
          obtain ⟨x, s2⟩ := q_
          rw [hp] at h
          simp only at h
          obtain ⟨e1, -⟩ := skipP_ok hp h9
          cases x with
          | nil => rw [rawF_end] at h; cases h; rfl
          | cons b r =>
            have hx : ¬ (b :: r) = [] := by simp
            rw [List.length_cons] at h
            cases hf : first (b :: r) with
            | none => rw [rawF_bad hx hf] at h; cases h
            | some q =>
              obtain ⟨r0, n⟩ := q
              obtain ⟨n1, -⟩ := first_len hf
              rw [rawF_step hx hf] at h
              obtain ⟨m, rfl⟩ : ∃ m, n = m + 1 := ⟨n - 1, by omega⟩
              rw [List.take_succ_cons, putsP_cons, put_full (by rw [e1]; exact h64)] at h
              cases h
      · unfold charP at h
        cases hp : letterP tx.data.toList s with
        | inr q_ => obtain ⟨p, e⟩ := q_; rw [hp] at h; cases h
        | inl q_ =>
          obtain ⟨x, s2⟩ := q_
          rw [hp] at h
          obtain ⟨-, -, -, g4, -⟩ := letterP_ok hp
          simp only at h
          rw [put_full (by rw [g4]; exact h64)] at h
          cases h
theorem wordsF_none {tx : ByteArray} : ∀ (f : Nat) (s s1 : St) (t : Bs), Ok tx s → s.op = 64 → wordsF tx.data.toList f s [] = .inl (t, s1) → t = [] := by
  intro f
  induction f with
  | zero => intro s s1 t ok h64 h; cases h; rfl
  | succ f ih =>
    intro s s1 t ok h64 h
    rw [words_next _ _ _ _ (by rw [size_list]; exact ok.at_)] at h
    cases hn : nextK tx.data.toList s with
    | inr q_ => obtain ⟨p, e⟩ := q_; rw [hn] at h; cases h
    | inl q_ =>
      obtain ⟨k, s2⟩ := q_
      rw [hn] at h
      simp only at h
      split at h
      · cases hw : withinP tx.data.toList s [] with
        | inr q_ => obtain ⟨p, e⟩ := q_; rw [hw] at h; cases h
        | inl q_ =>
          obtain ⟨o1, s3⟩ := q_
          rw [hw] at h
          simp only at h
          obtain ⟨g1, g2, g3⟩ := withinP_ok ok (by simp) hw
          have e1 := within_full ok h64 hw
          subst e1
          exact ih s3 s1 t g2.ok (by rw [g2.op]; exact h64) h
      · cases h; rfl
/-- There: the next event is none, an end, or an error. -/
def EvFull (tx : ByteArray) (op : List ByteArray) (s : St) (r : Rs Ev) : Prop := match r with
  | .inr (p, e) => forQ tx.data.toList 0 op s = .inr (p, e)
  | .inl (.none, s1) => forQ tx.data.toList 0 op s = .inl ([], s1)
  | .inl ((.some (.inr (.inr _))), s1) => forQ tx.data.toList 0 op s = .inl ([], s1)
  | .inl ((.some (.inl _)), _) => False
  | .inl ((.some (.inr (.inl (_, _, _)))), _) => False
theorem next_full {tx : ByteArray} {op : List ByteArray} {s : St} (ok : Ok tx s) (h64 : s.op = 64) : EvFull tx op s (nextQ tx.data.toList op s) := by
  unfold nextQ
  cases hw : wordsP tx.data.toList s with
  | inr q_ =>
    obtain ⟨p, e⟩ := q_
    simp only
    show forQ _ _ _ _ = _
    simp only [forQ, sibP, hw]
  | inl q_ =>
    obtain ⟨t, s1⟩ := q_
    obtain ⟨st, htl⟩ := wordsP_ok ok hw
    have ht : t = [] := wordsF_none _ _ _ _ ok h64 hw
    subst ht
    simp only [ne_eq, not_true_eq_false, if_false]
    by_cases ha : s1.at_ = tx.data.toList.length
    · simp only [ha, if_true]
      by_cases hoe : op = []
      · simp only [hoe, if_true]
        show forQ _ _ _ _ = _
        simp only [forQ, sibP, hw, ha, true_or, if_true, closeQ]
      · simp only [hoe, if_false]
        show forQ _ _ _ _ = _
        simp only [forQ, sibP, hw, ha, true_or, if_true, closeQ, hoe, if_false]
    · simp only [ha, if_false]
      by_cases hs : seesP tx.data.toList pEnd s1.at_ = true
      · simp only [hs, if_true]
        cases he : endQ tx.data.toList op s1.at_ { s1 with at_ := s1.at_ + 2 } with
        | inr q_ =>
          obtain ⟨p, e⟩ := q_
          show forQ _ _ _ _ = _
          simp only [forQ, sibP, hw, hs, or_true, if_true, closeQ, ha, if_false, he]
        | inl q_ =>
          obtain ⟨u, s2⟩ := q_
          show forQ _ _ _ _ = _
          simp only [forQ, sibP, hw, hs, or_true, if_true, closeQ, ha, if_false, he]
      · simp only [hs, Bool.false_eq_true, if_false]
        have hb : beginP s1 s1.at_ = .inr (s1.at_, 2) := by
          have := st.op
          simp [beginP, this, h64]
        rw [hb]
        show forQ _ _ _ _ = _
        simp only [forQ, sibP, hw, hs, ha, Bool.false_eq_true, or_self, if_false]

end Go.Proofs.YtmifejkddgcbmabGreat
