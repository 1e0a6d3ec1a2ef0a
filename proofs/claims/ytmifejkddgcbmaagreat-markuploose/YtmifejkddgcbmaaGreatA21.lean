/- What reading siblings leaves, in plain. -/
import Derived.Test.YtmifejkddgcbmaaGreatA20
namespace Go.Proofs.YtmifejkddgcbmaaGreat
set_option linter.unusedVariables false
set_option linter.unusedSimpArgs false

theorem attrsF_ok {l : Bs} : ∀ (k : Nat) (s s1 : St) (acc L : List Att), s.at_ ≤ l.length → acc.length ≤ 32 → attrsF l k s acc = .inl (L, s1) → s.at_ ≤ s1.at_ ∧ s1.at_ ≤ l.length ∧ s1.nodes = s.nodes ∧ s1.op = s.op ∧ L.length ≤ 32 := by
  intro k
  induction k with
  | zero => intro s s1 acc L hs ha h; cases h; exact ⟨Nat.le_refl _, hs, rfl, rfl, ha⟩
  | succ k ih =>
    intro s s1 acc L hs ha h
    have hbl := runN_le (l := l) (p := fun b => blankB b.toNat) hs
    have hb1 : s.at_ ≤ (blanksP l s).at_ := by simp [blanksP]
    have hb2 : (blanksP l s).at_ ≤ l.length := hbl
    unfold attrsF at h
    cases hg : l[(blanksP l s).at_]? with
    | none => rw [hg] at h; cases h
    | some c =>
      rw [hg] at h
      simp only at h
      split at h
      · cases h
        exact ⟨hb1, hb2, rfl, rfl, by rw [(sortA_perm acc).length_eq]; exact ha⟩
      · split at h
        · cases h
        · cases hp : attrP l acc (blanksP l s) with
          | inr q_ => obtain ⟨p, e⟩ := q_; rw [hp] at h; cases h
          | inl q_ =>
            obtain ⟨a, s2⟩ := q_
            rw [hp] at h
            simp only at h
            obtain ⟨g1, g2, g3, g4, g5, -⟩ := attrP_ok hp ha
            obtain ⟨f1, f2, f3, f4, f5⟩ := ih _ _ _ _ g2 (by simp; omega) h
            exact ⟨by omega, f2, f3.trans g3, f4.trans g4, f5⟩
theorem attrsP_ok {l : Bs} {s s1 : St} {L : List Att} (h : attrsP l s = .inl (L, s1)) (hs : s.at_ ≤ l.length) : s.at_ ≤ s1.at_ ∧ s1.at_ ≤ l.length ∧ s1.nodes = s.nodes ∧ s1.op = s.op ∧ L.length ≤ 32 := attrsF_ok _ _ _ _ _ hs (by simp) h


/-- From one place to another, within bounds. -/
structure Step (tx : ByteArray) (s s1 : St) : Prop where
  le : s.at_ ≤ s1.at_
  op : s1.op = s.op
  ok : Ok tx s1

theorem Step.trans {tx : ByteArray} {a b c : St} (h : Step tx a b) (k : Step tx b c) : Step tx a c := ⟨Nat.le_trans h.le k.le, k.op.trans h.op, k.ok⟩

theorem step_skip {tx : ByteArray} {s s1 : St} {n : Nat} {q x : Bs} (ok : Ok tx s) (hn : s.at_ + n ≤ tx.size) (h : skipP tx.data.toList n q s = .inl (x, s1)) : Step tx s s1 := by
  obtain ⟨e1, e2, -⟩ := skipP_ok h (by rw [size_list]; exact hn)
  rw [size_list] at e2
  subst e1
  exact ⟨by simp only; omega, rfl, ⟨ok.len, e2, ok.nodes, ok.op⟩⟩

theorem wordsF_ok {tx : ByteArray} : ∀ (k : Nat) (s s1 : St) (o t : Bs), Ok tx s → o.length ≤ 16384 → wordsF tx.data.toList k s o = .inl (t, s1) → Step tx s s1 ∧ t.length ≤ 16384 := by
  intro k
  induction k with
  | zero => intro s s1 o t ok hl h; cases h; exact ⟨⟨Nat.le_refl _, rfl, ok⟩, hl⟩
  | succ k ih =>
    intro s s1 o t ok hl h
    unfold wordsF at h
    cases hg : tx.data.toList[s.at_]? with
    | none => rw [hg] at h; cases h; exact ⟨⟨Nat.le_refl _, rfl, ok⟩, hl⟩
    | some b =>
      rw [hg] at h
      simp only at h
      split at h
      · cases hp : letterP tx.data.toList s with
        | inr q_ => obtain ⟨p, e⟩ := q_; rw [hp] at h; cases h
        | inl q_ =>
          obtain ⟨x, s2⟩ := q_
          rw [hp] at h
          simp only at h
          cases hq : putP s2 o x s.at_ with
          | inr q_ => obtain ⟨p, e⟩ := q_; rw [hq] at h; cases h
          | inl q_ =>
            obtain ⟨o2, s3⟩ := q_
            rw [hq] at h
            simp only at h
            obtain ⟨g1, g2, g3, g4, -⟩ := letterP_ok hp
            obtain ⟨p1, p2, -, -, p5⟩ := putP_ok hq
            have ok3 := (ok.letter hp).put hq
            obtain ⟨f1, f2⟩ := ih _ _ _ _ ok3 p5 h
            exact ⟨Step.trans ⟨by omega, by rw [p2, g4], ok3⟩ f1, f2⟩
      · split at h
        · rename_i hs
          have h9 := seesP_le hs (by simp)
          rw [size_list] at h9
          cases hp : skipP tx.data.toList 4 [45, 45, 62] s with
          | inr q_ => obtain ⟨p, e⟩ := q_; rw [hp] at h; cases h
          | inl q_ =>
            obtain ⟨x, s2⟩ := q_
            rw [hp] at h
            have st := step_skip ok h9 hp
            obtain ⟨f1, f2⟩ := ih _ _ _ _ st.ok hl h
            exact ⟨st.trans f1, f2⟩
        · split at h
          · rename_i hs
            have h9 := seesP_le hs (by simp)
            rw [size_list] at h9
            cases hp : skipP tx.data.toList 2 [63, 62] s with
            | inr q_ => obtain ⟨p, e⟩ := q_; rw [hp] at h; cases h
            | inl q_ =>
              obtain ⟨x, s2⟩ := q_
              rw [hp] at h
              have st := step_skip ok h9 hp
              obtain ⟨f1, f2⟩ := ih _ _ _ _ st.ok hl h
              exact ⟨st.trans f1, f2⟩
          · split at h
            · rename_i hs
              have h9 := seesP_le hs (by simp)
              cases hp : rawP tx.data.toList s o with
              | inr q_ => obtain ⟨p, e⟩ := q_; rw [hp] at h; cases h
              | inl q_ =>
                obtain ⟨o2, s2⟩ := q_
                rw [hp] at h
                obtain ⟨g1, g2, g3, g4, g5⟩ := rawP_ok hl h9 hp
                rw [size_list] at g2
                have st : Step tx s s2 := ⟨by omega, g3, ⟨ok.len, g2, g4 ok.nodes, by rw [g3]; exact ok.op⟩⟩
                obtain ⟨f1, f2⟩ := ih _ _ _ _ st.ok g5 h
                exact ⟨st.trans f1, f2⟩
            · cases hp : tagP tx.data.toList s with
              | inr q_ => obtain ⟨p, e⟩ := q_; rw [hp] at h; cases h
              | inl q_ =>
                obtain ⟨u, s2⟩ := q_
                rw [hp] at h
                cases h
                rw [tagP_ok hp]
                exact ⟨⟨Nat.le_refl _, rfl, ok⟩, hl⟩
theorem wordsP_ok {tx : ByteArray} {s s1 : St} {t : Bs} (ok : Ok tx s) (h : wordsP tx.data.toList s = .inl (t, s1)) : Step tx s s1 ∧ t.length ≤ 16384 := wordsF_ok _ _ _ _ _ ok (by simp) h

theorem endP_ok {tx : ByteArray} {n : Bs} {s s1 : St} {u : Unit} (ok : Ok tx s) (h : endP tx.data.toList n s = .inl (u, s1)) : Step tx s s1 := by
  unfold endP at h
  cases h1 : expectP tx.data.toList 60 s with
  | inr q_ => obtain ⟨p, e⟩ := q_; rw [h1] at h; cases h
  | inl q_ =>
    obtain ⟨u1, s2⟩ := q_
    rw [h1] at h
    simp only at h
    have k1 := ok.expect h1
    obtain ⟨e1, -⟩ := expectP_ok h1
    cases h2 : expectP tx.data.toList 47 s2 with
    | inr q_ => obtain ⟨p, e⟩ := q_; rw [h2] at h; cases h
    | inl q_ =>
      obtain ⟨u2, s3⟩ := q_
      rw [h2] at h
      simp only at h
      have k2 := k1.expect h2
      obtain ⟨e2, -⟩ := expectP_ok h2
      cases h3 : nameP tx.data.toList s3 with
      | inr q_ => obtain ⟨p, e⟩ := q_; rw [h3] at h; cases h
      | inl q_ =>
        obtain ⟨m, s4⟩ := q_
        rw [h3] at h
        simp only at h
        have k3 := k2.name h3
        obtain ⟨e3, -⟩ := nameP_ok h3
        split at h
        · have k4 := k3.blanks.expect h
          obtain ⟨e4, -⟩ := expectP_ok h
          subst e4 e3 e2 e1
          exact ⟨by simp [blanksP]; omega, rfl, k4⟩
        · cases h

/-- A reader of siblings keeps within bounds. -/
def SibOk (tx : ByteArray) (d : Nat) : Prop := ∀ (s s1 : St) (x : List (T d)), Ok tx s → s.op + d = 64 → sibP tx.data.toList d s = .inl (x, s1) → Step tx s s1 ∧ x.length ≤ 2 * s1.at_ + 1

theorem elemP_ok {tx : ByteArray} {d : Nat} (ih : SibOk tx d) {s s1 : St} {t : T (d + 1)} (ok : Ok tx s) (hop : s.op + (d + 1) = 64) (hlt : s.at_ < tx.size) (h : elemP tx.data.toList (sibP tx.data.toList d) s = .inl (t, s1)) : Step tx s s1 ∧ s.at_ < s1.at_ := by
  unfold elemP at h
  cases h1 : beginP s s.at_ with
  | inr q_ => obtain ⟨p, e⟩ := q_; rw [h1] at h; cases h
  | inl q_ =>
    obtain ⟨u1, s2⟩ := q_
    rw [h1] at h
    simp only at h
    obtain ⟨e1, e2, e3⟩ := beginP_ok h1
    have k1 : Ok tx { s2 with at_ := s2.at_ + 1 } := by subst e1; exact ⟨ok.len, by simp only; omega, by have := ok.nodes; simp only; omega, ok.op⟩
    cases h2 : nameP tx.data.toList { s2 with at_ := s2.at_ + 1 } with
    | inr q_ => obtain ⟨p, e⟩ := q_; rw [h2] at h; cases h
    | inl q_ =>
      obtain ⟨n, s3⟩ := q_
      rw [h2] at h
      simp only at h
      have k2 := k1.name h2
      obtain ⟨e4, -⟩ := nameP_ok h2
      cases h3 : attrsP tx.data.toList s3 with
      | inr q_ => obtain ⟨p, e⟩ := q_; rw [h3] at h; cases h
      | inl q_ =>
        obtain ⟨L, s4⟩ := q_
        rw [h3] at h
        simp only at h
        obtain ⟨g1, g2, g3, g4, g5⟩ := attrsP_ok h3 (by rw [size_list]; exact k2.at_)
        rw [size_list] at g2
        have k3 : Ok tx s4 := ⟨ok.len, g2, by rw [g3]; exact k2.nodes, by rw [g4]; exact k2.op⟩
        have b1 : s.at_ < s4.at_ ∧ s4.op = s.op := by
          subst e4 e1
          simp only at g1 g4
          exact ⟨by omega, g4⟩
        cases h4 : tx.data.toList[s4.at_]? with
        | none => rw [h4] at h; cases h
        | some c =>
          have hc := (List.getElem?_eq_some_iff.1 h4).1
          rw [size_list] at hc
          rw [h4] at h
          simp only at h
          split at h
          · have k4 : Ok tx { s4 with at_ := s4.at_ + 1 } := ⟨ok.len, hc, k3.nodes, k3.op⟩
            cases h5 : expectP tx.data.toList 62 { s4 with at_ := s4.at_ + 1 } with
            | inr q_ => obtain ⟨p, e⟩ := q_; rw [h5] at h; cases h
            | inl q_ =>
              obtain ⟨u5, s5⟩ := q_
              rw [h5] at h
              cases h
              have k5 := k4.expect h5
              obtain ⟨e5, -⟩ := expectP_ok h5
              subst e5
              exact ⟨⟨by simp only; omega, b1.2, k5⟩, by simp only; omega⟩
          · cases h5 : expectP tx.data.toList 62 s4 with
            | inr q_ => obtain ⟨p, e⟩ := q_; rw [h5] at h; cases h
            | inl q_ =>
              obtain ⟨u5, s5⟩ := q_
              rw [h5] at h
              simp only at h
              have k5 := k3.expect h5
              obtain ⟨e5, -⟩ := expectP_ok h5
              have b5 : s.at_ < s5.at_ ∧ s5.op = s.op := by subst e5; exact ⟨by simp only; omega, b1.2⟩
              have k6 : Ok tx { s5 with op := s5.op + 1 } := ⟨ok.len, k5.at_, k5.nodes, by simp only; omega⟩
              cases h6 : sibP tx.data.toList d { s5 with op := s5.op + 1 } with
              | inr q_ => obtain ⟨p, e⟩ := q_; rw [h6] at h; cases h
              | inl q_ =>
                obtain ⟨x, s6⟩ := q_
                rw [h6] at h
                simp only at h
                obtain ⟨st, -⟩ := ih _ _ _ k6 (by simp only; omega) h6
                have b6 : s6.op = s.op + 1 := by rw [st.op]; simp only; omega
                have b6' : s5.at_ ≤ s6.at_ := st.le
                have k7 : Ok tx { s6 with op := s6.op - 1 } := ⟨ok.len, st.ok.at_, st.ok.nodes, by simp only; omega⟩
                cases h7 : endP tx.data.toList n { s6 with op := s6.op - 1 } with
                | inr q_ => obtain ⟨p, e⟩ := q_; rw [h7] at h; cases h
                | inl q_ =>
                  obtain ⟨u7, s7⟩ := q_
                  rw [h7] at h
                  cases h
                  have st7 := endP_ok k7 h7
                  have l7 : s6.at_ ≤ s1.at_ := st7.le
                  have o7 : s1.op = s6.op - 1 := st7.op
                  exact ⟨⟨by omega, by omega, st7.ok⟩, by omega⟩

theorem sibF_ok {tx : ByteArray} {d : Nat} (ih : SibOk tx d) : ∀ (k : Nat) (s s1 : St) (acc x : List (T (d + 1))), Ok tx s → s.op + (d + 1) = 64 → acc.length ≤ 2 * s.at_ + 1 → sibF tx.data.toList (elemP tx.data.toList (sibP tx.data.toList d)) k s acc = .inl (x, s1) → (k = 0 ∨ acc.length ≤ 2 * s.at_) → Step tx s s1 ∧ x.length ≤ 2 * s1.at_ + 1 := by
  intro k
  induction k with
  | zero => intro s s1 acc x ok hop ha h _; cases h; exact ⟨⟨Nat.le_refl _, rfl, ok⟩, ha⟩
  | succ k ihk =>
    intro s s1 acc x ok hop _ h ha
    have ha : acc.length ≤ 2 * s.at_ := by omega
    unfold sibF at h
    cases h1 : wordsP tx.data.toList s with
    | inr q_ => obtain ⟨p, e⟩ := q_; rw [h1] at h; cases h
    | inl q_ =>
      obtain ⟨t, s2⟩ := q_
      rw [h1] at h
      simp only at h
      obtain ⟨st, -⟩ := wordsP_ok ok h1
      have hlen : (if t = [] then acc else acc ++ [txtT t]).length ≤ 2 * s2.at_ + 1 := by
        have := st.le
        split <;> simp <;> omega
      split at h
      · cases h
        exact ⟨st, hlen⟩
      · rename_i hne
        have hlt : s2.at_ < tx.size := by
          have h1 := st.ok.at_
          rw [size_list] at hne
          have : s2.at_ ≠ tx.size := fun e => hne (.inl e)
          omega
        cases h2 : elemP tx.data.toList (sibP tx.data.toList d) s2 with
        | inr q_ => obtain ⟨p, e⟩ := q_; rw [h2] at h; cases h
        | inl q_ =>
          obtain ⟨y, s3⟩ := q_
          rw [h2] at h
          simp only at h
          obtain ⟨st2, hlt2⟩ := elemP_ok ih st.ok (by rw [st.op]; exact hop) hlt h2
          obtain ⟨f1, f2⟩ := ihk _ _ _ _ st2.ok (by rw [st2.op, st.op]; exact hop) (by rw [List.length_append]; simp only [List.length_singleton]; omega) h (by right; rw [List.length_append]; simp only [List.length_singleton]; omega)
          exact ⟨(st.trans st2).trans f1, f2⟩

theorem sibs_ok (tx : ByteArray) : ∀ (d : Nat), SibOk tx d
  | 0, s, s1, x, ok, hop, h => by
    unfold sibP at h
    cases h1 : wordsP tx.data.toList s with
    | inr q_ => obtain ⟨p, e⟩ := q_; rw [h1] at h; cases h
    | inl q_ =>
      obtain ⟨t, s2⟩ := q_
      rw [h1] at h
      simp only at h
      obtain ⟨st, -⟩ := wordsP_ok ok h1
      split at h
      · cases h; exact ⟨st, by simp⟩
      · cases h
  | d + 1, s, s1, x, ok, hop, h => by
    unfold sibP at h
    exact sibF_ok (sibs_ok tx d) _ _ _ _ _ ok hop (by simp) h (by right; simp)
theorem sibP_ok {tx : ByteArray} {d : Nat} {s s1 : St} {x : List (T d)} (ok : Ok tx s) (hop : s.op + d = 64) (h : sibP tx.data.toList d s = .inl (x, s1)) : s1.op = s.op ∧ Ok tx s1 := by
  obtain ⟨st, -⟩ := sibs_ok tx d s s1 x ok hop h
  exact ⟨st.op, st.ok⟩

end Go.Proofs.YtmifejkddgcbmaaGreat
