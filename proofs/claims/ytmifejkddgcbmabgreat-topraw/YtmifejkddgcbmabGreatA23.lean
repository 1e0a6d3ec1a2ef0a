/- Trees that were read: each part in memory of its own. -/
import Derived.Test.YtmifejkddgcbmabGreatA22
namespace Go.Proofs.YtmifejkddgcbmabGreat
open Go.RowKit
set_option linter.unusedVariables false
set_option linter.unusedSimpArgs false

/-- Trees one behind the other in a row, each in blocks of its own. -/
def ForS {n : Nat} (TS : (Nat → Prop) → Array Value → T n → Prop) (R : Nat → Prop) (xs : List Value) (L : List (T n)) : Prop :=
  xs.length = L.length * 5 ∧ (∀ u ∈ xs, u.oneCell' = true) ∧ ∃ Rk : Nat → Nat → Prop,
    (∀ i k, L[i]? = some k → ∃ u : Array Value, u.size = 5 ∧ (∀ j, j < 5 → xs[i * 5 + j]? = u[j]?) ∧ TS (Rk i) u k) ∧ (∀ i b, i < L.length → Rk i b → R b) ∧ (∀ i j b, i < j → j < L.length → Rk i b → ¬ Rk j b)

/-- A tree in memory of its own. -/
def TreeS (w : World) : (n : Nat) → (Nat → Prop) → Array Value → T n → Prop
  | 0, _, _, _ => False
  | n + 1, R, v, t => ∃ (a : Option Addr) (ac : Nat) (ka : Option Addr) (kc : Nat) (xs : List Value) (Rf : Nat → Prop),
      v = tv t.kind t.name a t.attrs.length ac t.text ka t.kids.length kc ∧ t.attrs.length ≤ 32 ∧ t.kids.length ≤ 600000 ∧
      w.ownsRow 0 84 2 (.slice a t.attrs.length ac) t.attrs.length (attrCells t.attrs) ∧ w.ownsRow 0 34 5 (.slice ka t.kids.length kc) t.kids.length xs ∧
      ForS (TreeS w n) Rf xs t.kids ∧ (∀ b, Rf b → R b) ∧ (∀ b, (Value.slice a t.attrs.length ac).ownBlock = some b → R b ∧ ¬ Rf b) ∧
      (∀ b, (Value.slice ka t.kids.length kc).ownBlock = some b → R b ∧ ¬ Rf b ∧ (Value.slice a t.attrs.length ac).ownBlock ≠ some b)

theorem ForS.mono {n : Nat} {TS TS' : (Nat → Prop) → Array Value → T n → Prop} {R R' : Nat → Prop} {xs : List Value} {L : List (T n)} (h : ForS TS R xs L) (hT : ∀ S u k, (∀ b, S b → R b) → TS S u k → TS' S u k) (hR : ∀ b, R b → R' b) : ForS TS' R' xs L := by
  obtain ⟨h1, h2, Rk, h3, h4, h5⟩ := h
  refine ⟨h1, h2, Rk, fun i k hk => ?_, fun i b hi hb => hR _ (h4 i b hi hb), h5⟩
  obtain ⟨u, g1, g2, g3⟩ := h3 i k hk
  exact ⟨u, g1, g2, hT _ _ _ (fun b hb => h4 i b (List.getElem?_eq_some_iff.1 hk).1 hb) g3⟩

theorem TreeS.to {w w' : World} : ∀ {n : Nat} {R R' : Nat → Prop} {v : Array Value} {t : T n}, TreeS w n R v t → (∀ b, R b → w'.heap[b]? = w.heap[b]?) → (∀ b, R b → R' b) → TreeS w' n R' v t
  | 0, _, _, _, _, h, _, _ => h.elim
  | n + 1, R, R', v, t, h, hw, hR => by
    obtain ⟨a, ac, ka, kc, xs, Rf, h1, h2, h3, h4, h5, h6, h7, h8, h9⟩ := h
    refine ⟨a, ac, ka, kc, xs, Rf, h1, h2, h3, own_of_block h4 (fun k hk => hw k (h8 k hk).1), own_of_block h5 (fun k hk => hw k (h9 k hk).1), h6.mono (fun S u k hS hk => hk.to (fun b hb => hw b (h7 b (hS b hb))) (fun _ hb => hb)) (fun _ hb => hb), fun b hb => hR b (h7 b hb), fun b hb => ⟨hR b (h8 b hb).1, (h8 b hb).2⟩, fun b hb => ⟨hR b (h9 b hb).1, (h9 b hb).2⟩⟩

theorem ForS.to {w w' : World} {n : Nat} {R R' : Nat → Prop} {xs : List Value} {L : List (T n)} (h : ForS (TreeS w n) R xs L) (hw : ∀ b, R b → w'.heap[b]? = w.heap[b]?) (hR : ∀ b, R b → R' b) : ForS (TreeS w' n) R' xs L :=
  h.mono (fun S u k hS hk => hk.to (fun b hb => hw b (hS b hb)) (fun _ hb => hb)) hR

theorem ForS.nil {n : Nat} (TS : (Nat → Prop) → Array Value → T n → Prop) (R : Nat → Prop) : ForS TS R [] [] := ⟨rfl, fun _ h => by simp at h, fun _ _ => False, fun i k h => by simp at h, fun i b h => by simp at h, fun i j b _ h => by simp at h⟩

theorem TreeS.form {w : World} : ∀ {n : Nat} {R : Nat → Prop} {v : Array Value} {t : T n}, TreeS w n R v t → ∃ k nm a al ac tx ka kl kc, v = #[.int .i64 k, .string nm, .slice a al ac, .string tx, .slice ka kl kc]
  | 0, _, _, _, h => h.elim
  | n + 1, _, v, t, h => by
    obtain ⟨a, ac, ka, kc, _, _, h1, _⟩ := h
    exact ⟨_, _, _, _, _, _, _, _, _, h1⟩

/-- One more behind. -/
theorem ForS.snoc {w : World} {n : Nat} {R S : Nat → Prop} {xs : List Value} {L : List (T n)} (h : ForS (TreeS w n) R xs L) {u : Array Value} {k : T n} (hu : TreeS w n S u k) (hd : ∀ b, R b → ¬ S b) : ForS (TreeS w n) (fun b => R b ∨ S b) (xs ++ u.toList) (L ++ [k]) := by
  obtain ⟨kk, nm, a, al, ac, tx, ka, kl, kc, rfl⟩ := hu.form
  obtain ⟨h1, h2, Rk, h3, h4, h5⟩ := h
  refine ⟨by simp [h1]; omega, fun x hx => ?_, fun i => if i < L.length then Rk i else S, fun i q hq => ?_, fun i b hi hb => ?_, fun i j b hij hj hb => ?_⟩
  · rw [List.mem_append] at hx
    rcases hx with hx | hx
    · exact h2 x hx
    · exact tree_one _ _ _ _ _ _ _ _ _ x (by simpa using hx)
  · by_cases hi : i < L.length
    · rw [List.getElem?_append_left hi] at hq
      obtain ⟨u', g1, g2, g3⟩ := h3 i q hq
      refine ⟨u', g1, fun j hj => ?_, by simpa [hi] using g3⟩
      rw [List.getElem?_append_left (by rw [h1]; omega)]
      exact g2 j hj
    · have hi2 : i = L.length := by
        have := (List.getElem?_eq_some_iff.1 hq).1
        simp at this; omega
      subst hi2
      rw [List.getElem?_append_right (Nat.le_refl _)] at hq
      simp at hq
      subst hq
      refine ⟨_, rfl, fun j hj => ?_, by simpa using hu⟩
      rw [List.getElem?_append_right (by rw [h1]; omega), h1]
      simp
  · by_cases hi2 : i < L.length
    · simp only [hi2, if_true] at hb
      exact .inl (h4 i b hi2 hb)
    · simp only [hi2, if_false] at hb
      exact .inr hb
  · have hj2 : j ≤ L.length := by simp at hj; omega
    have hi2 : i < L.length := by omega
    simp only [hi2, if_true] at hb
    by_cases hj3 : j < L.length
    · simp only [hj3, if_true]
      exact h5 i j b hij hj3 hb
    · simp only [hj3, if_false]
      exact hd b (h4 i b hi2 hb)

/-- A text. -/
theorem treeS_txt (w : World) (d : Nat) (t : Bs) : TreeS w (d + 1) (fun _ => False) #[.int .i64 2, .string ⟨#[]⟩, .slice none 0 0, .string (ba t), .slice none 0 0] (txtT t) :=
  ⟨none, 0, none, 0, [], fun _ => False, rfl, by simp [txtT], by simp [txtT], ⟨rfl, .inl ⟨rfl, rfl⟩⟩, ⟨rfl, .inl ⟨rfl, rfl⟩⟩, ForS.nil _ _, fun _ h => h, fun b h => (by cases h), fun b h => (by cases h)⟩

end Go.Proofs.YtmifejkddgcbmabGreat

/- What reading siblings leaves, in plain. -/
namespace Go.Proofs.YtmifejkddgcbmabGreat
set_option linter.unusedVariables false
set_option linter.unusedSimpArgs false

theorem attrsF_ok {l : Bs} : ∀ (k : Nat) (s s1 : St) (acc L : List Att), s.at_ ≤ l.length → acc.length ≤ 32 → attrsF l k s acc = .inl (L, s1) → s.at_ ≤ s1.at_ ∧ s1.at_ ≤ l.length ∧ s1.nodes = s.nodes ∧ s1.op = s.op ∧ L.length ≤ 32 := by
  intro k
  induction k with
  | zero => intro s s1 acc L hs ha h; cases h; exact ⟨Nat.le_refl _, hs, rfl, rfl, ha⟩
  | succ k ih =>
    intro s s1 acc L hs ha h
    have hbl := runN_le (l := l) (p := fun b => blankB b.toNat) hs
    have hb1 : s.at_ ≤ (blanksP l s).at_ := by simp [blanksP]
    have hb2 : (blanksP l s).at_ ≤ l.length := hbl
    unfold attrsF at h
    cases hg : l[(blanksP l s).at_]? with
    | none => rw [hg] at h; cases h
    | some c =>
      rw [hg] at h
      simp only at h
      split at h
      · cases h
        exact ⟨hb1, hb2, rfl, rfl, by rw [(sortA_perm acc).length_eq]; exact ha⟩
      · split at h
        · cases h
        · cases hp : attrP l acc (blanksP l s) with
          | inr q_ => obtain ⟨p, e⟩ := q_; rw [hp] at h; cases h
          | inl q_ =>
            obtain ⟨a, s2⟩ := q_
            rw [hp] at h
            simp only at h
            obtain ⟨g1, g2, g3, g4, g5, -⟩ := attrP_ok hp ha
            obtain ⟨f1, f2, f3, f4, f5⟩ := ih _ _ _ _ g2 (by simp; omega) h
            exact ⟨by omega, f2, f3.trans g3, f4.trans g4, f5⟩
theorem attrsP_ok {l : Bs} {s s1 : St} {L : List Att} (h : attrsP l s = .inl (L, s1)) (hs : s.at_ ≤ l.length) : s.at_ ≤ s1.at_ ∧ s1.at_ ≤ l.length ∧ s1.nodes = s.nodes ∧ s1.op = s.op ∧ L.length ≤ 32 := attrsF_ok _ _ _ _ _ hs (by simp) h


/-- From one place to another, within bounds. -/
structure Step (tx : ByteArray) (s s1 : St) : Prop where
  le : s.at_ ≤ s1.at_
  op : s1.op = s.op
  ok : Ok tx s1

theorem Step.trans {tx : ByteArray} {a b c : St} (h : Step tx a b) (k : Step tx b c) : Step tx a c := ⟨Nat.le_trans h.le k.le, k.op.trans h.op, k.ok⟩

theorem step_skip {tx : ByteArray} {s s1 : St} {n : Nat} {q x : Bs} (ok : Ok tx s) (hn : s.at_ + n ≤ tx.size) (h : skipP tx.data.toList n q s = .inl (x, s1)) : Step tx s s1 := by
  obtain ⟨e1, e2, -⟩ := skipP_ok h (by rw [size_list]; exact hn)
  rw [size_list] at e2
  subst e1
  exact ⟨by simp only; omega, rfl, ⟨ok.len, e2, ok.nodes, ok.op⟩⟩

theorem wordsF_ok {tx : ByteArray} : ∀ (k : Nat) (s s1 : St) (o t : Bs), Ok tx s → o.length ≤ 16384 → wordsF tx.data.toList k s o = .inl (t, s1) → Step tx s s1 ∧ t.length ≤ 16384 := by
  intro k
  induction k with
  | zero => intro s s1 o t ok hl h; cases h; exact ⟨⟨Nat.le_refl _, rfl, ok⟩, hl⟩
  | succ k ih =>
    intro s s1 o t ok hl h
    unfold wordsF at h
    cases hg : tx.data.toList[s.at_]? with
    | none => rw [hg] at h; cases h; exact ⟨⟨Nat.le_refl _, rfl, ok⟩, hl⟩
    | some b =>
      rw [hg] at h
      simp only at h
      split at h
      · cases hp : letterP tx.data.toList s with
        | inr q_ => obtain ⟨p, e⟩ := q_; rw [hp] at h; cases h
        | inl q_ =>
          obtain ⟨x, s2⟩ := q_
          rw [hp] at h
          simp only at h
          cases hq : putP s2 o x s.at_ with
          | inr q_ => obtain ⟨p, e⟩ := q_; rw [hq] at h; cases h
          | inl q_ =>
            obtain ⟨o2, s3⟩ := q_
            rw [hq] at h
            simp only at h
            obtain ⟨g1, g2, g3, g4, -⟩ := letterP_ok hp
            obtain ⟨p1, p2, -, -, p5⟩ := putP_ok hq
            have ok3 := (ok.letter hp).put hq
            obtain ⟨f1, f2⟩ := ih _ _ _ _ ok3 p5 h
            exact ⟨Step.trans ⟨by omega, by rw [p2, g4], ok3⟩ f1, f2⟩
      · split at h
        · rename_i hs
          have h9 := seesP_le hs (by simp)
          rw [size_list] at h9
          cases hp : skipP tx.data.toList 4 [45, 45, 62] s with
          | inr q_ => obtain ⟨p, e⟩ := q_; rw [hp] at h; cases h
          | inl q_ =>
            obtain ⟨x, s2⟩ := q_
            rw [hp] at h
            have st := step_skip ok h9 hp
            obtain ⟨f1, f2⟩ := ih _ _ _ _ st.ok hl h
            exact ⟨st.trans f1, f2⟩
        · split at h
          · rename_i hs
            have h9 := seesP_le hs (by simp)
            rw [size_list] at h9
            cases hp : skipP tx.data.toList 2 [63, 62] s with
            | inr q_ => obtain ⟨p, e⟩ := q_; rw [hp] at h; cases h
            | inl q_ =>
              obtain ⟨x, s2⟩ := q_
              rw [hp] at h
              have st := step_skip ok h9 hp
              obtain ⟨f1, f2⟩ := ih _ _ _ _ st.ok hl h
              exact ⟨st.trans f1, f2⟩
          · split at h
            · rename_i hs
              have h9 := seesP_le hs (by simp)
              cases hp : rawP tx.data.toList s o with
              | inr q_ => obtain ⟨p, e⟩ := q_; rw [hp] at h; cases h
              | inl q_ =>
                obtain ⟨o2, s2⟩ := q_
                rw [hp] at h
                obtain ⟨g1, g2, g3, g4, g5⟩ := rawP_ok hl h9 hp
                rw [size_list] at g2
                have st : Step tx s s2 := ⟨by omega, g3, ⟨ok.len, g2, g4 ok.nodes, by rw [g3]; exact ok.op⟩⟩
                obtain ⟨f1, f2⟩ := ih _ _ _ _ st.ok g5 h
                exact ⟨st.trans f1, f2⟩
            · cases hp : tagP tx.data.toList s with
              | inr q_ => obtain ⟨p, e⟩ := q_; rw [hp] at h; cases h
              | inl q_ =>
                obtain ⟨u, s2⟩ := q_
                rw [hp] at h
                cases h
                rw [tagP_ok hp]
                exact ⟨⟨Nat.le_refl _, rfl, ok⟩, hl⟩
theorem wordsP_ok {tx : ByteArray} {s s1 : St} {t : Bs} (ok : Ok tx s) (h : wordsP tx.data.toList s = .inl (t, s1)) : Step tx s s1 ∧ t.length ≤ 16384 := wordsF_ok _ _ _ _ _ ok (by simp) h

theorem endP_ok {tx : ByteArray} {n : Bs} {s s1 : St} {u : Unit} (ok : Ok tx s) (h : endP tx.data.toList n s = .inl (u, s1)) : Step tx s s1 := by
  unfold endP at h
  cases h1 : expectP tx.data.toList 60 s with
  | inr q_ => obtain ⟨p, e⟩ := q_; rw [h1] at h; cases h
  | inl q_ =>
    obtain ⟨u1, s2⟩ := q_
    rw [h1] at h
    simp only at h
    have k1 := ok.expect h1
    obtain ⟨e1, -⟩ := expectP_ok h1
    cases h2 : expectP tx.data.toList 47 s2 with
    | inr q_ => obtain ⟨p, e⟩ := q_; rw [h2] at h; cases h
    | inl q_ =>
      obtain ⟨u2, s3⟩ := q_
      rw [h2] at h
      simp only at h
      have k2 := k1.expect h2
      obtain ⟨e2, -⟩ := expectP_ok h2
      cases h3 : nameP tx.data.toList s3 with
      | inr q_ => obtain ⟨p, e⟩ := q_; rw [h3] at h; cases h
      | inl q_ =>
        obtain ⟨m, s4⟩ := q_
        rw [h3] at h
        simp only at h
        have k3 := k2.name h3
        obtain ⟨e3, -⟩ := nameP_ok h3
        split at h
        · have k4 := k3.blanks.expect h
          obtain ⟨e4, -⟩ := expectP_ok h
          subst e4 e3 e2 e1
          exact ⟨by simp [blanksP]; omega, rfl, k4⟩
        · cases h

/-- A reader of siblings keeps within bounds. -/
def SibOk (tx : ByteArray) (d : Nat) : Prop := ∀ (s s1 : St) (x : List (T d)), Ok tx s → s.op + d = 64 → sibP tx.data.toList d s = .inl (x, s1) → Step tx s s1 ∧ x.length ≤ 2 * s1.at_ + 1

theorem elemP_ok {tx : ByteArray} {d : Nat} (ih : SibOk tx d) {s s1 : St} {t : T (d + 1)} (ok : Ok tx s) (hop : s.op + (d + 1) = 64) (hlt : s.at_ < tx.size) (h : elemP tx.data.toList (sibP tx.data.toList d) s = .inl (t, s1)) : Step tx s s1 ∧ s.at_ < s1.at_ := by
  unfold elemP at h
  cases h1 : beginP s s.at_ with
  | inr q_ => obtain ⟨p, e⟩ := q_; rw [h1] at h; cases h
  | inl q_ =>
    obtain ⟨u1, s2⟩ := q_
    rw [h1] at h
    simp only at h
    obtain ⟨e1, e2, e3⟩ := beginP_ok h1
    have k1 : Ok tx { s2 with at_ := s2.at_ + 1 } := by subst e1; exact ⟨ok.len, by simp only; omega, by have := ok.nodes; simp only; omega, ok.op⟩
    cases h2 : nameP tx.data.toList { s2 with at_ := s2.at_ + 1 } with
    | inr q_ => obtain ⟨p, e⟩ := q_; rw [h2] at h; cases h
    | inl q_ =>
      obtain ⟨n, s3⟩ := q_
      rw [h2] at h
      simp only at h
      have k2 := k1.name h2
      obtain ⟨e4, -⟩ := nameP_ok h2
      cases h3 : attrsP tx.data.toList s3 with
      | inr q_ => obtain ⟨p, e⟩ := q_; rw [h3] at h; cases h
      | inl q_ =>
        obtain ⟨L, s4⟩ := q_
        rw [h3] at h
        simp only at h
        obtain ⟨g1, g2, g3, g4, g5⟩ := attrsP_ok h3 (by rw [size_list]; exact k2.at_)
        rw [size_list] at g2
        have k3 : Ok tx s4 := ⟨ok.len, g2, by rw [g3]; exact k2.nodes, by rw [g4]; exact k2.op⟩
        have b1 : s.at_ < s4.at_ ∧ s4.op = s.op := by
          subst e4 e1
          simp only at g1 g4
          exact ⟨by omega, g4⟩
        cases h4 : tx.data.toList[s4.at_]? with
        | none => rw [h4] at h; cases h
        | some c =>
          have hc := (List.getElem?_eq_some_iff.1 h4).1
          rw [size_list] at hc
          rw [h4] at h
          simp only at h
          split at h
          · have k4 : Ok tx { s4 with at_ := s4.at_ + 1 } := ⟨ok.len, hc, k3.nodes, k3.op⟩
            cases h5 : expectP tx.data.toList 62 { s4 with at_ := s4.at_ + 1 } with
            | inr q_ => obtain ⟨p, e⟩ := q_; rw [h5] at h; cases h
            | inl q_ =>
              obtain ⟨u5, s5⟩ := q_
              rw [h5] at h
              cases h
              have k5 := k4.expect h5
              obtain ⟨e5, -⟩ := expectP_ok h5
              subst e5
              exact ⟨⟨by simp only; omega, b1.2, k5⟩, by simp only; omega⟩
          · cases h5 : expectP tx.data.toList 62 s4 with
            | inr q_ => obtain ⟨p, e⟩ := q_; rw [h5] at h; cases h
            | inl q_ =>
              obtain ⟨u5, s5⟩ := q_
              rw [h5] at h
              simp only at h
              have k5 := k3.expect h5
              obtain ⟨e5, -⟩ := expectP_ok h5
              have b5 : s.at_ < s5.at_ ∧ s5.op = s.op := by subst e5; exact ⟨by simp only; omega, b1.2⟩
              have k6 : Ok tx { s5 with op := s5.op + 1 } := ⟨ok.len, k5.at_, k5.nodes, by simp only; omega⟩
              cases h6 : sibP tx.data.toList d { s5 with op := s5.op + 1 } with
              | inr q_ => obtain ⟨p, e⟩ := q_; rw [h6] at h; cases h
              | inl q_ =>
                obtain ⟨x, s6⟩ := q_
                rw [h6] at h
                simp only at h
                obtain ⟨st, -⟩ := ih _ _ _ k6 (by simp only; omega) h6
                have b6 : s6.op = s.op + 1 := by rw [st.op]; simp only; omega
                have b6' : s5.at_ ≤ s6.at_ := st.le
                have k7 : Ok tx { s6 with op := s6.op - 1 } := ⟨ok.len, st.ok.at_, st.ok.nodes, by simp only; omega⟩
                cases h7 : endP tx.data.toList n { s6 with op := s6.op - 1 } with
                | inr q_ => obtain ⟨p, e⟩ := q_; rw [h7] at h; cases h
                | inl q_ =>
                  obtain ⟨u7, s7⟩ := q_
                  rw [h7] at h
                  cases h
                  have st7 := endP_ok k7 h7
                  have l7 : s6.at_ ≤ s1.at_ := st7.le
                  have o7 : s1.op = s6.op - 1 := st7.op
                  exact ⟨⟨by omega, by omega, st7.ok⟩, by omega⟩

theorem sibF_ok {tx : ByteArray} {d : Nat} (ih : SibOk tx d) : ∀ (k : Nat) (s s1 : St) (acc x : List (T (d + 1))), Ok tx s → s.op + (d + 1) = 64 → acc.length ≤ 2 * s.at_ + 1 → sibF tx.data.toList (elemP tx.data.toList (sibP tx.data.toList d)) k s acc = .inl (x, s1) → (k = 0 ∨ acc.length ≤ 2 * s.at_) → Step tx s s1 ∧ x.length ≤ 2 * s1.at_ + 1 := by
  intro k
  induction k with
  | zero => intro s s1 acc x ok hop ha h _; cases h; exact ⟨⟨Nat.le_refl _, rfl, ok⟩, ha⟩
  | succ k ihk =>
    intro s s1 acc x ok hop _ h ha
    have ha : acc.length ≤ 2 * s.at_ := by omega
    unfold sibF at h
    cases h1 : wordsP tx.data.toList s with
    | inr q_ => obtain ⟨p, e⟩ := q_; rw [h1] at h; cases h
    | inl q_ =>
      obtain ⟨t, s2⟩ := q_
      rw [h1] at h
      simp only at h
      obtain ⟨st, -⟩ := wordsP_ok ok h1
      have hlen : (if t = [] then acc else acc ++ [txtT t]).length ≤ 2 * s2.at_ + 1 := by
        have := st.le
        split <;> simp <;> omega
      split at h
      · cases h
        exact ⟨st, hlen⟩
      · rename_i hne
        have hlt : s2.at_ < tx.size := by
          have h1 := st.ok.at_
          rw [size_list] at hne
          have : s2.at_ ≠ tx.size := fun e => hne (.inl e)
          omega
        cases h2 : elemP tx.data.toList (sibP tx.data.toList d) s2 with
        | inr q_ => obtain ⟨p, e⟩ := q_; rw [h2] at h; cases h
        | inl q_ =>
          obtain ⟨y, s3⟩ := q_
          rw [h2] at h
          simp only at h
          obtain ⟨st2, hlt2⟩ := elemP_ok ih st.ok (by rw [st.op]; exact hop) hlt h2
          obtain ⟨f1, f2⟩ := ihk _ _ _ _ st2.ok (by rw [st2.op, st.op]; exact hop) (by rw [List.length_append]; simp only [List.length_singleton]; omega) h (by right; rw [List.length_append]; simp only [List.length_singleton]; omega)
          exact ⟨(st.trans st2).trans f1, f2⟩

theorem sibs_ok (tx : ByteArray) : ∀ (d : Nat), SibOk tx d
  | 0, s, s1, x, ok, hop, h => by
    unfold sibP at h
    cases h1 : wordsP tx.data.toList s with
    | inr q_ => obtain ⟨p, e⟩ := q_; rw [h1] at h; cases h
    | inl q_ =>
      obtain ⟨t, s2⟩ := q_
      rw [h1] at h
      simp only at h
      obtain ⟨st, -⟩ := wordsP_ok ok h1
      split at h
      · cases h; exact ⟨st, by simp⟩
      · cases h
  | d + 1, s, s1, x, ok, hop, h => by
    unfold sibP at h
    exact sibF_ok (sibs_ok tx d) _ _ _ _ _ ok hop (by simp) h (by right; simp)
theorem sibP_ok {tx : ByteArray} {d : Nat} {s s1 : St} {x : List (T d)} (ok : Ok tx s) (hop : s.op + d = 64) (h : sibP tx.data.toList d s = .inl (x, s1)) : s1.op = s.op ∧ Ok tx s1 := by
  obtain ⟨st, -⟩ := sibs_ok tx d s s1 x ok hop h
  exact ⟨st.op, st.ok⟩

end Go.Proofs.YtmifejkddgcbmabGreat
