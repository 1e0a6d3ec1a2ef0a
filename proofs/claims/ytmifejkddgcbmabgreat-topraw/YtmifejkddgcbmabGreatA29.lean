/- What Parse makes, in plain: a forest that can be, in its normal form; a fault's place lies within the text. -/
import Derived.Test.YtmifejkddgcbmabGreatA28
namespace Go.Proofs.YtmifejkddgcbmabGreat
open Go.RowKit
set_option linter.unusedVariables false
set_option linter.unusedSimpArgs false

theorem grow_ok {s s1 : St} {out x o : Bs} {a : Nat} (h : growP s out x a = .inl (o, s1)) : o = out ++ x ∧ o.length ≤ 16384 ∧ s1 = s := by
  unfold growP at h
  split at h
  · simp at h
  · cases h; exact ⟨rfl, by rw [List.length_append]; omega, rfl⟩
theorem grow_bad {s : St} {out x : Bs} {a p : Nat} {e : Int} (h : growP s out x a = .inr (p, e)) : p = a := by
  unfold growP at h
  split at h
  · cases h; rfl
  · simp at h
theorem value_vx {l : Bs} {q : UInt8} : ∀ (k : Nat) (s s1 : St) (out t : Bs), valueF l q k s out = .inl (t, s1) → Vx out → out.length ≤ 16384 → Vx t ∧ t.length ≤ 16384
  | 0, s, s1, out, t, h, hv, hl => by rw [valueF] at h; cases h; exact ⟨hv, hl⟩
  | k + 1, s, s1, out, t, h, hv, hl => by
    rw [valueF] at h
    cases hg : l[s.at_]? with
    | none => rw [hg] at h; simp at h
    | some b =>
      rw [hg] at h
      simp only at h
      split at h
      · cases h; exact ⟨hv, hl⟩
      · split at h
        · simp at h
        · cases hlt : letterP l s with
          | inr q => obtain ⟨p, e⟩ := q; rw [hlt] at h; simp at h
          | inl q2 =>
            obtain ⟨x, s2⟩ := q2
            rw [hlt] at h
            simp only at h
            cases hp : growP s2 out x s.at_ with
            | inr q => obtain ⟨p, e⟩ := q; rw [hp] at h; simp at h
            | inl q3 =>
              obtain ⟨o3, s3⟩ := q3
              rw [hp] at h
              simp only at h
              obtain ⟨p1, p2, p3⟩ := grow_ok hp
              exact value_vx k s3 s1 o3 t h (by rw [p1]; exact hv.append (letter_vx hlt).1) p2
theorem value_bad {l : Bs} {q : UInt8} : ∀ (k : Nat) (s : St) (out : Bs) (p : Nat) (e : Int), valueF l q k s out = .inr (p, e) → s.at_ ≤ l.length → p ≤ l.length
  | 0, s, out, p, e, h, hat => by rw [valueF] at h; simp at h
  | k + 1, s, out, p, e, h, hat => by
    rw [valueF] at h
    cases hg : l[s.at_]? with
    | none => rw [hg] at h; cases h; exact hat
    | some b =>
      rw [hg] at h
      simp only at h
      split at h
      · simp at h
      · split at h
        · cases h; exact hat
        · cases hlt : letterP l s with
          | inr q => obtain ⟨p2, e2⟩ := q; rw [hlt] at h; cases h; rw [letter_bad hlt]; exact hat
          | inl q2 =>
            obtain ⟨x, s2⟩ := q2
            rw [hlt] at h
            simp only at h
            obtain ⟨-, y1, y2, y3, -⟩ := letterP_ok hlt
            cases hp : growP s2 out x s.at_ with
            | inr q => obtain ⟨p2, e2⟩ := q; rw [hp] at h; cases h; rw [grow_bad hp]; exact hat
            | inl q3 =>
              obtain ⟨o3, s3⟩ := q3
              rw [hp] at h
              obtain ⟨p1, p2, p3⟩ := grow_ok hp
              exact value_bad k s3 o3 p e h (by rw [p3]; exact y1)
theorem valueP_vx {l : Bs} {s s1 : St} {t : Bs} (h : valueP l s = .inl (t, s1)) : (tans t).2 = 0 := by
  unfold valueP at h
  split at h
  · simp at h
  · split at h
    · have := value_vx _ _ _ _ _ h Vx.nil (by simp)
      exact this.1.tans this.2
    · simp at h
theorem get_lt {l : Bs} {a : Nat} {b : UInt8} (h : l[a]? = some b) : a < l.length := (List.getElem?_eq_some_iff.1 h).1
theorem valueP_bad {l : Bs} {s : St} {p : Nat} {e : Int} (h : valueP l s = .inr (p, e)) (hat : s.at_ ≤ l.length) : p ≤ l.length := by
  unfold valueP at h
  split at h
  · cases h; exact hat
  · rename_i q hg
    have := get_lt hg
    split at h
    · exact value_bad _ _ _ _ _ h (by simp only; omega)
    · cases h; exact hat
theorem name_bad {l : Bs} {s : St} {p : Nat} {e : Int} (h : nameP l s = .inr (p, e)) : p = s.at_ := by
  unfold nameP at h
  split at h
  · cases h; rfl
  · split at h
    · split at h
      · simp at h
      · cases h; rfl
    · cases h; rfl
theorem expect_bad {l : Bs} {c : UInt8} {s : St} {p : Nat} {e : Int} (h : expectP l c s = .inr (p, e)) : p = s.at_ := by
  unfold expectP at h
  split at h
  · split at h
    · simp at h
    · cases h; rfl
  · cases h; rfl

/-- An attribute that can be. -/
def OkA (p : Att) : Prop := nameL p.1.data.toList = true ∧ (tans p.2.data.toList).2 = 0
theorem attrP_vx {l : Bs} {L : List Att} {s s1 : St} {a : Att} (h : attrP l L s = .inl (a, s1)) : OkA a := by
  unfold attrP at h
  cases hn : nameP l s with
  | inr q => obtain ⟨p, e⟩ := q; rw [hn] at h; simp at h
  | inl q =>
    obtain ⟨n, s2⟩ := q
    rw [hn] at h
    simp only at h
    split at h
    · simp at h
    · split at h
      · simp at h
      · cases hx : expectP l 61 s2 with
        | inr q => obtain ⟨p, e⟩ := q; rw [hx] at h; simp at h
        | inl q =>
          obtain ⟨u, s3⟩ := q
          rw [hx] at h
          simp only at h
          cases hv : valueP l s3 with
          | inr q => obtain ⟨p, e⟩ := q; rw [hv] at h; simp at h
          | inl q =>
            obtain ⟨v, s4⟩ := q
            rw [hv] at h
            cases h
            exact ⟨(nameP_ok hn).2.2.1, valueP_vx hv⟩
theorem attrP_bad {l : Bs} {L : List Att} {s : St} {p : Nat} {e : Int} (h : attrP l L s = .inr (p, e)) (hat : s.at_ ≤ l.length) : p ≤ l.length := by
  unfold attrP at h
  cases hn : nameP l s with
  | inr q => obtain ⟨p2, e2⟩ := q; rw [hn] at h; cases h; rw [name_bad hn]; exact hat
  | inl q =>
    obtain ⟨n, s2⟩ := q
    rw [hn] at h
    simp only at h
    obtain ⟨rfl, -, -, n4, -⟩ := nameP_ok hn
    split at h
    · cases h; exact hat
    · split at h
      · cases h; exact hat
      · cases hx : expectP l 61 { s with at_ := s.at_ + n.length } with
        | inr q => obtain ⟨p2, e2⟩ := q; rw [hx] at h; cases h; rw [expect_bad hx]; exact n4
        | inl q =>
          obtain ⟨u, s3⟩ := q
          rw [hx] at h
          simp only at h
          obtain ⟨rfl, x2⟩ := expectP_ok hx
          cases hv : valueP l { s with at_ := s.at_ + n.length + 1 } with
          | inr q => obtain ⟨p2, e2⟩ := q; rw [hv] at h; cases h; exact valueP_bad hv x2
          | inl q => obtain ⟨v, s4⟩ := q; rw [hv] at h; simp at h

theorem blanks_le {l : Bs} {s : St} (h : s.at_ ≤ l.length) : (blanksP l s).at_ ≤ l.length ∧ s.at_ ≤ (blanksP l s).at_ ∧ (blanksP l s).nodes = s.nodes ∧ (blanksP l s).op = s.op := by
  unfold blanksP runN
  refine ⟨?_, by simp, rfl, rfl⟩
  have h1 : ((l.drop s.at_).takeWhile (fun b => blankB b.toNat)).length ≤ (l.drop s.at_).length := (List.takeWhile_sublist _).length_le
  rw [List.length_drop] at h1
  simp only
  omega

/-- In their order, they are right. -/
theorem attrsGo_of : ∀ (l : List Att) (prev : Option ByteArray), (∀ p ∈ l, OkA p) → (∀ q, prev = some q → ∀ p ∈ l, ltA (q, q) p = true) → (l.Pairwise fun a b => ltA a b = true) → attrsGo prev l = 0
  | [], _, _, _, _ => rfl
  | p :: r, prev, ho, hq, hp => by
    obtain ⟨h1, h2⟩ := ho p (by simp)
    obtain ⟨p1, p2⟩ := List.pairwise_cons.1 hp
    rw [attrsGo, if_neg, if_pos h2]
    · exact attrsGo_of r (some p.1) (fun x hx => ho x (by simp [hx])) (fun q e x hx => by cases e; have := p1 x hx; rw [ltA_eq] at this ⊢; exact this) p2
    · rintro (e | ⟨q, e1, e2⟩)
      · rw [h1] at e; cases e
      · have h3 := hq q e1 p (by simp)
        unfold leB at e2
        have h4 : ltA p (q, q) = false := by
          cases hx : ltA p (q, q)
          · rfl
          · exact absurd h3 (ltA_asym p (q, q) hx)
        have h5 : Op.bytesLess p.1.toList q.toList = false := h4
        rw [h5] at e2
        simp only [Bool.false_or, beq_iff_eq] at e2
        rw [ltA_eq] at h3
        simp only [decide_eq_true_eq] at h3
        rw [e2] at h3
        exact List.lt_irrefl _ h3
theorem attrsF_vx {l : Bs} : ∀ (k : Nat) (s s1 : St) (acc L : List Att), attrsF l k s acc = .inl (L, s1) → s.at_ ≤ l.length → acc.length ≤ 32 → Dist acc → (∀ p ∈ acc, OkA p) → l.length - s.at_ + 1 ≤ k → attrsE L = 0
  | 0, s, s1, acc, L, h, hat, hl, hd, ho, hk => by omega
  | k + 1, s, s1, acc, L, h, hat, hl, hd, ho, hk => by
    obtain ⟨b1, b2, b3, b4⟩ := blanks_le (l := l) hat
    rw [attrsF] at h
    cases hg : l[(blanksP l s).at_]? with
    | none => rw [hg] at h; simp at h
    | some b =>
      rw [hg] at h
      simp only at h
      split at h
      · cases h
        have hperm := sortA_perm acc
        unfold attrsE
        rw [if_neg (by rw [hperm.length_eq]; omega)]
        exact attrsGo_of _ none (fun p hp => ho p (hperm.mem_iff.1 hp)) (fun q e => by cases e) (sortA_strict hd)
      · split at h
        · simp at h
        · cases ha : attrP l acc (blanksP l s) with
          | inr q => obtain ⟨p, e⟩ := q; rw [ha] at h; simp at h
          | inl q =>
            obtain ⟨a, s2⟩ := q
            rw [ha] at h
            simp only at h
            obtain ⟨a1, a2, a3, a4, a5, a6⟩ := attrP_ok ha hl
            refine attrsF_vx k s2 s1 (acc ++ [a]) L h a2 (by simp; omega) ?_ ?_ (by omega)
            · unfold Dist
              rw [List.pairwise_append]
              exact ⟨hd, List.pairwise_singleton _ _, fun x hx y hy => by simp at hy; subst hy; exact a6 x hx⟩
            · intro p hp
              rcases List.mem_append.1 hp with hp | hp
              · exact ho p hp
              · simp at hp; subst hp; exact attrP_vx ha
theorem attrsF_bad {l : Bs} : ∀ (k : Nat) (s : St) (acc : List Att) (p : Nat) (e : Int), attrsF l k s acc = .inr (p, e) → s.at_ ≤ l.length → acc.length ≤ 32 → p ≤ l.length
  | 0, s, acc, p, e, h, hat, hl => by rw [attrsF] at h; simp at h
  | k + 1, s, acc, p, e, h, hat, hl => by
    obtain ⟨b1, b2, b3, b4⟩ := blanks_le (l := l) hat
    rw [attrsF] at h
    cases hg : l[(blanksP l s).at_]? with
    | none => rw [hg] at h; cases h; exact b1
    | some b =>
      rw [hg] at h
      simp only at h
      split at h
      · simp at h
      · split at h
        · cases h; exact hat
        · cases ha : attrP l acc (blanksP l s) with
          | inr q => obtain ⟨p2, e2⟩ := q; rw [ha] at h; cases h; exact attrP_bad ha b1
          | inl q =>
            obtain ⟨a, s2⟩ := q
            rw [ha] at h
            obtain ⟨a1, a2, a3, a4, a5, a6⟩ := attrP_ok ha hl
            exact attrsF_bad k s2 (acc ++ [a]) p e h a2 (by simp; omega)
theorem endP_le {l n : Bs} {s s1 : St} {u : Unit} (h : endP l n s = .inl (u, s1)) : s1.nodes = s.nodes ∧ s1.op = s.op ∧ s1.at_ ≤ l.length := by
  unfold endP at h
  cases h1 : expectP l 60 s with
  | inr q => obtain ⟨p, e⟩ := q; rw [h1] at h; simp at h
  | inl q =>
    obtain ⟨u1, s2⟩ := q
    rw [h1] at h
    simp only at h
    obtain ⟨rfl, x1⟩ := expectP_ok h1
    cases h2 : expectP l 47 { s with at_ := s.at_ + 1 } with
    | inr q => obtain ⟨p, e⟩ := q; rw [h2] at h; simp at h
    | inl q =>
      obtain ⟨u2, s3⟩ := q
      rw [h2] at h
      simp only at h
      obtain ⟨rfl, x2⟩ := expectP_ok h2
      cases h3 : nameP l { s with at_ := s.at_ + 1 + 1 } with
      | inr q => obtain ⟨p, e⟩ := q; rw [h3] at h; simp at h
      | inl q =>
        obtain ⟨nn, s4⟩ := q
        rw [h3] at h
        simp only at h
        obtain ⟨rfl, -, -, n4, -⟩ := nameP_ok h3
        obtain ⟨b1, b2, b3, b4⟩ := blanks_le (l := l) (s := { s with at_ := s.at_ + 1 + 1 + nn.length }) n4
        split at h
        · obtain ⟨rfl, x3⟩ := expectP_ok h
          exact ⟨b3, b4, x3⟩
        · simp at h
theorem endP_bad {l n : Bs} {s : St} {p : Nat} {e : Int} (h : endP l n s = .inr (p, e)) (hat : s.at_ ≤ l.length) : p ≤ l.length := by
  unfold endP at h
  cases h1 : expectP l 60 s with
  | inr q => obtain ⟨p2, e2⟩ := q; rw [h1] at h; cases h; rw [expect_bad h1]; exact hat
  | inl q =>
    obtain ⟨u1, s2⟩ := q
    rw [h1] at h
    simp only at h
    obtain ⟨rfl, x1⟩ := expectP_ok h1
    cases h2 : expectP l 47 { s with at_ := s.at_ + 1 } with
    | inr q => obtain ⟨p2, e2⟩ := q; rw [h2] at h; cases h; rw [expect_bad h2]; exact x1
    | inl q =>
      obtain ⟨u2, s3⟩ := q
      rw [h2] at h
      simp only at h
      obtain ⟨rfl, x2⟩ := expectP_ok h2
      cases h3 : nameP l { s with at_ := s.at_ + 1 + 1 } with
      | inr q => obtain ⟨p2, e2⟩ := q; rw [h3] at h; cases h; rw [name_bad h3]; exact x2
      | inl q =>
        obtain ⟨nn, s4⟩ := q
        rw [h3] at h
        simp only at h
        obtain ⟨rfl, -, -, n4, -⟩ := nameP_ok h3
        obtain ⟨b1, b2, b3, b4⟩ := blanks_le (l := l) (s := { s with at_ := s.at_ + 1 + 1 + nn.length }) n4
        split at h
        · rw [expect_bad h]; exact b1
        · cases h; exact hat

/-- What siblings that were read are. -/
structure SQ (l : Bs) (d : Nat) (s : St) (x : List (T d)) (s1 : St) : Prop where
  can : Canon d x
  nodes : s1.nodes = s.nodes + (x.map (cnt d)).sum
  le : s1.nodes ≤ 4096
  op : s1.op = s.op
  at_ : s1.at_ ≤ l.length
def SibSp (l : Bs) (d : Nat) : Prop := ∀ (s : St), s.at_ ≤ l.length → s.nodes ≤ 4096 → s.op + d = 64 → match sibP l d s with
  | .inl (x, s1) => SQ l d s x s1
  | .inr (p, e) => p ≤ l.length

theorem wordsP_spec {l : Bs} {s s1 : St} {t : Bs} (h : wordsP l s = .inl (t, s1)) (hat : s.at_ ≤ l.length) (hn : s.nodes ≤ 4096) : (tans t).2 = 0 ∧ WQ s [] t s1 := by
  obtain ⟨h1, h2⟩ := words_vx _ _ _ _ _ h hat Vx.nil (by simp) hn
  exact ⟨h1.tans h2.len, h2⟩
/-- Where a text's reading ends. -/
theorem wordsF_at {l : Bs} : ∀ (k : Nat) (s s1 : St) (out t : Bs), wordsF l k s out = .inl (t, s1) → s.at_ ≤ l.length → out.length ≤ 16384 → s1.at_ ≤ l.length
  | 0, s, s1, out, t, h, hat, hl => by rw [wordsF] at h; cases h; exact hat
  | k + 1, s, s1, out, t, h, hat, hl => by
    rw [wordsF] at h
    cases hg : l[s.at_]? with
    | none => rw [hg] at h; cases h; exact hat
    | some b =>
      rw [hg] at h
      simp only at h
      split at h
      · cases hlt : letterP l s with
        | inr q => obtain ⟨p2, e2⟩ := q; rw [hlt] at h; simp at h
        | inl q =>
          obtain ⟨x, s2⟩ := q
          rw [hlt] at h
          simp only at h
          obtain ⟨-, y1, y2, y3, -⟩ := letterP_ok hlt
          cases hp : putP s2 out x s.at_ with
          | inr q => obtain ⟨p2, e2⟩ := q; rw [hp] at h; simp at h
          | inl q =>
            obtain ⟨o3, s3⟩ := q
            rw [hp] at h
            obtain ⟨p1, p2, p3, p4, p5, p6⟩ := put_ok hp
            exact wordsF_at k s3 s1 o3 t h (by rw [p3]; exact y1) p2
      · split at h
        · rename_i hs4
          cases hsk : skipP l 4 [45, 45, 62] s with
          | inr q => obtain ⟨p2, e2⟩ := q; rw [hsk] at h; simp at h
          | inl q =>
            obtain ⟨x, s2⟩ := q
            rw [hsk] at h
            obtain ⟨rfl, z2, -⟩ := skipP_ok hsk (seesP_le hs4 (by simp))
            exact wordsF_at k _ s1 out t h z2 hl
        · split at h
          · rename_i hs2
            cases hsk : skipP l 2 [63, 62] s with
            | inr q => obtain ⟨p2, e2⟩ := q; rw [hsk] at h; simp at h
            | inl q =>
              obtain ⟨x, s2⟩ := q
              rw [hsk] at h
              obtain ⟨rfl, z2, -⟩ := skipP_ok hsk (seesP_le hs2 (by simp))
              exact wordsF_at k _ s1 out t h z2 hl
          · split at h
            · rename_i hs9
              have h9 := seesP_le hs9 (by simp)
              cases hr : rawP l s out with
              | inr q => obtain ⟨p2, e2⟩ := q; rw [hr] at h; simp at h
              | inl q =>
                obtain ⟨o2, s2⟩ := q
                rw [hr] at h
                have hok := rawP_ok hl (by simpa using h9) hr
                exact wordsF_at k s2 s1 o2 t h hok.2.1 hok.2.2.2.2
            · cases ht : tagP l s with
              | inr q => obtain ⟨p2, e2⟩ := q; rw [ht] at h; simp at h
              | inl q =>
                obtain ⟨u, s2⟩ := q
                rw [ht] at h
                cases h
                rw [tagP_ok ht]; exact hat

end Go.Proofs.YtmifejkddgcbmabGreat
