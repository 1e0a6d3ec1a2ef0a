/- What Parse makes, in plain: a forest that can be, in its normal form; a fault's place lies within the text. -/
import Derived.Test.YtmifejkddgcbmaaGreatB05
import Derived.Test.YtmifejkddgcbmaaGreatB04
namespace Go.Proofs.YtmifejkddgcbmaaGreat
open Go.RowKit
set_option linter.unusedVariables false
set_option linter.unusedSimpArgs false

theorem grow_ok {s s1 : St} {out x o : Bs} {a : Nat} (h : growP s out x a = .inl (o, s1)) : o = out ++ x ∧ o.length ≤ 16384 ∧ s1 = s := by
  unfold growP at h
  split at h
  · simp at h
  · cases h; exact ⟨rfl, by rw [List.length_append]; omega, rfl⟩
theorem grow_bad {s : St} {out x : Bs} {a p : Nat} {e : Int} (h : growP s out x a = .inr (p, e)) : p = a := by
  unfold growP at h
  split at h
  · cases h; rfl
  · simp at h
theorem value_vx {l : Bs} {q : UInt8} : ∀ (k : Nat) (s s1 : St) (out t : Bs), valueF l q k s out = .inl (t, s1) → Vx out → out.length ≤ 16384 → Vx t ∧ t.length ≤ 16384
  | 0, s, s1, out, t, h, hv, hl => by rw [valueF] at h; cases h; exact ⟨hv, hl⟩
  | k + 1, s, s1, out, t, h, hv, hl => by
    rw [valueF] at h
    cases hg : l[s.at_]? with
    | none => rw [hg] at h; simp at h
    | some b =>
      rw [hg] at h
      simp only at h
      split at h
      · cases h; exact ⟨hv, hl⟩
      · split at h
        · simp at h
        · cases hlt : letterP l s with
          | inr q => obtain ⟨p, e⟩ := q; rw [hlt] at h; simp at h
          | inl q2 =>
            obtain ⟨x, s2⟩ := q2
            rw [hlt] at h
            simp only at h
            cases hp : growP s2 out x s.at_ with
            | inr q => obtain ⟨p, e⟩ := q; rw [hp] at h; simp at h
            | inl q3 =>
              obtain ⟨o3, s3⟩ := q3
              rw [hp] at h
              simp only at h
              obtain ⟨p1, p2, p3⟩ := grow_ok hp
              exact value_vx k s3 s1 o3 t h (by rw [p1]; exact hv.append (letter_vx hlt).1) p2
theorem value_bad {l : Bs} {q : UInt8} : ∀ (k : Nat) (s : St) (out : Bs) (p : Nat) (e : Int), valueF l q k s out = .inr (p, e) → s.at_ ≤ l.length → p ≤ l.length
  | 0, s, out, p, e, h, hat => by rw [valueF] at h; simp at h
  | k + 1, s, out, p, e, h, hat => by
    rw [valueF] at h
    cases hg : l[s.at_]? with
    | none => rw [hg] at h; cases h; exact hat
    | some b =>
      rw [hg] at h
      simp only at h
      split at h
      · simp at h
      · split at h
        · cases h; exact hat
        · cases hlt : letterP l s with
          | inr q => obtain ⟨p2, e2⟩ := q; rw [hlt] at h; cases h; rw [letter_bad hlt]; exact hat
          | inl q2 =>
            obtain ⟨x, s2⟩ := q2
            rw [hlt] at h
            simp only at h
            obtain ⟨-, y1, y2, y3, -⟩ := letterP_ok hlt
            cases hp : growP s2 out x s.at_ with
            | inr q => obtain ⟨p2, e2⟩ := q; rw [hp] at h; cases h; rw [grow_bad hp]; exact hat
            | inl q3 =>
              obtain ⟨o3, s3⟩ := q3
              rw [hp] at h
              obtain ⟨p1, p2, p3⟩ := grow_ok hp
              exact value_bad k s3 o3 p e h (by rw [p3]; exact y1)
theorem valueP_vx {l : Bs} {s s1 : St} {t : Bs} (h : valueP l s = .inl (t, s1)) : (tans t).2 = 0 := by
  unfold valueP at h
  split at h
  · simp at h
  · split at h
    · have := value_vx _ _ _ _ _ h Vx.nil (by simp)
      exact this.1.tans this.2
    · simp at h
theorem get_lt {l : Bs} {a : Nat} {b : UInt8} (h : l[a]? = some b) : a < l.length := (List.getElem?_eq_some_iff.1 h).1
theorem valueP_bad {l : Bs} {s : St} {p : Nat} {e : Int} (h : valueP l s = .inr (p, e)) (hat : s.at_ ≤ l.length) : p ≤ l.length := by
  unfold valueP at h
  split at h
  · cases h; exact hat
  · rename_i q hg
    have := get_lt hg
    split at h
    · exact value_bad _ _ _ _ _ h (by simp only; omega)
    · cases h; exact hat
theorem name_bad {l : Bs} {s : St} {p : Nat} {e : Int} (h : nameP l s = .inr (p, e)) : p = s.at_ := by
  unfold nameP at h
  split at h
  · cases h; rfl
  · split at h
    · split at h
      · simp at h
      · cases h; rfl
    · cases h; rfl
theorem expect_bad {l : Bs} {c : UInt8} {s : St} {p : Nat} {e : Int} (h : expectP l c s = .inr (p, e)) : p = s.at_ := by
  unfold expectP at h
  split at h
  · split at h
    · simp at h
    · cases h; rfl
  · cases h; rfl

/-- An attribute that can be. -/
def OkA (p : Att) : Prop := nameL p.1.data.toList = true ∧ (tans p.2.data.toList).2 = 0
theorem attrP_vx {l : Bs} {L : List Att} {s s1 : St} {a : Att} (h : attrP l L s = .inl (a, s1)) : OkA a := by
  unfold attrP at h
  cases hn : nameP l s with
  | inr q => obtain ⟨p, e⟩ := q; rw [hn] at h; simp at h
  | inl q =>
    obtain ⟨n, s2⟩ := q
    rw [hn] at h
    simp only at h
    split at h
    · simp at h
    · split at h
      · simp at h
      · cases hx : expectP l 61 s2 with
        | inr q => obtain ⟨p, e⟩ := q; rw [hx] at h; simp at h
        | inl q =>
          obtain ⟨u, s3⟩ := q
          rw [hx] at h
          simp only at h
          cases hv : valueP l s3 with
          | inr q => obtain ⟨p, e⟩ := q; rw [hv] at h; simp at h
          | inl q =>
            obtain ⟨v, s4⟩ := q
            rw [hv] at h
            cases h
            exact ⟨(nameP_ok hn).2.2.1, valueP_vx hv⟩
theorem attrP_bad {l : Bs} {L : List Att} {s : St} {p : Nat} {e : Int} (h : attrP l L s = .inr (p, e)) (hat : s.at_ ≤ l.length) : p ≤ l.length := by
  unfold attrP at h
  cases hn : nameP l s with
  | inr q => obtain ⟨p2, e2⟩ := q; rw [hn] at h; cases h; rw [name_bad hn]; exact hat
  | inl q =>
    obtain ⟨n, s2⟩ := q
    rw [hn] at h
    simp only at h
    obtain ⟨rfl, -, -, n4, -⟩ := nameP_ok hn
    split at h
    · cases h; exact hat
    · split at h
      · cases h; exact hat
      · cases hx : expectP l 61 { s with at_ := s.at_ + n.length } with
        | inr q => obtain ⟨p2, e2⟩ := q; rw [hx] at h; cases h; rw [expect_bad hx]; exact n4
        | inl q =>
          obtain ⟨u, s3⟩ := q
          rw [hx] at h
          simp only at h
          obtain ⟨rfl, x2⟩ := expectP_ok hx
          cases hv : valueP l { s with at_ := s.at_ + n.length + 1 } with
          | inr q => obtain ⟨p2, e2⟩ := q; rw [hv] at h; cases h; exact valueP_bad hv x2
          | inl q => obtain ⟨v, s4⟩ := q; rw [hv] at h; simp at h

theorem blanks_le {l : Bs} {s : St} (h : s.at_ ≤ l.length) : (blanksP l s).at_ ≤ l.length ∧ s.at_ ≤ (blanksP l s).at_ ∧ (blanksP l s).nodes = s.nodes ∧ (blanksP l s).op = s.op := by
  unfold blanksP runN
  refine ⟨?_, by simp, rfl, rfl⟩
  have h1 : ((l.drop s.at_).takeWhile (fun b => blankB b.toNat)).length ≤ (l.drop s.at_).length := (List.takeWhile_sublist _).length_le
  rw [List.length_drop] at h1
  simp only
  omega

/-- In their order, they are right. -/
theorem attrsGo_of : ∀ (l : List Att) (prev : Option ByteArray), (∀ p ∈ l, OkA p) → (∀ q, prev = some q → ∀ p ∈ l, ltA (q, q) p = true) → (l.Pairwise fun a b => ltA a b = true) → attrsGo prev l = 0
  | [], _, _, _, _ => rfl
  | p :: r, prev, ho, hq, hp => by
    obtain ⟨h1, h2⟩ := ho p (by simp)
    obtain ⟨p1, p2⟩ := List.pairwise_cons.1 hp
    rw [attrsGo, if_neg, if_pos h2]
    · exact attrsGo_of r (some p.1) (fun x hx => ho x (by simp [hx])) (fun q e x hx => by cases e; have := p1 x hx; rw [ltA_eq] at this ⊢; exact this) p2
    · rintro (e | ⟨q, e1, e2⟩)
      · rw [h1] at e; cases e
      · have h3 := hq q e1 p (by simp)
        unfold leB at e2
        have h4 : ltA p (q, q) = false := by
          cases hx : ltA p (q, q)
          · rfl
          · exact absurd h3 (ltA_asym p (q, q) hx)
        have h5 : Op.bytesLess p.1.toList q.toList = false := h4
        rw [h5] at e2
        simp only [Bool.false_or, beq_iff_eq] at e2
        rw [ltA_eq] at h3
        simp only [decide_eq_true_eq] at h3
        rw [e2] at h3
        exact List.lt_irrefl _ h3
theorem attrsF_vx {l : Bs} : ∀ (k : Nat) (s s1 : St) (acc L : List Att), attrsF l k s acc = .inl (L, s1) → s.at_ ≤ l.length → acc.length ≤ 32 → Dist acc → (∀ p ∈ acc, OkA p) → l.length - s.at_ + 1 ≤ k → attrsE L = 0
  | 0, s, s1, acc, L, h, hat, hl, hd, ho, hk => by omega
  | k + 1, s, s1, acc, L, h, hat, hl, hd, ho, hk => by
    obtain ⟨b1, b2, b3, b4⟩ := blanks_le (l := l) hat
    rw [attrsF] at h
    cases hg : l[(blanksP l s).at_]? with
    | none => rw [hg] at h; simp at h
    | some b =>
      rw [hg] at h
      simp only at h
      split at h
      · cases h
        have hperm := sortA_perm acc
        unfold attrsE
        rw [if_neg (by rw [hperm.length_eq]; omega)]
        exact attrsGo_of _ none (fun p hp => ho p (hperm.mem_iff.1 hp)) (fun q e => by cases e) (sortA_strict hd)
      · split at h
        · simp at h
        · cases ha : attrP l acc (blanksP l s) with
          | inr q => obtain ⟨p, e⟩ := q; rw [ha] at h; simp at h
          | inl q =>
            obtain ⟨a, s2⟩ := q
            rw [ha] at h
            simp only at h
            obtain ⟨a1, a2, a3, a4, a5, a6⟩ := attrP_ok ha hl
            refine attrsF_vx k s2 s1 (acc ++ [a]) L h a2 (by simp; omega) ?_ ?_ (by omega)
            · unfold Dist
              rw [List.pairwise_append]
              exact ⟨hd, List.pairwise_singleton _ _, fun x hx y hy => by simp at hy; subst hy; exact a6 x hx⟩
            · intro p hp
              rcases List.mem_append.1 hp with hp | hp
              · exact ho p hp
              · simp at hp; subst hp; exact attrP_vx ha
theorem attrsF_bad {l : Bs} : ∀ (k : Nat) (s : St) (acc : List Att) (p : Nat) (e : Int), attrsF l k s acc = .inr (p, e) → s.at_ ≤ l.length → acc.length ≤ 32 → p ≤ l.length
  | 0, s, acc, p, e, h, hat, hl => by rw [attrsF] at h; simp at h
  | k + 1, s, acc, p, e, h, hat, hl => by
    obtain ⟨b1, b2, b3, b4⟩ := blanks_le (l := l) hat
    rw [attrsF] at h
    cases hg : l[(blanksP l s).at_]? with
    | none => rw [hg] at h; cases h; exact b1
    | some b =>
      rw [hg] at h
      simp only at h
      split at h
      · simp at h
      · split at h
        · cases h; exact hat
        · cases ha : attrP l acc (blanksP l s) with
          | inr q => obtain ⟨p2, e2⟩ := q; rw [ha] at h; cases h; exact attrP_bad ha b1
          | inl q =>
            obtain ⟨a, s2⟩ := q
            rw [ha] at h
            obtain ⟨a1, a2, a3, a4, a5, a6⟩ := attrP_ok ha hl
            exact attrsF_bad k s2 (acc ++ [a]) p e h a2 (by simp; omega)
theorem endP_le {l n : Bs} {s s1 : St} {u : Unit} (h : endP l n s = .inl (u, s1)) : s1.nodes = s.nodes ∧ s1.op = s.op ∧ s1.at_ ≤ l.length := by
  unfold endP at h
  cases h1 : expectP l 60 s with
  | inr q => obtain ⟨p, e⟩ := q; rw [h1] at h; simp at h
  | inl q =>
    obtain ⟨u1, s2⟩ := q
    rw [h1] at h
    simp only at h
    obtain ⟨rfl, x1⟩ := expectP_ok h1
    cases h2 : expectP l 47 { s with at_ := s.at_ + 1 } with
    | inr q => obtain ⟨p, e⟩ := q; rw [h2] at h; simp at h
    | inl q =>
      obtain ⟨u2, s3⟩ := q
      rw [h2] at h
      simp only at h
      obtain ⟨rfl, x2⟩ := expectP_ok h2
      cases h3 : nameP l { s with at_ := s.at_ + 1 + 1 } with
      | inr q => obtain ⟨p, e⟩ := q; rw [h3] at h; simp at h
      | inl q =>
        obtain ⟨nn, s4⟩ := q
        rw [h3] at h
        simp only at h
        obtain ⟨rfl, -, -, n4, -⟩ := nameP_ok h3
        obtain ⟨b1, b2, b3, b4⟩ := blanks_le (l := l) (s := { s with at_ := s.at_ + 1 + 1 + nn.length }) n4
        split at h
        · obtain ⟨rfl, x3⟩ := expectP_ok h
          exact ⟨b3, b4, x3⟩
        · simp at h
theorem endP_bad {l n : Bs} {s : St} {p : Nat} {e : Int} (h : endP l n s = .inr (p, e)) (hat : s.at_ ≤ l.length) : p ≤ l.length := by
  unfold endP at h
  cases h1 : expectP l 60 s with
  | inr q => obtain ⟨p2, e2⟩ := q; rw [h1] at h; cases h; rw [expect_bad h1]; exact hat
  | inl q =>
    obtain ⟨u1, s2⟩ := q
    rw [h1] at h
    simp only at h
    obtain ⟨rfl, x1⟩ := expectP_ok h1
    cases h2 : expectP l 47 { s with at_ := s.at_ + 1 } with
    | inr q => obtain ⟨p2, e2⟩ := q; rw [h2] at h; cases h; rw [expect_bad h2]; exact x1
    | inl q =>
      obtain ⟨u2, s3⟩ := q
      rw [h2] at h
      simp only at h
      obtain ⟨rfl, x2⟩ := expectP_ok h2
      cases h3 : nameP l { s with at_ := s.at_ + 1 + 1 } with
      | inr q => obtain ⟨p2, e2⟩ := q; rw [h3] at h; cases h; rw [name_bad h3]; exact x2
      | inl q =>
        obtain ⟨nn, s4⟩ := q
        rw [h3] at h
        simp only at h
        obtain ⟨rfl, -, -, n4, -⟩ := nameP_ok h3
        obtain ⟨b1, b2, b3, b4⟩ := blanks_le (l := l) (s := { s with at_ := s.at_ + 1 + 1 + nn.length }) n4
        split at h
        · rw [expect_bad h]; exact b1
        · cases h; exact hat

/-- What siblings that were read are. -/
structure SQ (l : Bs) (d : Nat) (s : St) (x : List (T d)) (s1 : St) : Prop where
  can : Canon d x
  nodes : s1.nodes = s.nodes + (x.map (cnt d)).sum
  le : s1.nodes ≤ 4096
  op : s1.op = s.op
  at_ : s1.at_ ≤ l.length
def SibSp (l : Bs) (d : Nat) : Prop := ∀ (s : St), s.at_ ≤ l.length → s.nodes ≤ 4096 → s.op + d = 64 → match sibP l d s with
  | .inl (x, s1) => SQ l d s x s1
  | .inr (p, e) => p ≤ l.length

theorem wordsP_spec {l : Bs} {s s1 : St} {t : Bs} (h : wordsP l s = .inl (t, s1)) (hat : s.at_ ≤ l.length) (hn : s.nodes ≤ 4096) : (tans t).2 = 0 ∧ WQ s [] t s1 := by
  obtain ⟨h1, h2⟩ := words_vx _ _ _ _ _ h hat Vx.nil (by simp) hn
  exact ⟨h1.tans h2.len, h2⟩
/-- Where a text's reading ends. -/
theorem wordsF_at {l : Bs} : ∀ (k : Nat) (s s1 : St) (out t : Bs), wordsF l k s out = .inl (t, s1) → s.at_ ≤ l.length → out.length ≤ 16384 → s1.at_ ≤ l.length
  | 0, s, s1, out, t, h, hat, hl => by rw [wordsF] at h; cases h; exact hat
  | k + 1, s, s1, out, t, h, hat, hl => by
    rw [wordsF] at h
    cases hg : l[s.at_]? with
    | none => rw [hg] at h; cases h; exact hat
    | some b =>
      rw [hg] at h
      simp only at h
      split at h
      · cases hlt : letterP l s with
        | inr q => obtain ⟨p2, e2⟩ := q; rw [hlt] at h; simp at h
        | inl q =>
          obtain ⟨x, s2⟩ := q
          rw [hlt] at h
          simp only at h
          obtain ⟨-, y1, y2, y3, -⟩ := letterP_ok hlt
          cases hp : putP s2 out x s.at_ with
          | inr q => obtain ⟨p2, e2⟩ := q; rw [hp] at h; simp at h
          | inl q =>
            obtain ⟨o3, s3⟩ := q
            rw [hp] at h
            obtain ⟨p1, p2, p3, p4, p5, p6⟩ := put_ok hp
            exact wordsF_at k s3 s1 o3 t h (by rw [p3]; exact y1) p2
      · split at h
        · rename_i hs4
          cases hsk : skipP l 4 [45, 45, 62] s with
          | inr q => obtain ⟨p2, e2⟩ := q; rw [hsk] at h; simp at h
          | inl q =>
            obtain ⟨x, s2⟩ := q
            rw [hsk] at h
            obtain ⟨rfl, z2, -⟩ := skipP_ok hsk (seesP_le hs4 (by simp))
            exact wordsF_at k _ s1 out t h z2 hl
        · split at h
          · rename_i hs2
            cases hsk : skipP l 2 [63, 62] s with
            | inr q => obtain ⟨p2, e2⟩ := q; rw [hsk] at h; simp at h
            | inl q =>
              obtain ⟨x, s2⟩ := q
              rw [hsk] at h
              obtain ⟨rfl, z2, -⟩ := skipP_ok hsk (seesP_le hs2 (by simp))
              exact wordsF_at k _ s1 out t h z2 hl
          · split at h
            · rename_i hs9
              have h9 := seesP_le hs9 (by simp)
              cases hr : rawP l s out with
              | inr q => obtain ⟨p2, e2⟩ := q; rw [hr] at h; simp at h
              | inl q =>
                obtain ⟨o2, s2⟩ := q
                rw [hr] at h
                have hok := rawP_ok hl (by simpa using h9) hr
                exact wordsF_at k s2 s1 o2 t h hok.2.1 hok.2.2.2.2
            · cases ht : tagP l s with
              | inr q => obtain ⟨p2, e2⟩ := q; rw [ht] at h; simp at h
              | inl q =>
                obtain ⟨u, s2⟩ := q
                rw [ht] at h
                cases h
                rw [tagP_ok ht]; exact hat

end Go.Proofs.YtmifejkddgcbmaaGreat

/- What Parse makes, in plain: the forest. -/
namespace Go.Proofs.YtmifejkddgcbmaaGreat
open Go.RowKit
set_option linter.unusedVariables false
set_option linter.unusedSimpArgs false

def EQ (l : Bs) (d : Nat) (s : St) (t : T (d + 1)) (s1 : St) : Prop := canT (d + 1) t ∧ okD (d + 1) (d + 1) t ∧ t.kind ≠ 2 ∧ s1.nodes = s.nodes + cnt (d + 1) t ∧ s1.nodes ≤ 4096 ∧ s1.op = s.op ∧ s1.at_ ≤ l.length

theorem elem_spec {l : Bs} {d : Nat} (ih : SibSp l d) (s : St) (hat : s.at_ < l.length) (hn : s.nodes ≤ 4096) (hop : s.op + (d + 1) = 64) : match elemP l (sibP l d) s with
    | .inl (t, s1) => EQ l d s t s1
    | .inr (p, e) => p ≤ l.length := by
  unfold elemP
  cases hb : beginP s s.at_ with
  | inr q =>
    obtain ⟨p, e⟩ := q
    unfold beginP at hb
    split at hb
    · cases hb; simp only; omega
    · simp at hb
  | inl q =>
    obtain ⟨u, s1⟩ := q
    have hs1 : s1 = { s with nodes := s.nodes + 1 } ∧ s.nodes ≠ 4096 := by
      unfold beginP at hb
      split at hb
      · simp at hb
      · rename_i hc; cases hb; exact ⟨rfl, fun e => hc (.inl e)⟩
    obtain ⟨rfl, hn1⟩ := hs1
    simp only
    cases hnm : nameP l { s with at_ := s.at_ + 1, nodes := s.nodes + 1 } with
    | inr q => obtain ⟨p, e⟩ := q; simp only; rw [name_bad hnm]; simp only; omega
    | inl q =>
      obtain ⟨n, s2⟩ := q
      simp only
      obtain ⟨rfl, -, hnl, n4, -⟩ := nameP_ok hnm
      simp only at n4
      cases hat2 : attrsP l { s with at_ := s.at_ + 1 + n.length, nodes := s.nodes + 1 } with
      | inr q => obtain ⟨p, e⟩ := q; exact attrsF_bad _ _ _ _ _ hat2 n4 (by simp)
      | inl q =>
        obtain ⟨a, s3⟩ := q
        simp only
        have hae : attrsE a = 0 := attrsF_vx _ _ _ _ _ hat2 n4 (by simp) List.Pairwise.nil (fun p hp => by simp at hp) (Nat.le_refl _)
        obtain ⟨a1, a2, a3, a4, a5⟩ := attrsP_ok hat2 n4
        simp only at a3 a4
        have hownE : ∀ x : List (T d), ownE (elT n a x : T (d + 1)) = 0 := fun x => by
          show (if (1 : Int) = 1 then _ else _) = _
          rw [if_pos rfl]
          show (if nameL n = true then attrsE a else 6) = 0
          rw [if_pos hnl]; exact hae
        cases hg : l[s3.at_]? with
        | none => exact a2
        | some b =>
          have hlt3 := get_lt hg
          simp only
          by_cases hb47 : b = 47
          · rw [if_pos hb47]
            cases hx : expectP l 62 { s3 with at_ := s3.at_ + 1 } with
            | inr q => obtain ⟨p, e⟩ := q; simp only; rw [expect_bad hx]; simp only; omega
            | inl q =>
              obtain ⟨u2, s4⟩ := q
              simp only
              obtain ⟨rfl, x2⟩ := expectP_ok hx
              simp only at x2
              refine ⟨.inr ⟨rfl, rfl, fun k hk => by simp [elT] at hk, trivial⟩, ⟨by omega, hownE [], fun k hk => ?_⟩, by show (1 : Int) ≠ 2; decide, ?_, ?_, a4, x2⟩
              · simp [kidsT, elT] at hk
              · show s3.nodes = s.nodes + (1 + 0)
                rw [a3]
              · show s3.nodes ≤ 4096
                omega
          · rw [if_neg hb47]
            cases hx : expectP l 62 s3 with
            | inr q => obtain ⟨p, e⟩ := q; simp only; rw [expect_bad hx]; exact a2
            | inl q =>
              obtain ⟨u2, s4⟩ := q
              simp only
              obtain ⟨rfl, x2⟩ := expectP_ok hx
              have hs := ih { s3 with at_ := s3.at_ + 1, op := s3.op + 1 } x2 (by simp only; omega) (by simp only; omega)
              cases hsb : sibP l d { s3 with at_ := s3.at_ + 1, op := s3.op + 1 } with
              | inr q => obtain ⟨p, e⟩ := q; rw [hsb] at hs; exact hs
              | inl q =>
                obtain ⟨x, s5⟩ := q
                rw [hsb] at hs
                simp only at hs ⊢
                have hs5o := hs.op
                simp only at hs5o
                cases he : endP l n { s5 with op := s5.op - 1 } with
                | inr q => obtain ⟨p, e⟩ := q; exact endP_bad he hs.at_
                | inl q =>
                  obtain ⟨u3, s6⟩ := q
                  simp only
                  obtain ⟨e1, e2, e3⟩ := endP_le he
                  simp only at e1 e2
                  have hsn := hs.nodes
                  simp only at hsn
                  have hkT : kidsT (elT n a x : T (d + 1)) = x := if_pos rfl
                  refine ⟨.inr ⟨rfl, rfl, fun k hk => (hs.can.1 k hk).1, hs.can.2⟩, ⟨by omega, hownE x, fun k hk => ?_⟩, by show (1 : Int) ≠ 2; decide, ?_, by rw [e1]; exact hs.le, by rw [e2, hs5o]; omega, e3⟩
                  · rw [hkT] at hk
                    exact (hs.can.1 k hk).2
                  · rw [cnt, hkT, e1, hsn, a3]
                    omega

/-- The last one is no text. -/
def lastEl (n : Nat) (A : List (T n)) : Prop := ∀ t, A.getLast? = some t → kindT n t ≠ 2
theorem noTwo_snoc {n : Nat} : ∀ (A : List (T n)) (x : T n), noTwo n A → (kindT n x ≠ 2 ∨ lastEl n A) → noTwo n (A ++ [x])
  | [], x, _, _ => trivial
  | [a], x, _, h => ⟨fun e => by
    rcases h with h | h
    · exact h e.2
    · exact h a rfl e.1, trivial⟩
  | a :: b :: r, x, hn, h => by
    refine ⟨hn.1, noTwo_snoc (b :: r) x hn.2 ?_⟩
    rcases h with h | h
    · exact .inl h
    · exact .inr (fun t ht => h t (by simpa using ht))
theorem Canon.snoc {n : Nat} {A : List (T n)} {x : T n} (h : Canon n A) (hc : canT n x) (ho : okD n n x) (hk : kindT n x ≠ 2 ∨ lastEl n A) : Canon n (A ++ [x]) := by
  refine ⟨fun t ht => ?_, noTwo_snoc A x h.2 hk⟩
  rcases List.mem_append.1 ht with ht | ht
  · exact h.1 t ht
  · simp at ht; subst ht; exact ⟨hc, ho⟩

theorem txt_can {d : Nat} {t : Bs} (ht : (tans t).2 = 0) (hn : t ≠ []) : canT (d + 1) (txtT t : T (d + 1)) ∧ okD (d + 1) (d + 1) (txtT t : T (d + 1)) ∧ cnt (d + 1) (txtT t : T (d + 1)) = 1 := by
  have hkT : kidsT (txtT t : T (d + 1)) = [] := by
    show (if (2 : Int) = 1 then _ else _) = _
    rw [if_neg (by decide)]
  refine ⟨.inl ⟨rfl, rfl, hn⟩, ⟨by omega, ?_, fun k hk => by rw [hkT] at hk; simp at hk⟩, by rw [cnt, hkT]; rfl⟩
  show (if (2 : Int) = 1 then _ else if (2 : Int) = 2 then (tans t).2 else 1) = 0
  rw [if_neg (by decide), if_pos rfl]
  exact ht

theorem sibF_spec {l : Bs} {d : Nat} (ih : SibSp l d) : ∀ (k : Nat) (s : St) (acc : List (T (d + 1))), s.at_ ≤ l.length → s.nodes ≤ 4096 → s.op + (d + 1) = 64 → Canon (d + 1) acc → lastEl (d + 1) acc → match sibF l (elemP l (sibP l d)) k s acc with
    | .inl (x, s1) => Canon (d + 1) x ∧ s1.nodes + (acc.map (cnt (d + 1))).sum = s.nodes + (x.map (cnt (d + 1))).sum ∧ s1.nodes ≤ 4096 ∧ s1.op = s.op ∧ s1.at_ ≤ l.length
    | .inr (p, e) => p ≤ l.length
  | 0, s, acc, hat, hn, hop, hc, hla => ⟨hc, rfl, hn, rfl, hat⟩
  | k + 1, s, acc, hat, hn, hop, hc, hla => by
    rw [sibF]
    cases hw : wordsP l s with
    | inr q => obtain ⟨p, e⟩ := q; exact words_bad _ _ _ _ _ hw hat (by simp)
    | inl q =>
      obtain ⟨t, s1⟩ := q
      obtain ⟨htt, hwq⟩ := wordsP_spec hw hat hn
      have hat1 := wordsF_at _ _ _ _ _ hw hat (by simp)
      simp only
      have hacc : Canon (d + 1) (if t = [] then acc else acc ++ [txtT t]) ∧ s1.nodes + (acc.map (cnt (d + 1))).sum = s.nodes + ((if t = [] then acc else acc ++ [txtT t]).map (cnt (d + 1))).sum := by
        have h0 := hwq.nodes
        by_cases ht : t = []
        · rw [if_pos ht]
          refine ⟨hc, ?_⟩
          simp [ht] at h0
          omega
        · rw [if_neg ht]
          obtain ⟨c1, c2, c3⟩ := txt_can (d := d) htt ht
          refine ⟨hc.snoc c1 c2 (.inr hla), ?_⟩
          rw [List.map_append, List.sum_append]
          simp [ht] at h0
          simp only [List.map_cons, List.map_nil, List.sum_cons, List.sum_nil, c3]
          omega
      generalize (if t = [] then acc else acc ++ [txtT t]) = acc2 at hacc ⊢
      by_cases hend : s1.at_ = l.length ∨ seesP l [60, 47] s1.at_ = true
      · rw [if_pos hend]
        exact ⟨hacc.1, hacc.2, hwq.le, hwq.op, hat1⟩
      · rw [if_neg hend]
        have hlt1 : s1.at_ < l.length := by
          rcases Nat.lt_or_ge s1.at_ l.length with h | h
          · exact h
          · exact absurd (.inl (by omega)) hend
        have hes := elem_spec ih s1 hlt1 hwq.le (by rw [hwq.op]; exact hop)
        cases hel : elemP l (sibP l d) s1 with
        | inr q => obtain ⟨p, e⟩ := q; rw [hel] at hes; exact hes
        | inl q =>
          obtain ⟨x, s2⟩ := q
          rw [hel] at hes
          obtain ⟨x1, x2, x3, x4, x5, x6, x7⟩ := hes
          simp only
          have hrec := sibF_spec ih k s2 (acc2 ++ [x]) x7 x5 (by rw [x6, hwq.op]; exact hop) (hacc.1.snoc x1 x2 (.inl x3)) (fun t ht => by simp at ht; subst ht; exact x3)
          cases hr : sibF l (elemP l (sibP l d)) k s2 (acc2 ++ [x]) with
          | inr q => obtain ⟨p, e⟩ := q; rw [hr] at hrec; exact hrec
          | inl q =>
            obtain ⟨y, s3⟩ := q
            rw [hr] at hrec
            obtain ⟨r1, r2, r3, r4, r5⟩ := hrec
            refine ⟨r1, ?_, r3, by rw [r4, x6, hwq.op], r5⟩
            rw [List.map_append, List.sum_append] at r2
            simp only [List.map_cons, List.map_nil, List.sum_cons, List.sum_nil] at r2
            have := hacc.2
            omega

theorem sib_spec (l : Bs) : ∀ d, SibSp l d
  | 0 => fun s hat hn hop => by
    rw [sibP]
    cases hw : wordsP l s with
    | inr q => obtain ⟨p, e⟩ := q; exact words_bad _ _ _ _ _ hw hat (by simp)
    | inl q =>
      obtain ⟨t, s1⟩ := q
      obtain ⟨htt, hwq⟩ := wordsP_spec hw hat hn
      have hat1 := wordsF_at _ _ _ _ _ hw hat (by simp)
      have ht : t = [] := by
        cases t with
        | nil => rfl
        | cons b r => exact absurd (by omega) (hwq.top rfl (by simp))
      have h0 := hwq.nodes
      simp [ht] at h0
      simp only
      split
      · rename_i y s2 hy
        split at hy
        · cases hy
          exact ⟨⟨fun t ht => by simp at ht, trivial⟩, by simp; exact h0, hwq.le, hwq.op, hat1⟩
        · simp at hy
      · rename_i p e hy
        split at hy
        · simp at hy
        · cases hy; exact hat1
  | d + 1 => fun s hat hn hop => by
    have h := sibF_spec (sib_spec l d) (l.length - s.at_ + 1) s [] hat hn hop ⟨fun t ht => by simp at ht, trivial⟩ (fun t ht => by simp at ht)
    have hEq : sibP l (d + 1) s = sibF l (elemP l (sibP l d)) (l.length - s.at_ + 1) s [] := rfl
    rw [hEq]
    cases hr : sibF l (elemP l (sibP l d)) (l.length - s.at_ + 1) s [] with
    | inr q => obtain ⟨p, e⟩ := q; rw [hr] at h; exact h
    | inl q =>
      obtain ⟨x, s1⟩ := q
      rw [hr] at h
      obtain ⟨r1, r2, r3, r4, r5⟩ := h
      exact ⟨r1, by simpa using r2, r3, r4, r5⟩

/-- What Parse makes: a forest in its normal form that can be; or a fault within the text. -/
theorem parse_made (l : Bs) : match parseP l with
    | .inl L => Canon 64 L ∧ (L.map (cnt 64)).sum ≤ 4096
    | .inr (p, e) => p ≤ l.length := by
  have h := sib_spec l 64 ⟨0, 0, 0⟩ (by simp) (by simp) rfl
  unfold parseP
  by_cases hl : 262144 < l.length
  · rw [if_pos hl]; simp
  · rw [if_neg hl]
    unfold forestP
    cases hs : sibP l 64 ⟨0, 0, 0⟩ with
    | inr q => obtain ⟨p, e⟩ := q; rw [hs] at h; exact h
    | inl q =>
      obtain ⟨x, s⟩ := q
      rw [hs] at h
      have hn := h.nodes
      have hle := h.le
      simp only at hn ⊢
      by_cases hat : s.at_ < l.length
      · rw [if_pos hat]
        cases he : endP l [] s with
        | inr q => obtain ⟨p, e⟩ := q; exact endP_bad he h.at_
        | inl q => obtain ⟨u, s1⟩ := q; exact ⟨h.can, by omega⟩
      · rw [if_neg hat]
        exact ⟨h.can, by omega⟩

/-- A tree that can be is what Check lets by. -/
theorem chk_of : ∀ (n : Nat) (t : T n) (r : Nat) (d a : Int), okD n r t → d + r = 65 → a + cnt n t ≤ 4096 → chk n t d a = (a + cnt n t, 0)
  | 0, t, _, _, _, _, _, _ => (t : Empty).elim
  | n + 1, t, r, d, a, ho, hd, ha => by
    obtain ⟨h0, h1, h2⟩ := ho
    rw [cnt] at ha ⊢
    rw [chk, if_neg (by omega), if_pos h1]
    have hL : ∀ (L : List (T n)) (a : Int), (∀ k ∈ L, okD n (r - 1) k) → a + ((L.map (cnt n)).sum : Nat) ≤ 4096 → chkL (fun k x => chk n k (d + 1) x) L a = (a + ((L.map (cnt n)).sum : Nat), 0) := by
      intro L
      induction L with
      | nil => intro a _ _; simp [chkL]
      | cons k rr ih =>
        intro a hk hs
        rw [List.map_cons, List.sum_cons] at hs ⊢
        have hc := chk_of n k (r - 1) (d + 1) a (hk k (by simp)) (by omega) (by omega)
        rw [chkL, hc, if_pos rfl, ih _ (fun x hx => hk x (by simp [hx])) (by simp only; omega)]
        simp only [Prod.mk.injEq, and_true]
        omega
    rw [hL _ _ h2 (by omega)]
    simp only [Prod.mk.injEq, and_true]
    omega
theorem okD_mono : ∀ (n r r' : Nat) (t : T n), okD n r t → r ≤ r' → okD n r' t
  | 0, _, _, t, _, _ => (t : Empty).elim
  | n + 1, r, r', t, h, hr => ⟨by have := h.1; omega, h.2.1, fun k hk => okD_mono n (r - 1) (r' - 1) k (h.2.2 k hk) (by omega)⟩
theorem made_chk {L : List (T 64)} (h : Canon 64 L) (hn : (L.map (cnt 64)).sum ≤ 4096) : (∀ t ∈ L, (chk 64 t 1 0).2 = 0) ∧ forE 64 L = 0 := by
  have hm : ∀ (L : List (T 64)), (∀ t ∈ L, okD 64 64 t) → (L.map (cnt 64)).sum ≤ 4096 → (∀ t ∈ L, (chk 64 t 1 0).2 = 0) ∧ chkF 64 L = 0 := by
    intro L
    induction L with
    | nil => intro _ _; exact ⟨fun t ht => by simp at ht, rfl⟩
    | cons k r ih =>
      intro ho hs
      rw [List.map_cons, List.sum_cons] at hs
      have hc := chk_of 64 k 64 1 0 (ho k (by simp)) (by omega) (by omega)
      have h1 : (chk 64 k 1 0).2 = 0 := by rw [hc]
      obtain ⟨i1, i2⟩ := ih (fun x hx => ho x (by simp [hx])) (by omega)
      refine ⟨fun t ht => ?_, by rw [chkF, if_pos h1]; exact i2⟩
      rcases List.mem_cons.1 ht with rfl | ht
      · exact h1
      · exact i1 t ht
  obtain ⟨h1, h2⟩ := hm L (fun t ht => (h.1 t ht).2) hn
  exact ⟨h1, by unfold forE; rw [if_pos h2, if_neg (by omega)]⟩

end Go.Proofs.YtmifejkddgcbmaaGreat

/- Print of the program, whole. -/
namespace Go.Proofs.YtmifejkddgcbmaaGreat
open Go.RowKit
set_option linter.unusedVariables false
set_option linter.unusedSimpArgs false

set_option maxRecDepth 100000 in
set_option maxHeartbeats 2000000 in
theorem pstring_any {w : World} {B pb : Nat} {v : Value} {l : List UInt8} (h : Prn w B pb v l) :
    Calls Tryz.prog 28 #[.pointer (some ⟨pb, 0, none⟩)] w fun e w' => e = .returned (.string ⟨l.toArray⟩) ∧ Below B w w' := by
  obtain ⟨p, hp, hh⟩ := h.blk
  by_cases h0 : l = []
  · have hv := h.nl h0
    subst hv
    subst h0
    obtain ⟨c0, c1, hsh, f0, f1⟩ := cell_at hh
    have hSD : ∀ W : World, (Builtin.unsafeSliceData_ #[41] 82 #[.slice none 0 0]).run Tryz.prog W = .ok (.pointer none) W := fun W => rfl
    have hUS : ∀ W : World, (Builtin.unsafeString_ #[82, 3] 9 #[.pointer none, .int .i64 0]).run Tryz.prog W = .ok (.string .empty) W := fun W => Lib.run_unsafeString_none W _ _ _ _
    clear h hp hh hsh f0 f1 c0
    go_enter Tryz.func28, Tryz.ntmps28
    go_wp2
    go_region
    all_goals (go_wp2; go_ret; exact ⟨rfl, Below.drew (Below.refl B w)⟩)
  · have hl0 : l.length ≠ 0 := by simpa using h0
    obtain ⟨g, cap, cur, rfl, hbg, hg, hnc, hcm, hcs, htake⟩ : ∃ g cap cur, v = .slice (some ⟨g, 0, none⟩) l.length cap ∧ B ≤ g ∧ w.heap[g]? = some (.cells cur 5 (0, 0)) ∧ l.length ≤ cap ∧ cap ≤ maxLen ∧ cur.size = cap * 1 ∧ cur.toList.take (l.length * 1) = Lib.byteCells l := by
      rcases h.own.2 with ⟨_, hz⟩ | ⟨g, cap, cur, hv, r⟩
      · exact absurd hz hl0
      · exact ⟨g, cap, cur, hv, r⟩
    obtain ⟨c0, c1, hsh, f0, f1⟩ := cell_at hh
    have hcell : ∀ j x, l[j]? = some x → w.cell? ((⟨g, 0, none⟩ : Addr).add j) = some (.int .u8 x.toNat) := fun j x hx => h.own.cells (g := g) rfl j (.int .u8 x.toNat) (by simp [Lib.byteCells, hx])
    have hSD : (Builtin.unsafeSliceData_ #[41] 82 #[.slice (some ⟨g, 0, none⟩) l.length cap]).run Tryz.prog w.drew = .ok (.pointer (some ⟨g, 0, none⟩)) w.drew :=
      Lib.run_unsafeSliceData_row _ _ _ _ _ _ (by omega)
    have hUS : (Builtin.unsafeString_ #[82, 3] 9 #[.pointer (some ⟨g, 0, none⟩), .int .i64 l.length]).run Tryz.prog w.drew = .ok (.string ⟨l.toArray⟩) (w.drew.freeze ⟨g, 0, none⟩ l.length) :=
      Lib.run_unsafeString_row w.drew 82 3 9 5 Tryz.underlying82 (by kernel_rfl) g cur.size (by have hg' : w.drew.heap[g]? = some (.cells cur 5 (0, 0)) := hg; simp [World.shape?, hg']) l h0 (by omega) (by unfold maxLen at hcm; omega) hcell
    have HB : Hid (B ≤ g) := hbg
    clear h hp hh hsh f0 f1 c0 h0 hcell htake hcs hg hcm hnc hbg
    go_enter Tryz.func28, Tryz.ntmps28
    go_wp2
    go_region
    all_goals (go_wp2; go_ret; exact ⟨rfl, Lib.below_freeze (Below.drew (Below.refl B w)) (p := ⟨g, 0, none⟩) HB.out _⟩)

set_option maxRecDepth 100000 in
set_option maxHeartbeats 2000000 in
theorem print_any (n : Nat) (w : World) (lo : Nat) (ka : Option Addr) (L : List (T n)) (cap : Nat) (h : Tc.KidsAt w lo w.heap.size n ka L) (hl : L.length ≤ maxK) :
    Calls Tryz.prog 13 #[.slice ka L.length cap] w fun e w' => e = .returned (.tuple #[.string ⟨(printP n L).1.toArray⟩, .int .i64 (printP n L).2]) ∧ Below w.heap.size w w' := by
  have hck := check_f n w lo ka L cap h hl
  have HK : Hid (Tc.KidsAt w lo w.heap.size n ka L) := h
  by_cases h0 : forE n L = 0
  · have hcf : chkF n L = 0 := by
      unfold forE at h0
      split at h0
      · assumption
      · exact h0
    have HOK : Hid (∀ k ∈ L, okD n 64 k) := fun k hk => chk_okD n k 1 0 (chkF_mem L hcf k hk)
    have HPP : Hid (printP n L = if 262144 < (prF n L).length then ([], 2) else (prF n L, 0)) := by show printP n L = _; unfold printP; rw [if_pos h0]
    rw [h0] at hck
    have HL : Hid (L.length ≤ maxK) := hl
    clear h h0 hcf hl
    go_enter Tryz.func13, Tryz.ntmps13
    go_wp2_with fail
    refine hck.mono ?_
    rintro e w1 ⟨rfl, hb1⟩
    have HB1 : Hid (Below w.heap.size w w1) := hb1
    have hs1 := hb1.size
    obtain ⟨w2, hw2⟩ : ∃ w2, w2 = w1.alloc (.cells #[.pointer none, .slice none 0 0] 61) := ⟨_, rfl⟩
    have hp2 : Prn w2 w1.heap.size w1.heap.size (.slice none 0 0) [] := by
      rw [hw2]
      exact ⟨⟨_, .inl rfl, heap_alloc_new w1 _⟩, ⟨rfl, .inl ⟨rfl, rfl⟩⟩, by simp [Value.ownBlock], fun _ => rfl, Nat.le_refl _⟩
    have HB2 : Hid (Below w.heap.size w w2) := by rw [hw2]; exact hb1.alloc hs1 _
    have HB12 : Hid (Below w1.heap.size w1 w2) := by rw [hw2]; exact (Below.refl _ _).alloc (Nat.le_refl _) _
    have hk2 : Tc.KidsAt w2 lo w1.heap.size n ka L := fun i k hk => by
      obtain ⟨b, o, u, g1, g2, g3, g4, g5, g6⟩ := HK.out i k hk
      exact ⟨b, o, u, g1, g2, by omega, g4, fun j hj => (HB2.out.cell (p := ⟨b, _, none⟩) g3).trans (g5 j hj), (g6.below HB2.out (Nat.le_refl _)).mono (Nat.le_refl _) hs1⟩
    have hsb := sib_pr_all n w2 w1.heap.size w1.heap.size _ [] lo ka L cap 64 hp2 hk2 HL.out HOK.out (by simp) (by omega)
    have HW2 : Hid (w2 = w1.alloc (.cells #[.pointer none, .slice none 0 0] 61)) := hw2
    clear hck hb1 hw2 hp2 hk2
    go_upto_region 5 with fail
    rw [← HW2.out]
    clear HW2
    go_wp2_with fail
    refine hsb.mono ?_
    rintro e w3 ⟨rfl, l3, ⟨v3, p3, t3, q3⟩, hpr, hl3⟩
    have HB3 : Hid (Below w1.heap.size w1 w3) := HB12.out.trans (t3.below (by have := HB12.out.size; omega) (fun k hk => by
      rcases hk with rfl | hk
      · exact Nat.le_refl _
      · simp [Value.ownBlock] at hk))
    have hln := plen_any p3
    have HPR : Hid (Prints [] (prF n L) l3) := hpr
    have hst := pstring_any p3
    clear hsb t3 q3 hpr p3
    by_cases hf : 262144 < l3.length
    · have t1 : (262144 : Int) < (l3.length : Int) := by omega
      have HE : Hid (printP n L = ([], 2)) := by
        show _ = _
        rw [HPP.out, if_pos]
        rcases HPR.out with h | h
        · rw [h] at hf; simpa using hf
        · simpa using h.2
      clear hst
      go_wp2_with fail
      refine hln.mono ?_
      rintro e w4 ⟨rfl, hw⟩
      obtain rfl := hw.symm
      go_wp2
      go_ret2
      exact ⟨by rw [HE.out]; rfl, HB1.out.trans (HB3.out.mono hs1)⟩
    · have t1 : ¬ (262144 : Int) < (l3.length : Int) := by omega
      have hle : l3 = prF n L := by have := HPR.out.not hf; simpa using this
      have HE : Hid (printP n L = (l3, 0)) := by
        show _ = _
        rw [HPP.out, ← hle, if_neg hf]
      clear hle
      go_wp2_with fail
      refine hln.mono ?_
      rintro e w4 ⟨rfl, hw⟩
      obtain rfl := hw.symm
      clear hln
      go_wp2_with fail
      refine hst.mono ?_
      rintro e w5 ⟨rfl, hb5⟩
      have HB5 : Hid (Below w1.heap.size w3 w5) := hb5
      clear hst hb5
      go_wp2
      go_ret2
      exact ⟨by rw [HE.out]; rfl, HB1.out.trans ((HB3.out.trans HB5.out).mono hs1)⟩
  · have HE : Hid (printP n L = ([], forE n L)) := by show printP n L = _; unfold printP; rw [if_neg h0]
    have hb : (forE n L != 0) = true := by simpa using h0
    clear h h0 hl
    generalize forE n L = z at *
    go_enter Tryz.func13, Tryz.ntmps13
    go_wp2_with fail
    refine hck.mono ?_
    rintro e w1 ⟨rfl, hb1⟩
    go_wp2
    go_ret2
    exact ⟨by rw [HE.out]; rfl, hb1⟩

end Go.Proofs.YtmifejkddgcbmaaGreat
