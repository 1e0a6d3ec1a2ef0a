/- What Parse makes, in plain: texts, values, names that can be; a fault's place lies within the text. -/
import Derived.Test.YtmifejkddgcbmabGreatA27
import Derived.Test.YtmifejkddgcbmabGreatA23
namespace Go.Proofs.YtmifejkddgcbmabGreat
open Go.RowKit
set_option linter.unusedVariables false
set_option linter.unusedSimpArgs false

/-- Whole characters that can be. -/
def Vx (x : Bs) : Prop := ∃ rs, x = bytes rs ∧ ∀ r ∈ rs, Ch r
theorem Vx.nil : Vx [] := ⟨[], rfl, fun r h => by simp at h⟩
theorem Vx.enc {r : Nat} (h : Ch r) : Vx (enc r) := ⟨[r], by simp [bytes], fun x hx => by simp at hx; subst hx; exact h⟩
theorem Vx.append {x y : Bs} (hx : Vx x) (hy : Vx y) : Vx (x ++ y) := by
  obtain ⟨a, rfl, ha⟩ := hx
  obtain ⟨b, rfl, hb⟩ := hy
  refine ⟨a ++ b, by rw [bytes_append], fun r hr => ?_⟩
  rcases List.mem_append.1 hr with h | h
  · exact ha r h
  · exact hb r h
theorem Vx.tans {x : Bs} (hx : Vx x) (hl : x.length ≤ 16384) : (tans x).2 = 0 := by
  obtain ⟨rs, rfl, h⟩ := hx
  have hs := scan_of (rest := []) h first_nil
  rw [List.append_nil] at hs
  unfold Go.Proofs.YtmifejkddgcbmabGreat.tans
  rw [if_neg (by omega)]
  unfold bans
  rw [hs, if_pos rfl]

theorem unF_vx : ∀ (k : Nat) (l acc : Bs) (pos : Nat), (unF k l acc pos).2.2 = 0 → Vx acc → Vx (unF k l acc pos).1 ∧ (acc ≠ [] ∨ (l ≠ [] ∧ 0 < k) → (unF k l acc pos).1 ≠ [])
  | 0, l, acc, pos, _, ha => ⟨ha, fun h => by
    rcases h with h | h
    · exact h
    · omega⟩
  | k + 1, l, acc, pos, h, ha => by
    rw [unF] at h ⊢
    by_cases hl : l = []
    · rw [if_pos hl] at h ⊢
      exact ⟨ha, fun h => by
        rcases h with h | h
        · exact h
        · exact absurd hl h.1⟩
    · rw [if_neg hl] at h ⊢
      by_cases hn : (nextP l).2.2 ≠ 0
      · rw [if_pos hn] at h
        exact absurd h hn
      · rw [if_neg hn] at h ⊢
        split at h
        · simp at h
        · rename_i h3
          rw [if_neg h3]
          obtain ⟨R, n, hR, hc, -⟩ := nextP_ok (Decidable.not_not.1 hn)
          have e1 : (nextP l).1.toNat = R := by rw [hR]; simp
          rw [e1] at h ⊢
          have hne : acc ++ enc R ≠ [] := fun e => enc_ne (List.append_eq_nil_iff.1 e).2
          obtain ⟨i1, i2⟩ := unF_vx k _ (acc ++ enc R) _ h (ha.append (Vx.enc hc))
          exact ⟨i1, fun _ => i2 (.inl hne)⟩

theorem letter_vx {l : Bs} {s s1 : St} {x : Bs} (h : letterP l s = .inl (x, s1)) : Vx x ∧ x ≠ [] := by
  unfold letterP at h
  split at h
  · simp at h
  · rename_i b r hd
    split at h
    · split at h
      · rename_i h0
        cases h
        have hne : refOf (b :: r) ≠ [] := fun e => by
          have := refOf_pos (r := b :: r) (by simp)
          rw [e] at this; simp at this
        have := unF_vx _ _ _ _ h0 Vx.nil
        exact ⟨this.1, this.2 (.inr ⟨hne, List.length_pos_iff.2 hne⟩)⟩
      · simp at h
    · split at h
      · rename_i q n hf
        cases h
        obtain ⟨hc, hn, t, ht⟩ := first_some hf
        rw [hn, ht, List.take_left]
        exact ⟨Vx.enc hc, enc_ne⟩
      · simp at h
theorem letter_bad {l : Bs} {s : St} {p : Nat} {e : Int} (h : letterP l s = .inr (p, e)) : p = s.at_ := by
  unfold letterP at h
  split at h
  · cases h; rfl
  · split at h
    · split at h
      · simp at h
      · cases h; rfl
    · split at h
      · simp at h
      · cases h; rfl
theorem put_ok {s s1 : St} {out x o : Bs} {a : Nat} (h : putP s out x a = .inl (o, s1)) : o = out ++ x ∧ o.length ≤ 16384 ∧ s1.at_ = s.at_ ∧ s1.op = s.op ∧ s1.nodes = s.nodes + (if out = [] then 1 else 0) ∧ (out = [] → s.nodes ≠ 4096 ∧ s.op ≠ 64) := by
  unfold putP at h
  by_cases ho : out = []
  · rw [if_pos ho] at h
    unfold beginP at h
    split at h
    · rename_i x1 x2 hb
      split at hb
      · simp at hb
      · rename_i hc
        cases hb
        unfold growP at h
        split at h
        · simp at h
        · rename_i hl
          cases h
          refine ⟨rfl, by rw [List.length_append]; omega, rfl, rfl, by simp [ho], fun _ => ⟨fun e => hc (.inl e), fun e => hc (.inr e)⟩⟩
    · simp at h
  · rw [if_neg ho] at h
    unfold growP at h
    split at h
    · simp at h
    · rename_i hl
      cases h
      exact ⟨rfl, by rw [List.length_append]; omega, rfl, rfl, by simp [ho], fun e => absurd e ho⟩
theorem put_bad {s : St} {out x : Bs} {a p : Nat} {e : Int} (h : putP s out x a = .inr (p, e)) : p = a := by
  unfold putP at h
  by_cases ho : out = []
  · rw [if_pos ho] at h
    unfold beginP at h
    split at h
    · unfold growP at h
      split at h
      · cases h; rfl
      · simp at h
    · rename_i hb
      split at hb
      · cases hb; cases h; rfl
      · simp at hb
  · rw [if_neg ho] at h
    unfold growP at h
    split at h
    · cases h; rfl
    · simp at h

/-- What a text that is read has made: from s and out to s1 and t. -/
structure WQ (s : St) (out t : Bs) (s1 : St) : Prop where
  len : t.length ≤ 16384
  op : s1.op = s.op
  nodes : s1.nodes = s.nodes + (if out = [] ∧ t ≠ [] then 1 else 0)
  le : s1.nodes ≤ 4096
  ne : out ≠ [] → t ≠ []
  top : out = [] → t ≠ [] → s.op ≠ 64
theorem WQ.refl {s : St} {out : Bs} (hl : out.length ≤ 16384) (hn : s.nodes ≤ 4096) : WQ s out out s :=
  ⟨hl, rfl, by by_cases h : out = [] <;> simp [h], hn, fun h => h, fun h h2 => absurd h h2⟩
/-- Something more was put, then the rest read. -/
theorem WQ.after {s s1 s2 s3 : St} {out x o t : Bs} {a : Nat} (hx : x ≠ []) (hp : putP s1 out x a = .inl (o, s2)) (h1 : s1.nodes = s.nodes) (h2 : s1.op = s.op) (h : WQ s2 o t s3) : WQ s out t s3 := by
  obtain ⟨p1, p2, p3, p4, p5, p6⟩ := put_ok hp
  have ho : o ≠ [] := fun e => hx (List.append_eq_nil_iff.1 (p1.symm.trans e)).2
  have ht := h.ne ho
  have hn := h.nodes
  rw [if_neg (fun e => ho e.1)] at hn
  refine ⟨h.len, h.op.trans (p4.trans h2), ?_, h.le, fun _ => ht, fun e _ => by rw [← h2]; exact (p6 e).2⟩
  rw [hn, p5, h1]
  by_cases e : out = []
  · simp [e, ht]
  · simp [e]
theorem put_nodes {s1 s2 : St} {out x o : Bs} {a : Nat} (hp : putP s1 out x a = .inl (o, s2)) (hn : s1.nodes ≤ 4096) : s2.nodes ≤ 4096 := by
  obtain ⟨-, -, -, -, p5, p6⟩ := put_ok hp
  by_cases e : out = []
  · have := (p6 e).1
    rw [p5, if_pos e]; omega
  · rw [p5, if_neg e]; omega

theorem puts_ok : ∀ (x : Bs) (s s1 : St) (out o : Bs) (a : Nat), putsP s out x a = .inl (o, s1) → out.length ≤ 16384 → s.nodes ≤ 4096 → o = out ++ x ∧ s1.at_ = s.at_ ∧ WQ s out o s1
  | [], s, s1, out, o, a, h, hl, hn => by
    rw [putsP] at h
    cases h
    exact ⟨by simp, rfl, WQ.refl hl hn⟩
  | b :: r, s, s1, out, o, a, h, hl, hn => by
    rw [putsP] at h
    cases hp : putP s out [b] a with
    | inr q => obtain ⟨p, e⟩ := q; rw [hp] at h; simp at h
    | inl q =>
      obtain ⟨o2, s2⟩ := q
      rw [hp] at h
      simp only at h
      obtain ⟨p1, p2, p3, p4, p5, p6⟩ := put_ok hp
      obtain ⟨i1, i2, i3⟩ := puts_ok r s2 s1 o2 o (a + 1) h p2 (put_nodes hp hn)
      exact ⟨by rw [i1, p1]; simp, i2.trans p3, WQ.after (by simp) hp rfl rfl i3⟩
theorem puts_bad : ∀ (x : Bs) (s : St) (out : Bs) (a p : Nat) (e : Int), putsP s out x a = .inr (p, e) → p ≤ a + x.length
  | [], s, out, a, p, e, h => by rw [putsP] at h; simp at h
  | b :: r, s, out, a, p, e, h => by
    rw [putsP] at h
    cases hp : putP s out [b] a with
    | inr q =>
      obtain ⟨p2, e2⟩ := q
      rw [hp] at h
      cases h
      rw [put_bad hp]; omega
    | inl q =>
      obtain ⟨o2, s2⟩ := q
      rw [hp] at h
      have := puts_bad r s2 o2 (a + 1) p e h
      rw [List.length_cons]; omega

theorem rawF_vx : ∀ (k : Nat) (s s1 : St) (out x o : Bs) (a : Nat), rawF k s out x a = .inl (o, s1) → x.length ≤ k → Vx out → out.length ≤ 16384 → s.nodes ≤ 4096 → Vx o ∧ WQ s out o s1
  | 0, s, s1, out, x, o, a, h, hk, hv, hl, hn => by
    rw [rawF] at h
    cases h
    exact ⟨hv, WQ.refl hl hn⟩
  | k + 1, s, s1, out, x, o, a, h, hk, hv, hl, hn => by
    rw [rawF] at h
    by_cases hx : x = []
    · rw [if_pos hx] at h
      cases h
      exact ⟨hv, WQ.refl hl hn⟩
    · rw [if_neg hx] at h
      cases hf : first x with
      | none => rw [hf] at h; simp at h
      | some q =>
        obtain ⟨r, n⟩ := q
        rw [hf] at h
        simp only at h
        obtain ⟨hc, hn2, t, ht⟩ := first_some hf
        have htake : x.take n = enc r := by rw [hn2, ht, List.take_left]
        rw [htake] at h
        cases hp : putsP s out (enc r) a with
        | inr q => obtain ⟨p, e⟩ := q; rw [hp] at h; simp at h
        | inl q =>
          obtain ⟨o2, s2⟩ := q
          rw [hp] at h
          simp only at h
          obtain ⟨i1, i2, i3⟩ := puts_ok _ _ _ _ _ _ hp hl hn
          have ho2 : o2 ≠ [] := fun e => enc_ne (List.append_eq_nil_iff.1 (i1.symm.trans e)).2
          obtain ⟨j1, j2⟩ := rawF_vx k s2 s1 o2 (x.drop n) o (a + n) h (by
            have := enc_pos r
            rw [List.length_drop]
            rw [← hn2] at this
            have : 0 < x.length := List.length_pos_iff.2 hx
            omega) (by rw [i1]; exact hv.append (Vx.enc hc)) i3.len i3.le
          refine ⟨j1, j2.len, j2.op.trans i3.op, ?_, j2.le, fun _ => j2.ne ho2, fun e _ => i3.top e ho2⟩
          have hne := j2.ne ho2
          have h1 := j2.nodes
          have h2 := i3.nodes
          rw [if_neg (fun e => ho2 e.1)] at h1
          rw [h1, h2]
          by_cases e : out = [] <;> simp [e, ho2, hne]
theorem rawF_bad' : ∀ (k : Nat) (s : St) (out x : Bs) (a p : Nat) (e : Int), rawF k s out x a = .inr (p, e) → p ≤ a + x.length
  | 0, s, out, x, a, p, e, h => by rw [rawF] at h; simp at h
  | k + 1, s, out, x, a, p, e, h => by
    rw [rawF] at h
    by_cases hx : x = []
    · rw [if_pos hx] at h; simp at h
    · rw [if_neg hx] at h
      cases hf : first x with
      | none => rw [hf] at h; cases h; omega
      | some q =>
        obtain ⟨r, n⟩ := q
        rw [hf] at h
        simp only at h
        obtain ⟨hc, hn2, t, ht⟩ := first_some hf
        have hnl : n ≤ x.length := by rw [ht, List.length_append, ← hn2]; omega
        cases hp : putsP s out (x.take n) a with
        | inr q =>
          obtain ⟨p2, e2⟩ := q
          rw [hp] at h
          cases h
          have := puts_bad _ _ _ _ _ _ hp
          rw [List.length_take] at this
          omega
        | inl q =>
          obtain ⟨o2, s2⟩ := q
          rw [hp] at h
          have := rawF_bad' k s2 o2 (x.drop n) (a + n) p e h
          rw [List.length_drop] at this
          omega

theorem skip_bad {l : Bs} {n : Nat} {q : Bs} {s : St} {p : Nat} {e : Int} (h : skipP l n q s = .inr (p, e)) : p = s.at_ := by
  unfold skipP at h
  split at h
  · cases h; rfl
  · simp at h

theorem words_vx {l : Bs} : ∀ (k : Nat) (s s1 : St) (out t : Bs), wordsF l k s out = .inl (t, s1) → s.at_ ≤ l.length → Vx out → out.length ≤ 16384 → s.nodes ≤ 4096 → Vx t ∧ WQ s out t s1
  | 0, s, s1, out, t, h, hat, hv, hl, hn => by
    rw [wordsF] at h
    cases h
    exact ⟨hv, WQ.refl hl hn⟩
  | k + 1, s, s1, out, t, h, hat, hv, hl, hn => by
    rw [wordsF] at h
    cases hg : l[s.at_]? with
    | none => rw [hg] at h; cases h; exact ⟨hv, WQ.refl hl hn⟩
    | some b =>
      rw [hg] at h
      simp only at h
      split at h
      · cases hlt : letterP l s with
        | inr q => obtain ⟨p, e⟩ := q; rw [hlt] at h; simp at h
        | inl q =>
          obtain ⟨x, s2⟩ := q
          rw [hlt] at h
          simp only at h
          obtain ⟨x1, x2⟩ := letter_vx hlt
          obtain ⟨-, y1, y2, y3, -⟩ := letterP_ok hlt
          cases hp : putP s2 out x s.at_ with
          | inr q => obtain ⟨p, e⟩ := q; rw [hp] at h; simp at h
          | inl q =>
            obtain ⟨o3, s3⟩ := q
            rw [hp] at h
            simp only at h
            obtain ⟨p1, p2, p3, p4, p5, p6⟩ := put_ok hp
            obtain ⟨i1, i2⟩ := words_vx k s3 s1 o3 t h (by rw [p3]; exact y1) (by rw [p1]; exact hv.append x1) p2 (put_nodes hp (by rw [y2]; exact hn))
            exact ⟨i1, WQ.after x2 hp y2 y3 i2⟩
      · split at h
        · rename_i hs4
          cases hsk : skipP l 4 [45, 45, 62] s with
          | inr q => obtain ⟨p, e⟩ := q; rw [hsk] at h; simp at h
          | inl q =>
            obtain ⟨x, s2⟩ := q
            rw [hsk] at h
            simp only at h
            have h4 := seesP_le hs4 (by simp)
            obtain ⟨rfl, z2, -⟩ := skipP_ok hsk h4
            obtain ⟨i1, i2⟩ := words_vx k _ s1 out t h z2 hv hl hn
            exact ⟨i1, i2.len, i2.op, i2.nodes, i2.le, i2.ne, i2.top⟩
        · split at h
          · rename_i hs2
            cases hsk : skipP l 2 [63, 62] s with
            | inr q => obtain ⟨p, e⟩ := q; rw [hsk] at h; simp at h
            | inl q =>
              obtain ⟨x, s2⟩ := q
              rw [hsk] at h
              simp only at h
              have h4 := seesP_le hs2 (by simp)
              obtain ⟨rfl, z2, -⟩ := skipP_ok hsk h4
              obtain ⟨i1, i2⟩ := words_vx k _ s1 out t h z2 hv hl hn
              exact ⟨i1, i2.len, i2.op, i2.nodes, i2.le, i2.ne, i2.top⟩
          · split at h
            · rename_i hs9
              cases hr : rawP l s out with
              | inr q => obtain ⟨p, e⟩ := q; rw [hr] at h; simp at h
              | inl q =>
                obtain ⟨o2, s2⟩ := q
                rw [hr] at h
                simp only at h
                have h9 := seesP_le hs9 (by simp)
                have hok := rawP_ok hl (by simpa using h9) hr
                unfold rawP at hr
                cases hsk : skipP l 9 [93, 93, 62] s with
                | inr q => obtain ⟨p, e⟩ := q; rw [hsk] at hr; simp at hr
                | inl q =>
                  obtain ⟨x, s3⟩ := q
                  rw [hsk] at hr
                  simp only at hr
                  obtain ⟨rfl, z2, -⟩ := skipP_ok hsk (by simpa using h9)
                  obtain ⟨r1, r2⟩ := rawF_vx _ _ _ _ _ _ _ hr (Nat.le_refl _) hv hl hn
                  obtain ⟨i1, i2⟩ := words_vx k s2 s1 o2 t h hok.2.1 r1 r2.len r2.le
                  refine ⟨i1, i2.len, i2.op.trans r2.op, ?_, i2.le, fun e => i2.ne (r2.ne e), fun e e2 => ?_⟩
                  · rw [i2.nodes, r2.nodes]
                    by_cases e : out = []
                    · by_cases e2 : o2 = []
                      · simp [e, e2]
                      · have := i2.ne e2
                        simp [e, e2, this]
                    · have := r2.ne e
                      simp [e, this]
                  · by_cases e3 : o2 = []
                    · have := i2.top e3 e2
                      rw [r2.op] at this
                      exact this
                    · exact r2.top e e3
            · cases ht : tagP l s with
              | inr q => obtain ⟨p, e⟩ := q; rw [ht] at h; simp at h
              | inl q =>
                obtain ⟨u, s2⟩ := q
                rw [ht] at h
                cases h
                rw [tagP_ok ht]
                exact ⟨hv, WQ.refl hl hn⟩
theorem tag_bad {l : Bs} {s : St} {p : Nat} {e : Int} (h : tagP l s = .inr (p, e)) : p = s.at_ := by
  unfold tagP at h
  split at h
  · cases h; rfl
  · split at h
    · simp at h
    · split at h
      · split at h
        · simp at h
        · cases h; rfl
      · cases h; rfl
theorem words_bad {l : Bs} : ∀ (k : Nat) (s : St) (out : Bs) (p : Nat) (e : Int), wordsF l k s out = .inr (p, e) → s.at_ ≤ l.length → out.length ≤ 16384 → p ≤ l.length
  | 0, s, out, p, e, h, hat, hl => by rw [wordsF] at h; simp at h
  | k + 1, s, out, p, e, h, hat, hl => by
    rw [wordsF] at h
    cases hg : l[s.at_]? with
    | none => rw [hg] at h; simp at h
    | some b =>
      rw [hg] at h
      simp only at h
      split at h
      · cases hlt : letterP l s with
        | inr q => obtain ⟨p2, e2⟩ := q; rw [hlt] at h; cases h; rw [letter_bad hlt]; exact hat
        | inl q =>
          obtain ⟨x, s2⟩ := q
          rw [hlt] at h
          simp only at h
          obtain ⟨-, y1, y2, y3, -⟩ := letterP_ok hlt
          cases hp : putP s2 out x s.at_ with
          | inr q => obtain ⟨p2, e2⟩ := q; rw [hp] at h; cases h; rw [put_bad hp]; exact hat
          | inl q =>
            obtain ⟨o3, s3⟩ := q
            rw [hp] at h
            obtain ⟨p1, p2, p3, p4, p5, p6⟩ := put_ok hp
            exact words_bad k s3 o3 p e h (by rw [p3]; exact y1) p2
      · split at h
        · rename_i hs4
          cases hsk : skipP l 4 [45, 45, 62] s with
          | inr q => obtain ⟨p2, e2⟩ := q; rw [hsk] at h; cases h; rw [skip_bad hsk]; exact hat
          | inl q =>
            obtain ⟨x, s2⟩ := q
            rw [hsk] at h
            obtain ⟨rfl, z2, -⟩ := skipP_ok hsk (seesP_le hs4 (by simp))
            exact words_bad k _ out p e h z2 hl
        · split at h
          · rename_i hs2
            cases hsk : skipP l 2 [63, 62] s with
            | inr q => obtain ⟨p2, e2⟩ := q; rw [hsk] at h; cases h; rw [skip_bad hsk]; exact hat
            | inl q =>
              obtain ⟨x, s2⟩ := q
              rw [hsk] at h
              obtain ⟨rfl, z2, -⟩ := skipP_ok hsk (seesP_le hs2 (by simp))
              exact words_bad k _ out p e h z2 hl
          · split at h
            · rename_i hs9
              have h9 := seesP_le hs9 (by simp)
              cases hr : rawP l s out with
              | inr q =>
                obtain ⟨p2, e2⟩ := q
                rw [hr] at h
                cases h
                unfold rawP at hr
                cases hsk : skipP l 9 [93, 93, 62] s with
                | inr q => obtain ⟨p3, e3⟩ := q; rw [hsk] at hr; cases hr; rw [skip_bad hsk]; exact hat
                | inl q =>
                  obtain ⟨x, s3⟩ := q
                  rw [hsk] at hr
                  simp only at hr
                  obtain ⟨rfl, z2, -⟩ := skipP_ok hsk (by simpa using h9)
                  have := rawF_bad' _ _ _ _ _ _ _ hr
                  omega
              | inl q =>
                obtain ⟨o2, s2⟩ := q
                rw [hr] at h
                have hok := rawP_ok hl (by simpa using h9) hr
                exact words_bad k s2 o2 p e h hok.2.1 hok.2.2.2.2
            · cases ht : tagP l s with
              | inr q => obtain ⟨p2, e2⟩ := q; rw [ht] at h; cases h; rw [tag_bad ht]; exact hat
              | inl q => obtain ⟨u, s2⟩ := q; rw [ht] at h; simp at h

end Go.Proofs.YtmifejkddgcbmabGreat
