/- The document's reader: something of a text, or a remark. -/
import Derived.Test.YtmifejkddgcbmabGreatB16
namespace Go.Proofs.YtmifejkddgcbmabGreat
open Go.RowKit
set_option linter.unusedVariables false
set_option linter.unusedSimpArgs false
attribute [local go_sem] Bel.cell Bel.fz

def keepP (o : Bs) (r : Rs Bs) : Rs Bs := match r with
  | .inr (p, e) => .inr (p, e)
  | .inl (_, s1) => .inl (o, s1)
/-- Something of a text, or a remark. -/
def withinP (l : Bs) (s : St) (o : Bs) : Rs Bs :=
  if seesP l pRem s.at_ then keepP o (skipP l 4 [45, 45, 62] s) else if seesP l pAsk s.at_ then keepP o (skipP l 2 [63, 62] s) else if seesP l pRaw s.at_ then rawP l s o else charP l s o

theorem QPost.from {α : Type} {w W : World} {b B : Nat} {tx : ByteArray} {M : Nat} {op : List ByteArray} {r : Rs α} {O : α → Bs} {V : α → Ending → World → Prop} {e : Ending} {w' : World} (h : QPost W b B tx M op r O V e w') (ht : Turn (fun k => k = b ∨ B ≤ k) w W) : QPost w b B tx M op r O V e w' := by
  cases r with
  | inl q_ => obtain ⟨a, s⟩ := q_; exact ⟨h.1, h.2.1, ht.trans h.2.2⟩
  | inr q_ => obtain ⟨p, c⟩ := q_; exact ⟨h.1, h.2.1, ht.trans h.2.2⟩
theorem QPost.keep {w : World} {b B : Nat} {tx : ByteArray} {M : Nat} {op : List ByteArray} {r : Rs Bs} {o : Bs} {V : Ending → World → Prop} {e : Ending} {w' : World} (h : QPost w b B tx M op r (fun _ => o) (fun _ => V) e w') : QPost w b B tx M op (keepP o r) id (fun _ => V) e w' := by
  cases r with
  | inl q_ => obtain ⟨a, s⟩ := q_; exact h
  | inr q_ => obtain ⟨p, c⟩ := q_; exact h

theorem charP_ok {tx : ByteArray} {s s1 : St} {o o1 : Bs} (ok : Ok tx s) (h : charP tx.data.toList s o = .inl (o1, s1)) : s.at_ < s1.at_ ∧ Step tx s s1 ∧ o1.length ≤ 16384 := by
  unfold charP at h
  cases hp : letterP tx.data.toList s with
  | inr q_ => obtain ⟨p, e⟩ := q_; rw [hp] at h; cases h
  | inl q_ =>
    obtain ⟨x, s2⟩ := q_
    rw [hp] at h
    simp only at h
    obtain ⟨g1, g2, g3, g4, -⟩ := letterP_ok hp
    obtain ⟨p1, p2, -, -, p5⟩ := putP_ok h
    have ok3 := (ok.letter hp).put h
    exact ⟨by omega, ⟨by omega, by rw [p2, g4], ok3⟩, p5⟩
theorem withinP_ok {tx : ByteArray} {s s1 : St} {o o1 : Bs} (ok : Ok tx s) (hl : o.length ≤ 16384) (h : withinP tx.data.toList s o = .inl (o1, s1)) : s.at_ < s1.at_ ∧ Step tx s s1 ∧ o1.length ≤ 16384 := by
  unfold withinP at h
  split at h
  · rename_i hs
    have h9 := seesP_le hs (by simp)
    rw [size_list] at h9
    cases hp : skipP tx.data.toList 4 [45, 45, 62] s with
    | inr q_ => obtain ⟨p, e⟩ := q_; rw [hp] at h; cases h
    | inl q_ =>
      obtain ⟨x, s2⟩ := q_
      rw [hp] at h
      cases h
      have st := step_skip ok h9 hp
      obtain ⟨e1, -⟩ := skipP_ok hp (by rw [size_list]; exact h9)
      exact ⟨by rw [e1]; simp only [List.length_cons, List.length_nil]; omega, st, hl⟩
  · split at h
    · rename_i hs
      have h9 := seesP_le hs (by simp)
      rw [size_list] at h9
      cases hp : skipP tx.data.toList 2 [63, 62] s with
      | inr q_ => obtain ⟨p, e⟩ := q_; rw [hp] at h; cases h
      | inl q_ =>
        obtain ⟨x, s2⟩ := q_
        rw [hp] at h
        cases h
        have st := step_skip ok h9 hp
        obtain ⟨e1, -⟩ := skipP_ok hp (by rw [size_list]; exact h9)
        exact ⟨by rw [e1]; simp only [List.length_cons, List.length_nil]; omega, st, hl⟩
    · split at h
      · rename_i hs
        have h9 := seesP_le hs (by simp)
        obtain ⟨g1, g2, g3, g4, g5⟩ := rawP_ok hl h9 h
        rw [size_list] at g2
        exact ⟨g1, ⟨by omega, g3, ⟨ok.len, g2, g4 ok.nodes, by rw [g3]; exact ok.op⟩⟩, g5⟩
      · exact charP_ok ok h

set_option maxRecDepth 100000 in
set_option maxHeartbeats 2000000 in
theorem qwithin_any (w : World) (b B : Nat) (tx : ByteArray) (s : St) (op : List ByteArray) (o : Bs) (h : QS w b B tx s op o) (ok : Ok tx s) (hol : o.length ≤ 16384) (ha : s.at_ < tx.size) :
    Calls Tryz.prog 47 #[.pointer (some ⟨b, 0, none⟩)] w (QPost w b B tx tx.size op (withinP tx.data.toList s o) id fun _ e w' => e = .returned (.tuple #[])) := by
  obtain ⟨hop, vo, vt, h⟩ := h
  have HOK : Hid (Ok tx s) := ok
  have HOP : Hid (op.length = s.op) := hop
  obtain ⟨k1, k2, k3, k4⟩ := ok
  have HQ : Hid (Qd w b B tx (okQ s (hasB o)) vo vt op o) := h
  have e0 : (okQ s (hasB o)).at_ = s.at_ := rfl
  have hst := fun (W : World) (hq : Qd W b B tx (okQ s (hasB o)) vo vt op o) (p : ByteArray) (hp : 0 < p.size) (hp2 : p.size ≤ 100) => qstarts_any W b B tx _ vo vt op o hq k1 (by rw [e0]; exact k2) p hp hp2
  have s1 := fun (W : World) (hq : Qd W b B tx (okQ s (hasB o)) vo vt op o) => hst W hq ⟨#[60, 33, 45, 45]⟩ (by decide) (by decide)
  have s2 := fun (W : World) (hq : Qd W b B tx (okQ s (hasB o)) vo vt op o) => hst W hq ⟨#[60, 63]⟩ (by decide) (by decide)
  have s3 := fun (W : World) (hq : Qd W b B tx (okQ s (hasB o)) vo vt op o) => hst W hq ⟨#[60, 33, 91, 67, 68, 65, 84, 65, 91]⟩ (by decide) (by decide)
  simp only [e0] at s1 s2 s3
  clear hst h hop
  cases hS1 : seesP tx.data.toList [60, 33, 45, 45] s.at_
  · rw [hS1] at s1
    cases hS2 : seesP tx.data.toList [60, 63] s.at_
    · rw [hS2] at s2
      cases hS3 : seesP tx.data.toList [60, 33, 91, 67, 68, 65, 84, 65, 91] s.at_
      · rw [hS3] at s3
        have HG : Hid (withinP tx.data.toList s o = charP tx.data.toList s o) := by show _ = _; simp only [withinP, pRem, pAsk, pRaw, hS1, hS2, hS3, Bool.false_eq_true, if_false]
        clear hS1 hS2 hS3
        go_enter Tryz.func47, Tryz.ntmps47
        go_wp2_with fail
        refine (s1 _ HQ.out).mono ?_
        rintro e w1 ⟨rfl, hb1⟩
        have HQ1 : Hid (Qd w1 b B tx (okQ s (hasB o)) vo vt op o) := HQ.out.below hb1
        go_wp2_with fail
        refine (s2 _ HQ1.out).mono ?_
        rintro e w2 ⟨rfl, hb2⟩
        have HQ2 : Hid (Qd w2 b B tx (okQ s (hasB o)) vo vt op o) := HQ1.out.below hb2
        go_wp2_with fail
        refine (s3 _ HQ2.out).mono ?_
        rintro e w3 ⟨rfl, hb3⟩
        have HQ3 : Hid (Qd w3 b B tx (okQ s (hasB o)) vo vt op o) := HQ2.out.below hb3
        have HT3 : Hid (Turn (fun k => k = b ∨ B ≤ k) w w3) := ((turn_below _ hb1 (Nat.le_refl _)).trans (turn_below _ hb2 (Nat.le_refl _))).trans (turn_below _ hb3 (Nat.le_refl _))
        clear hb1 hb2 hb3 s1 s2 s3
        have hch := qchar_any w3 b B tx s op o ⟨HOP.out, vo, vt, HQ3.out⟩ HOK.out hol ha
        go_wp2_with fail
        refine hch.mono ?_
        intro e w4 hp
        obtain ⟨v, rfl⟩ : ∃ v, e = .returned v := by
          cases hx : charP tx.data.toList s o with
          | inl q_ => obtain ⟨a, s1⟩ := q_; rw [hx] at hp; exact ⟨_, hp.1⟩
          | inr q_ => obtain ⟨p, c⟩ := q_; rw [hx] at hp; exact hp.1
        have HP : Hid (QPost w b B tx tx.size op (withinP tx.data.toList s o) id (fun _ e w' => e = .returned (.tuple #[])) (.returned (.tuple #[])) w4) := by
          show QPost _ _ _ _ _ _ _ _ _ _ _
          rw [HG.out]
          have := hp.from HT3.out
          cases hx : charP tx.data.toList s o with
          | inl q_ => obtain ⟨a, s1⟩ := q_; rw [hx] at this; exact ⟨rfl, this.2⟩
          | inr q_ => obtain ⟨p, c⟩ := q_; rw [hx] at this; exact ⟨⟨_, rfl⟩, this.2⟩
        clear hp hch
        go_wp2
        first | go_end0 | refine bodyPost_ret (results_none rfl _ _ _) rfl ?_
        exact HP.out
      · rw [hS3] at s3
        have h9 := seesP_le hS3 (by simp)
        rw [size_list] at h9
        have HG : Hid (withinP tx.data.toList s o = rawP tx.data.toList s o) := by show _ = _; simp only [withinP, pRem, pAsk, pRaw, hS1, hS2, hS3, Bool.false_eq_true, if_false, if_true]
        clear hS1 hS2 hS3
        go_enter Tryz.func47, Tryz.ntmps47
        go_wp2_with fail
        refine (s1 _ HQ.out).mono ?_
        rintro e w1 ⟨rfl, hb1⟩
        have HQ1 : Hid (Qd w1 b B tx (okQ s (hasB o)) vo vt op o) := HQ.out.below hb1
        go_wp2_with fail
        refine (s2 _ HQ1.out).mono ?_
        rintro e w2 ⟨rfl, hb2⟩
        have HQ2 : Hid (Qd w2 b B tx (okQ s (hasB o)) vo vt op o) := HQ1.out.below hb2
        go_wp2_with fail
        refine (s3 _ HQ2.out).mono ?_
        rintro e w3 ⟨rfl, hb3⟩
        have HQ3 : Hid (Qd w3 b B tx (okQ s (hasB o)) vo vt op o) := HQ2.out.below hb3
        have HT3 : Hid (Turn (fun k => k = b ∨ B ≤ k) w w3) := (((turn_below _ hb1 (Nat.le_refl _)).trans (turn_below _ hb2 (Nat.le_refl _))).trans (turn_below _ hb3 (Nat.le_refl _)))
        clear hb1 hb2 hb3 s1 s2 s3
        have hch := qraw_any w3 b B tx s op o ⟨HOP.out, vo, vt, HQ3.out⟩ HOK.out hol h9
        go_wp2_with fail
        refine hch.mono ?_
        intro e w4 hp
        obtain ⟨v, rfl⟩ : ∃ v, e = .returned v := by
          cases hx : rawP tx.data.toList s o with
          | inl q_ => obtain ⟨a, s1⟩ := q_; rw [hx] at hp; exact ⟨_, hp.1⟩
          | inr q_ => obtain ⟨p, c⟩ := q_; rw [hx] at hp; exact hp.1
        have HP : Hid (QPost w b B tx tx.size op (withinP tx.data.toList s o) id (fun _ e w' => e = .returned (.tuple #[])) (.returned (.tuple #[])) w4) := by
          show QPost _ _ _ _ _ _ _ _ _ _ _
          rw [HG.out]
          have := hp.from HT3.out
          cases hx : rawP tx.data.toList s o with
          | inl q_ => obtain ⟨a, s1⟩ := q_; rw [hx] at this; exact ⟨rfl, this.2⟩
          | inr q_ => obtain ⟨p, c⟩ := q_; rw [hx] at this; exact ⟨⟨_, rfl⟩, this.2⟩
        clear hp hch
        go_wp2
        first | go_end0 | refine bodyPost_ret (results_none rfl _ _ _) rfl ?_
        exact HP.out
    · rw [hS2] at s2
      have h9 := seesP_le hS2 (by simp)
      rw [size_list] at h9
      have HG : Hid (withinP tx.data.toList s o = keepP o (skipP tx.data.toList 2 [63, 62] s)) := by show _ = _; simp only [withinP, pRem, pAsk, pRaw, hS1, hS2, Bool.false_eq_true, if_false, if_true]
      clear hS1 hS2
      go_enter Tryz.func47, Tryz.ntmps47
      go_wp2_with fail
      refine (s1 _ HQ.out).mono ?_
      rintro e w1 ⟨rfl, hb1⟩
      have HQ1 : Hid (Qd w1 b B tx (okQ s (hasB o)) vo vt op o) := HQ.out.below hb1
      go_wp2_with fail
      refine (s2 _ HQ1.out).mono ?_
      rintro e w2 ⟨rfl, hb2⟩
      have HQ2 : Hid (Qd w2 b B tx (okQ s (hasB o)) vo vt op o) := HQ1.out.below hb2
      have HT3 : Hid (Turn (fun k => k = b ∨ B ≤ k) w w2) := ((turn_below _ hb1 (Nat.le_refl _)).trans (turn_below _ hb2 (Nat.le_refl _)))
      clear hb1 hb2 s1 s2 s3
      have hch := qremark_any w2 b B tx s op o ⟨HOP.out, vo, vt, HQ2.out⟩ HOK.out hol ⟨#[60, 63]⟩ ⟨#[63, 62]⟩ h9 (by decide) (by decide) (by decide)
      go_wp2_with fail
      refine hch.mono ?_
      intro e w4 hp
      replace hp : QPost w2 b B tx tx.size op (keepP o (skipP tx.data.toList 2 [63, 62] s)) id (fun _ e w' => e = .returned (.tuple #[])) e w4 := QPost.keep hp
      obtain ⟨v, rfl⟩ : ∃ v, e = .returned v := by
        cases hx : keepP o (skipP tx.data.toList 2 [63, 62] s) with
        | inl q_ => obtain ⟨a, s1⟩ := q_; rw [hx] at hp; exact ⟨_, hp.1⟩
        | inr q_ => obtain ⟨p, c⟩ := q_; rw [hx] at hp; exact hp.1
      have HP : Hid (QPost w b B tx tx.size op (withinP tx.data.toList s o) id (fun _ e w' => e = .returned (.tuple #[])) (.returned (.tuple #[])) w4) := by
        show QPost _ _ _ _ _ _ _ _ _ _ _
        rw [HG.out]
        have := hp.from HT3.out
        cases hx : keepP o (skipP tx.data.toList 2 [63, 62] s) with
        | inl q_ => obtain ⟨a, s1⟩ := q_; rw [hx] at this; exact ⟨rfl, this.2⟩
        | inr q_ => obtain ⟨p, c⟩ := q_; rw [hx] at this; exact ⟨⟨_, rfl⟩, this.2⟩
      clear hp hch
      go_wp2
      first | go_end0 | refine bodyPost_ret (results_none rfl _ _ _) rfl ?_
      exact HP.out
  · rw [hS1] at s1
    have h9 := seesP_le hS1 (by simp)
    rw [size_list] at h9
    have HG : Hid (withinP tx.data.toList s o = keepP o (skipP tx.data.toList 4 [45, 45, 62] s)) := by show _ = _; simp only [withinP, pRem, pAsk, pRaw, hS1, Bool.false_eq_true, if_false, if_true]
    clear hS1
    go_enter Tryz.func47, Tryz.ntmps47
    go_wp2_with fail
    refine (s1 _ HQ.out).mono ?_
    rintro e w1 ⟨rfl, hb1⟩
    have HQ1 : Hid (Qd w1 b B tx (okQ s (hasB o)) vo vt op o) := HQ.out.below hb1
    have HT3 : Hid (Turn (fun k => k = b ∨ B ≤ k) w w1) := (turn_below _ hb1 (Nat.le_refl _))
    clear hb1 s1 s2 s3
    have hch := qremark_any w1 b B tx s op o ⟨HOP.out, vo, vt, HQ1.out⟩ HOK.out hol ⟨#[60, 33, 45, 45]⟩ ⟨#[45, 45, 62]⟩ h9 (by decide) (by decide) (by decide)
    go_wp2_with fail
    refine hch.mono ?_
    intro e w4 hp
    replace hp : QPost w1 b B tx tx.size op (keepP o (skipP tx.data.toList 4 [45, 45, 62] s)) id (fun _ e w' => e = .returned (.tuple #[])) e w4 := QPost.keep hp
    obtain ⟨v, rfl⟩ : ∃ v, e = .returned v := by
      cases hx : keepP o (skipP tx.data.toList 4 [45, 45, 62] s) with
      | inl q_ => obtain ⟨a, s1⟩ := q_; rw [hx] at hp; exact ⟨_, hp.1⟩
      | inr q_ => obtain ⟨p, c⟩ := q_; rw [hx] at hp; exact hp.1
    have HP : Hid (QPost w b B tx tx.size op (withinP tx.data.toList s o) id (fun _ e w' => e = .returned (.tuple #[])) (.returned (.tuple #[])) w4) := by
      show QPost _ _ _ _ _ _ _ _ _ _ _
      rw [HG.out]
      have := hp.from HT3.out
      cases hx : keepP o (skipP tx.data.toList 4 [45, 45, 62] s) with
      | inl q_ => obtain ⟨a, s1⟩ := q_; rw [hx] at this; exact ⟨rfl, this.2⟩
      | inr q_ => obtain ⟨p, c⟩ := q_; rw [hx] at this; exact ⟨⟨_, rfl⟩, this.2⟩
    clear hp hch
    go_wp2
    first | go_end0 | refine bodyPost_ret (results_none rfl _ _ _) rfl ?_
    exact HP.out

end Go.Proofs.YtmifejkddgcbmabGreat

/- A text, thing by thing, in plain: what stands next, and what is read of it. -/
namespace Go.Proofs.YtmifejkddgcbmabGreat
set_option linter.unusedVariables false
set_option linter.unusedSimpArgs false

theorem short_breaks {l p : Bs} {a : Nat} (ha : a ≤ l.length) (h : seesP l p a = false) : shortP l p a = breaksP l p a := by
  unfold shortP
  cases hb : breaksP l p a
  · simp
  · have hx : (l.drop a) <+: p := by rw [← List.isPrefixOf_iff_prefix]; exact hb
    have hlen := hx.length_le
    rw [List.length_drop] at hlen
    have hlt : l.length - a < p.length := by
      refine Decidable.byContradiction fun hn => ?_
      have e : l.drop a = p := hx.eq_of_length (by rw [List.length_drop]; omega)
      unfold seesP at h
      rw [e] at h
      have : p.isPrefixOf p = true := by rw [List.isPrefixOf_iff_prefix]; exact List.prefix_refl p
      rw [this] at h
      cases h
    simp [hlt]
theorem sees_head {l p : Bs} {c : UInt8} {a : Nat} (h : seesP l (c :: p) a = true) : ∃ r, l.drop a = c :: r ∧ p.isPrefixOf r = true := by
  unfold seesP at h
  cases hd : l.drop a with
  | nil => rw [hd] at h; cases h
  | cons x r =>
    rw [hd, List.isPrefixOf_cons_cons, Bool.and_eq_true, beq_iff_eq] at h
    exact ⟨r, by rw [h.1], h.2⟩
theorem sees_no {l p : Bs} {c x : UInt8} {a : Nat} {r : Bs} (hd : l.drop a = x :: r) (h : x ≠ c) : seesP l (c :: p) a = false := by
  unfold seesP
  rw [hd, List.isPrefixOf_cons_cons]
  have : (c == x) = false := beq_eq_false_iff_ne.2 (fun e => h e.symm)
  rw [this]; rfl
theorem drop_at {l : Bs} {a : Nat} {c : UInt8} (h : l[a]? = some c) : l.drop a = c :: l.drop (a + 1) := by
  obtain ⟨hlt, he⟩ := List.getElem?_eq_some_iff.1 h
  rw [List.drop_eq_getElem_cons hlt, he]

theorem words_next (l : Bs) (f : Nat) (s : St) (o : Bs) (ha : s.at_ ≤ l.length) : wordsF l (f + 1) s o = match nextK l s with
    | .inr (p, e) => .inr (p, e)
    | .inl (k, _) => if k = 2 then (match withinP l s o with
      | .inr (p, e) => .inr (p, e)
      | .inl (o1, s1) => wordsF l f s1 o1) else .inl (o, s) := by
  cases hg : l[s.at_]? with
  | none =>
    have h1 : nextK l s = .inl (0, s) := by unfold nextK; rw [hg]
    rw [h1]
    unfold wordsF
    rw [hg]
    rfl
  | some c =>
    have hd := drop_at hg
    by_cases hc : c = 60
    · subst hc
      by_cases hE : seesP l pEnd s.at_ = true
      · have h1 : nextK l s = .inl (3, s) := by unfold nextK; rw [hg]; simp only [hE, ne_eq, not_true_eq_false, if_false, if_true]
        obtain ⟨r, e1, e2⟩ := sees_head hE
        obtain ⟨t, e3⟩ : ∃ t, r = 47 :: t := by
          cases r with
          | nil => cases e2
          | cons x t =>
            rw [List.isPrefixOf_cons_cons, Bool.and_eq_true, beq_iff_eq] at e2
            exact ⟨t, by rw [← e2.1]⟩
        subst e3
        have n1 : seesP l pRem s.at_ = false := by unfold seesP; rw [e1]; rfl
        have n2 : seesP l pAsk s.at_ = false := by unfold seesP; rw [e1]; rfl
        have n3 : seesP l pRaw s.at_ = false := by unfold seesP; rw [e1]; rfl
        have b1 : breaksP l pRem s.at_ = false := by unfold breaksP; rw [e1]; rfl
        have b2 : breaksP l pRaw s.at_ = false := by unfold breaksP; rw [e1]; rfl
        have ht : tagP l s = .inl ((), s) := by
          unfold tagP
          rw [b1, b2]
          simp only [Bool.or_self, Bool.false_eq_true, if_false]
          rw [if_pos hE]
        rw [h1]
        unfold wordsF
        rw [hg]
        simp only [n1, n2, n3, ht, ne_eq, not_true_eq_false, if_false, Bool.false_eq_true]
        rfl
      · have hE' : seesP l pEnd s.at_ = false := by simpa using hE
        by_cases h2 : (seesP l pRem s.at_ || seesP l pAsk s.at_ || seesP l pRaw s.at_) = true
        · have h1 : nextK l s = .inl (2, s) := by unfold nextK; rw [hg]; simp only [hE', h2, ne_eq, not_true_eq_false, if_false, if_true, Bool.false_eq_true]
          rw [h1]
          rw [wordsF]
          unfold withinP
          rw [hg]
          simp only [ne_eq, not_true_eq_false, if_false, if_true]
          cases n1 : seesP l pRem s.at_
          · cases n2 : seesP l pAsk s.at_
            · cases n3 : seesP l pRaw s.at_
              · rw [n1, n2, n3] at h2; cases h2
              · simp only [Bool.false_eq_true, if_false, if_true]
                cases rawP l s o <;> rfl
            · simp only [Bool.false_eq_true, if_false, if_true, keepP]
              cases skipP l 2 [63, 62] s <;> rfl
          · simp only [if_true, keepP]
            cases skipP l 4 [45, 45, 62] s <;> rfl
        · have h2' : (seesP l pRem s.at_ || seesP l pAsk s.at_ || seesP l pRaw s.at_) = false := by simpa using h2
          obtain ⟨⟨n1, n2⟩, n3⟩ : (seesP l pRem s.at_ = false ∧ seesP l pAsk s.at_ = false) ∧ seesP l pRaw s.at_ = false := by
            simpa [Bool.or_eq_false_iff] using h2'
          have r1 := short_breaks ha n1
          have r2 := short_breaks ha n3
          have r3 := short_breaks ha hE'
          have r4 : breaksP l pEnd s.at_ = true → breaksP l pRem s.at_ = true := by
            unfold breaksP
            rw [hd]
            intro hx
            cases hr : l.drop (s.at_ + 1) with
            | nil => rfl
            | cons x t =>
              rw [hr] at hx
              have hx2 : x = 47 := by
                have : (x == 47) = true := by
                  rw [List.isPrefixOf_cons_cons, List.isPrefixOf_cons_cons] at hx
                  simp only [Bool.and_eq_true] at hx
                  exact hx.2.1
                exact beq_iff_eq.1 this
              unfold seesP at hE'
              rw [hd, hr, hx2] at hE'
              simp [List.isPrefixOf] at hE'
          have hor : (shortP l pRem s.at_ || shortP l pRaw s.at_ || shortP l pEnd s.at_) = (breaksP l pRem s.at_ || breaksP l pRaw s.at_) := by
            rw [r1, r2, r3]
            cases hb : breaksP l pEnd s.at_
            · simp
            · rw [r4 hb]; simp
          unfold wordsF tagP nextK
          rw [hg]
          simp only [hE', n1, n2, n3, hor, ne_eq, not_true_eq_false, if_false, Bool.false_eq_true, Bool.or_self]
          cases hb : (breaksP l [60, 33, 45, 45] s.at_ || breaksP l [60, 33, 91, 67, 68, 65, 84, 65, 91] s.at_)
          · simp only [Bool.false_eq_true, if_false]
            cases l[s.at_ + 1]? with
            | none => rfl
            | some d =>
              simp only
              cases beginB d.toNat <;> simp
          · simp only [if_true]
    · have h1 : nextK l s = .inl (2, s) := by unfold nextK; rw [hg]; simp only [hc, ne_eq, not_false_eq_true, if_true]
      have n1 : seesP l pRem s.at_ = false := sees_no hd hc
      have n2 : seesP l pAsk s.at_ = false := sees_no hd hc
      have n3 : seesP l pRaw s.at_ = false := sees_no hd hc
      rw [h1]
      rw [wordsF]
      unfold withinP charP
      rw [hg]
      simp only [hc, n1, n2, n3, ne_eq, not_false_eq_true, if_true, if_false, Bool.false_eq_true]
      cases letterP l s with
      | inr q_ => obtain ⟨p, e⟩ := q_; rfl
      | inl q_ =>
        obtain ⟨x, s1⟩ := q_
        simp only
        cases putP s1 o x s.at_ <;> rfl

/-- What stands where a text ends. -/
theorem nextK_kind {l : Bs} {s s1 : St} {k : Int} (h : nextK l s = .inl (k, s1)) (h2 : k ≠ 2) (ha : s.at_ ≤ l.length) : s1 = s ∧ ((k = 0 ∧ s.at_ = l.length) ∨ (k = 3 ∧ s.at_ < l.length ∧ seesP l pEnd s.at_ = true) ∨ (k = 1 ∧ s.at_ + 1 < l.length ∧ seesP l pEnd s.at_ = false ∧ ∃ d, l[s.at_ + 1]? = some d ∧ beginB d.toNat = true)) := by
  unfold nextK at h
  cases hg : l[s.at_]? with
  | none =>
    rw [hg] at h
    cases h
    have := List.getElem?_eq_none_iff.1 hg
    exact ⟨rfl, .inl ⟨rfl, by omega⟩⟩
  | some c =>
    have hlt := (List.getElem?_eq_some_iff.1 hg).1
    rw [hg] at h
    simp only at h
    split at h
    · cases h; exact absurd rfl h2
    · split at h
      · rename_i hs
        cases h; exact ⟨rfl, .inr (.inl ⟨rfl, hlt, hs⟩)⟩
      · rename_i hs
        split at h
        · cases h; exact absurd rfl h2
        · split at h
          · cases h
          · cases hd : l[s.at_ + 1]? with
            | none => rw [hd] at h; cases h
            | some d =>
              rw [hd] at h
              simp only at h
              split at h
              · rename_i hb
                cases h
                exact ⟨rfl, .inr (.inr ⟨rfl, (List.getElem?_eq_some_iff.1 hd).1, by simpa using hs, d, rfl, hb⟩)⟩
              · cases h

end Go.Proofs.YtmifejkddgcbmabGreat
