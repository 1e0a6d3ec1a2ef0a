/- A character or a reference: what the reader reads of it is what stands there, however much stands behind. -/
import Derived.Test.YtmifejkddgcbmabGreatB05
namespace Go.Proofs.YtmifejkddgcbmabGreat
set_option linter.unusedVariables false
set_option linter.unusedSimpArgs false

theorem dig59 {b : UInt8} (h : b = 59) : dig b.toNat = 16 := by subst h; decide

/-- A number's digits: no more is looked at than so many bytes, or up to a ; . -/
theorem num_take (base most off : Nat) (hb : base ≤ 16) : ∀ (t : Bs) (m i r : Nat), i ≤ most → (most + 1 ≤ i + m ∨ (59 : UInt8) ∈ t.take m ∨ t.length ≤ m) → num base most off i r (t.take m) = num base most off i r t := by
  intro t
  induction t with
  | nil => intro m i r _ _; simp
  | cons b t ih =>
    intro m i r hi hm
    cases m with
    | zero =>
      rcases hm with h | h | h
      · omega
      · simp at h
      · simp at h
    | succ m =>
      rw [List.take_succ_cons]
      unfold num
      by_cases h1 : b.toNat = 59 ∧ 0 < i
      · rw [if_pos h1, if_pos h1]
      · rw [if_neg h1, if_neg h1]
        by_cases h2 : base ≤ dig b.toNat ∨ i = most
        · rw [if_pos h2, if_pos h2]
        · rw [if_neg h2, if_neg h2]
          have hb59 : b ≠ 59 := fun e => h2 (.inl (by rw [dig59 e]; exact hb))
          refine ih m (i + 1) _ (by omega) ?_
          rcases hm with h | h | h
          · left; omega
          · right; left
            rw [List.take_succ_cons, List.mem_cons] at h
            rcases h with h | h
            · exact absurd h.symm hb59
            · exact h
          · right; right
            simp at h; omega

/-- How far a look goes: all, or ten bytes, or up to the first ; . -/
def Far (r : Bs) (m : Nat) : Prop := r.length ≤ m ∨ 10 ≤ m ∨ ∃ y, r.take m = y ++ [59] ∧ (59 : UInt8) ∉ y

theorem named_take (r : Bs) (m : Nat) (h : Far r m) : ∀ ns : List (Bs × Nat), (∀ p ∈ ns, p.1.length ≤ 6 ∧ ∃ y, p.1 = y ++ [59] ∧ (59 : UInt8) ∉ y) → namedF ns (r.take m) = namedF ns r := by
  intro ns
  induction ns with
  | nil => intro _; rfl
  | cons p ns ih =>
    intro hp
    obtain ⟨x, v⟩ := p
    obtain ⟨hx6, y, hy, hyn⟩ := hp (x, v) (List.mem_cons_self ..)
    simp only at hx6 hy
    have ihn := ih (fun q hq => hp q (List.mem_cons_of_mem _ hq))
    unfold namedF
    by_cases hl : r.length ≤ m
    · rw [List.take_of_length_le hl]
    · rcases h with h | h | ⟨z, hz, hzn⟩
      · exact absurd h hl
      · have e1 : x.isPrefixOf (r.take m) = x.isPrefixOf r := by
          rw [Bool.eq_iff_iff, List.isPrefixOf_iff_prefix, List.isPrefixOf_iff_prefix]
          constructor
          · exact fun h => h.trans (List.take_prefix _ _)
          · intro h
            rw [List.prefix_take_iff]
            exact ⟨h, by omega⟩
        have e2 : (r.take m).isPrefixOf x = false := by
          cases he : (r.take m).isPrefixOf x
          · rfl
          · have := isPre he
            rw [List.length_take] at this; omega
        have e3 : r.isPrefixOf x = false := by
          cases he : r.isPrefixOf x
          · rfl
          · have := isPre he; omega
        rw [e1, e2, e3, ihn]
      · -- the first ; stands last
        have key : ∀ {u : Bs}, (y ++ [59]) <+: (z ++ 59 :: u) → y = z := by
          intro u hu
          have hlen : y.length ≤ z.length ∧ z.length ≤ y.length := by
            obtain ⟨t, ht⟩ := hu
            constructor
            · refine Nat.le_of_not_lt fun hlt => hyn ?_
              have : (y ++ [59] ++ t)[z.length]? = some 59 := by rw [ht]; simp
              rw [List.append_assoc, List.getElem?_append_left hlt] at this
              exact List.mem_of_getElem? this
            · refine Nat.le_of_not_lt fun hlt => hzn ?_
              have : (z ++ 59 :: u)[y.length]? = some 59 := by rw [← ht]; simp
              rw [List.getElem?_append_left hlt] at this
              exact List.mem_of_getElem? this
          obtain ⟨t, ht⟩ := hu
          have := congrArg (List.take y.length) ht
          rw [List.append_assoc, List.take_left, List.take_append_of_le_length hlen.1, List.take_of_length_le hlen.2] at this
          exact this
        have hr : r = z ++ 59 :: r.drop m := by
          conv => lhs; rw [← List.take_append_drop m r, hz]
          simp
        have e1 : x.isPrefixOf (r.take m) = x.isPrefixOf r := by
          rw [Bool.eq_iff_iff, List.isPrefixOf_iff_prefix, List.isPrefixOf_iff_prefix]
          constructor
          · exact fun h => h.trans (List.take_prefix _ _)
          · intro h
            rw [hy, hr] at h
            rw [hy, hz, key h]
            exact List.prefix_refl _
        by_cases hxp : x.isPrefixOf r = true
        · rw [e1, if_pos hxp, if_pos hxp]
        · have nx : y ≠ z := fun e => hxp (by
            rw [List.isPrefixOf_iff_prefix, hy, e, hr]
            exact ⟨r.drop m, by simp⟩)
          have back : ∀ {u : Bs}, (z ++ 59 :: u) <+: (y ++ [59]) → False := by
            intro u hu
            apply nx
            obtain ⟨t, ht⟩ := hu
            have hlen : y.length ≤ z.length := by
              refine Nat.le_of_not_lt fun hlt => hyn ?_
              have : (y ++ [59])[z.length]? = some 59 := by rw [← ht]; simp
              rw [List.getElem?_append_left hlt] at this
              exact List.mem_of_getElem? this
            have hl2 := congrArg List.length ht
            simp at hl2
            have := congrArg (List.take y.length) ht
            rw [List.append_assoc, List.take_append_of_le_length hlen, List.take_left, List.take_of_length_le (by omega)] at this
            exact this.symm
          have e2 : (r.take m).isPrefixOf x = false := by
            cases he : (r.take m).isPrefixOf x
            · rfl
            · rw [List.isPrefixOf_iff_prefix, hz, hy] at he
              exact (back (u := []) he).elim
          have e3 : r.isPrefixOf x = false := by
            cases he : r.isPrefixOf x
            · rfl
            · rw [List.isPrefixOf_iff_prefix, hr, hy] at he
              exact (back he).elim
          rw [e1, e2, e3, ihn]

theorem nms_all : ∀ p ∈ nms, p.1.length ≤ 6 ∧ ∃ y, p.1 = y ++ [59] ∧ (59 : UInt8) ∉ y := by
  intro p hp
  simp only [nms, List.mem_cons, List.not_mem_nil, or_false] at hp
  rcases hp with rfl | rfl | rfl | rfl | rfl
  · exact ⟨by decide, [38, 97, 109, 112], rfl, by decide⟩
  · exact ⟨by decide, [38, 108, 116], rfl, by decide⟩
  · exact ⟨by decide, [38, 103, 116], rfl, by decide⟩
  · exact ⟨by decide, [38, 113, 117, 111, 116], rfl, by decide⟩
  · exact ⟨by decide, [38, 97, 112, 111, 115], rfl, by decide⟩

theorem pre_take {x r y : Bs} {m : Nat} (hx : (59 : UInt8) ∉ x) (hr : r.take m = y ++ [59]) (h : x <+: r) : x <+: r.take m ∧ x.length ≤ y.length := by
  have hm : x.length < m := by
    refine Nat.lt_of_not_le fun hle => hx ?_
    have h2 : r.take m <+: x := by
      rw [List.prefix_iff_eq_take.1 h]
      refine List.prefix_iff_eq_take.2 ?_
      rw [List.take_take, List.length_take]
      have := h.length_le
      congr 1; omega
    rw [hr] at h2
    exact h2.subset (by simp)
  have hp : x <+: r.take m := by rw [List.prefix_take_iff]; exact ⟨h, by omega⟩
  refine ⟨hp, Nat.le_of_not_lt fun hlt => hx ?_⟩
  rw [hr] at hp
  obtain ⟨t, ht⟩ := hp
  have h5 : (x ++ t)[y.length]? = some 59 := by rw [ht]; simp
  rw [List.getElem?_append_left hlt] at h5
  exact List.mem_of_getElem? h5

theorem pre_eq {x r : Bs} {m : Nat} (h : Far r m) (hx : (59 : UInt8) ∉ x) (h3 : x.length ≤ 3) : x.isPrefixOf (r.take m) = x.isPrefixOf r := by
  rw [Bool.eq_iff_iff, List.isPrefixOf_iff_prefix, List.isPrefixOf_iff_prefix]
  constructor
  · exact fun h => h.trans (List.take_prefix _ _)
  · intro hp
    rcases h with h | h | ⟨y, hy, -⟩
    · rw [List.take_of_length_le h]; exact hp
    · rw [List.prefix_take_iff]; exact ⟨hp, by omega⟩
    · exact (pre_take hx hy hp).1

theorem drop_far {r y : Bs} {m k : Nat} (hr : r.take m = y ++ [59]) (hk : k ≤ y.length) : (59 : UInt8) ∈ (r.drop k).take (m - k) := by
  have hl := congrArg List.length hr
  simp only [List.length_take, List.length_append, List.length_singleton] at hl
  have : (r.take m)[y.length]? = some 59 := by rw [hr]; simp
  rw [← List.drop_take]
  refine List.mem_of_getElem? (i := y.length - k) ?_
  rw [List.getElem?_drop, show k + (y.length - k) = y.length by omega]
  exact this

theorem refP_take (r : Bs) (m : Nat) (h : Far r m) : refP (r.take m) = refP r := by
  unfold refP
  rw [pre_eq h (by decide) (by simp), pre_eq h (by decide) (by simp), named_take r m h nms nms_all]
  split
  · rename_i hp
    rw [List.drop_take]
    refine num_take 16 6 3 (by omega) _ _ 0 0 (by omega) ?_
    rcases h with h | h | ⟨y, hy, -⟩
    · right; right; rw [List.length_drop]; omega
    · left; omega
    · right; left
      rw [List.isPrefixOf_iff_prefix] at hp
      exact drop_far hy (pre_take (by decide) hy hp).2
  · split
    · rename_i hp
      rw [List.drop_take]
      refine num_take 10 7 2 (by omega) _ _ 0 0 (by omega) ?_
      rcases h with h | h | ⟨y, hy, -⟩
      · right; right; rw [List.length_drop]; omega
      · left; omega
      · right; left
        rw [List.isPrefixOf_iff_prefix] at hp
        exact drop_far hy (pre_take (by decide) hy hp).2
    · rfl

/-- Where a number ends: at the first ; . -/
theorem num_semi (base most off : Nat) (hb : base ≤ 16) : ∀ (t : Bs) (i r : Nat), i ≤ most → (num base most off i r t).2.2 = 0 → ∃ (R j : Nat) (y : Bs), num base most off i r t = ((R : Int), ((off + j + 1 : Nat) : Int), 0) ∧ i ≤ j ∧ j ≤ most ∧ t.take (j - i + 1) = y ++ [59] ∧ (59 : UInt8) ∉ y := by
  intro t
  induction t with
  | nil => intro i r _ h; simp [num] at h
  | cons b t ih =>
    intro i r hi h
    rw [num] at h ⊢
    by_cases h1 : b.toNat = 59 ∧ 0 < i
    · rw [if_pos h1]
      have e : b = 59 := UInt8.toNat_inj.1 h1.1
      exact ⟨r, i, [], rfl, Nat.le_refl _, hi, by simp [e], by simp⟩
    · rw [if_neg h1] at h ⊢
      by_cases h2 : base ≤ dig b.toNat ∨ i = most
      · rw [if_pos h2] at h; simp at h
      · rw [if_neg h2] at h ⊢
        have hb59 : b ≠ 59 := fun e => h2 (.inl (by rw [dig59 e]; exact hb))
        obtain ⟨R, j, y, e1, e2, e3, e4, e5⟩ := ih (i + 1) _ (by omega) h
        refine ⟨R, j, b :: y, e1, by omega, e3, ?_, ?_⟩
        · rw [show j - i + 1 = (j - (i + 1) + 1) + 1 by omega, List.take_succ_cons, e4]; rfl
        · simp only [List.mem_cons, not_or]
          exact ⟨Ne.symm hb59, e5⟩

theorem named_semi (r : Bs) : ∀ ns : List (Bs × Nat), (∀ p ∈ ns, p.1.length ≤ 6 ∧ ∃ y, p.1 = y ++ [59] ∧ (59 : UInt8) ∉ y) → (namedF ns r).2.2 = 0 → ∃ (R n : Nat) (y : Bs), namedF ns r = ((R : Int), (n : Int), 0) ∧ n ≤ 6 ∧ r.take n = y ++ [59] ∧ (59 : UInt8) ∉ y := by
  intro ns
  induction ns with
  | nil => intro _ h; simp [namedF] at h
  | cons p ns ih =>
    intro hp h
    obtain ⟨x, v⟩ := p
    obtain ⟨hx6, y, hy, hyn⟩ := hp (x, v) (List.mem_cons_self ..)
    simp only at hx6 hy
    unfold namedF at h ⊢
    by_cases h1 : x.isPrefixOf r = true
    · rw [if_pos h1]
      refine ⟨v, x.length, y, rfl, hx6, ?_, hyn⟩
      rw [List.isPrefixOf_iff_prefix] at h1
      rw [← List.prefix_iff_eq_take.1 h1, hy]
    · rw [if_neg h1] at h ⊢
      by_cases h2 : r.isPrefixOf x = true
      · rw [if_pos h2] at h; simp at h
      · rw [if_neg h2] at h ⊢
        exact ih (fun q hq => hp q (List.mem_cons_of_mem _ hq)) h

theorem take_pre {x r z y : Bs} {k : Nat} (hx : x <+: r) (hn : (59 : UInt8) ∉ x) (h : (r.drop x.length).take k = y ++ [59]) (hy : (59 : UInt8) ∉ y) : r.take (x.length + k) = (x ++ y) ++ [59] ∧ (59 : UInt8) ∉ x ++ y := by
  obtain ⟨t, rfl⟩ := hx
  rw [List.drop_left] at h
  refine ⟨?_, by simp [hn, hy]⟩
  rw [List.take_length_add_append, h, List.append_assoc]

theorem refP_semi (r : Bs) (h : (refP r).2.2 = 0) : ∃ (R n : Nat) (y : Bs), refP r = ((R : Int), (n : Int), 0) ∧ n ≤ 10 ∧ r.take n = y ++ [59] ∧ (59 : UInt8) ∉ y := by
  unfold refP at h ⊢
  split
  · rename_i hp
    rw [if_pos hp] at h
    obtain ⟨R, j, y, e1, e2, e3, e4, e5⟩ := num_semi 16 6 3 (by omega) _ 0 0 (by omega) h
    rw [List.isPrefixOf_iff_prefix] at hp
    obtain ⟨f1, f2⟩ := take_pre (z := []) hp (by decide) e4 e5
    refine ⟨R, 3 + j + 1, _, e1, by omega, ?_, f2⟩
    rw [← f1]
    exact congrArg (fun z => List.take z r) (by simp; omega)
  · rename_i hp
    rw [if_neg hp] at h
    split
    · rename_i hp2
      rw [if_pos hp2] at h
      obtain ⟨R, j, y, e1, e2, e3, e4, e5⟩ := num_semi 10 7 2 (by omega) _ 0 0 (by omega) h
      rw [List.isPrefixOf_iff_prefix] at hp2
      obtain ⟨f1, f2⟩ := take_pre (z := []) hp2 (by decide) e4 e5
      refine ⟨R, 2 + j + 1, _, e1, by omega, ?_, f2⟩
      rw [← f1]
      exact congrArg (fun z => List.take z r) (by simp; omega)
    · rename_i hp2
      rw [if_neg hp2] at h
      obtain ⟨R, n, y, e1, e2, e3, e4⟩ := named_semi r nms nms_all h
      exact ⟨R, n, y, e1, by omega, e3, e4⟩

theorem refOf_far (r : Bs) : ∃ m, refOf r = r.take m ∧ Far r m := by
  unfold refOf
  cases hf : (r.take 10).findIdx? (· = (59 : UInt8)) with
  | none => exact ⟨10, rfl, .inr (.inl (Nat.le_refl _))⟩
  | some i =>
    obtain ⟨h1, h2, h3⟩ := List.findIdx?_eq_some_iff_getElem.1 hf
    have hl : i < 10 ∧ i < r.length := by simp only [List.length_take] at h1; omega
    have e1 : (r.take 10).take (i + 1) = r.take (i + 1) := by rw [List.take_take]; congr 1; omega
    refine ⟨i + 1, e1, .inr (.inr ⟨r.take i, ?_, ?_⟩)⟩
    · rw [List.take_add_one, List.getElem?_eq_getElem hl.2]
      have : r[i] = 59 := by simpa using h2
      rw [this]; rfl
    · intro hm
      obtain ⟨j, hj, e⟩ := List.mem_iff_getElem.1 hm
      have hj2 : j < i := by simp only [List.length_take] at hj; omega
      have h4 := h3 j hj2
      have : r[j] = 59 := by simpa using e
      simp [this] at h4

theorem refOf_semi {r y : Bs} {n : Nat} (hn : n ≤ 10) (h : r.take n = y ++ [59]) (hy : (59 : UInt8) ∉ y) : refOf r = r.take n := by
  have hl := congrArg List.length h
  simp only [List.length_take, List.length_append, List.length_singleton] at hl
  have hyl : y.length < r.length := by omega
  have hget : ∀ j (hj : j < r.length) (hjy : j ≤ y.length), r[j] = (y ++ [59])[j]'(by simp; omega) := by
    intro j hj hjy
    have : (r.take n)[j]? = (y ++ [59])[j]? := by rw [h]
    rw [List.getElem?_take, if_pos (by omega), List.getElem?_eq_getElem hj, List.getElem?_eq_getElem (by simp; omega)] at this
    exact Option.some.inj this
  have hf : (r.take 10).findIdx? (· = (59 : UInt8)) = some y.length := by
    rw [List.findIdx?_eq_some_iff_getElem]
    refine ⟨by simp only [List.length_take]; omega, ?_, ?_⟩
    · rw [List.getElem_take, hget _ hyl (Nat.le_refl _)]; simp
    · intro j hj
      rw [List.getElem_take, hget j (by omega) (by omega), List.getElem_append_left hj]
      have : y[j] ≠ 59 := fun e => hy (e ▸ List.getElem_mem hj)
      simpa using this
  unfold refOf
  rw [hf]
  simp only
  rw [List.take_take]
  have : min (y.length + 1) 10 = n ∨ (r.take (min (y.length + 1) 10) = r.take n) := by
    right
    by_cases hnr : n ≤ r.length
    · congr 1; omega
    · rw [List.take_of_length_le (by omega), List.take_of_length_le (by omega)]
  rcases this with e | e
  · rw [e]
  · exact e

theorem nextP_refOf {b : UInt8} {r : Bs} (hb : b = 38) : nextP (refOf (b :: r)) = nextP (b :: r) := by
  obtain ⟨m, e, hm⟩ := refOf_far (b :: r)
  have hp := refOf_pos (r := b :: r) (by simp)
  have h38 : b.toNat = 38 := by subst hb; rfl
  rw [e] at hp ⊢
  cases m with
  | zero => simp at hp
  | succ m =>
    have := refP_take (b :: r) (m + 1) hm
    rw [List.take_succ_cons] at this ⊢
    simp only [nextP, h38, if_true, this]

/-- Reading a letter is what nextP tells of all that is left. -/
theorem letterP_next {l : Bs} {s : St} (h : s.at_ < l.length) : letterP l s = if (nextP (l.drop s.at_)).2.2 = 0 then .inl ((enc (nextP (l.drop s.at_)).1.toNat), { s with at_ := s.at_ + (nextP (l.drop s.at_)).2.1.toNat }) else .inr (s.at_, (nextP (l.drop s.at_)).2.2) := by
  have hd := List.drop_eq_getElem_cons h
  by_cases hb : l[s.at_] = 38
  · rw [letterP_amp hd hb, hd]
    have hnr := nextP_refOf (r := l.drop (s.at_ + 1)) hb
    have hne : refOf (l[s.at_] :: l.drop (s.at_ + 1)) ≠ [] := fun e => by
      have := refOf_pos (r := l[s.at_] :: l.drop (s.at_ + 1)) (List.cons_ne_nil _ _)
      rw [e] at this; simp at this
    have hlen : ∃ k, (refOf (l[s.at_] :: l.drop (s.at_ + 1))).length = k + 1 := ⟨_, (Nat.succ_pred_eq_of_pos (List.length_pos_iff.2 hne)).symm⟩
    obtain ⟨k, hk⟩ := hlen
    have h38 : (l[s.at_]).toNat = 38 := by rw [hb]; rfl
    unfold refA uans
    generalize hR : l[s.at_] :: l.drop (s.at_ + 1) = r at *
    by_cases hz : (nextP r).2.2 = 0
    · obtain ⟨R, n, e1, hc, hn1, hn2⟩ := nextP_ok hz
      have hrf : nextP r = chkC (refP r) := by rw [← hR]; simp only [nextP, h38, if_true]
      have hz2 : (chkC (refP r)).2.2 = 0 := by rw [← hrf]; exact hz
      obtain ⟨f1, f2, -⟩ := chkC_ok hz2
      obtain ⟨R', n', y, g1, g2, g3, g4⟩ := refP_semi r f2
      have hnn : n' = n := by
        rw [hrf, f1, g1] at e1
        have h7 : (n' : Int) = (n : Int) := congrArg (fun z => z.2.1) e1
        omega
      subst hnn
      have hro : refOf r = r.take n' := refOf_semi g2 g3 g4
      have hrl : (refOf r).length = n' := by rw [hro, List.length_take]; omega
      rw [if_pos hz, e1]
      have hstep := unF_step (k := k) (pos := 0) (acc := []) hne (hnr.trans e1)
      have hsm : ¬ 16384 < ([] : Bs).length + size R := by have := size_pos R; simp; omega
      rw [hk, hstep, if_neg hsm, List.nil_append]
      have hdr : (refOf r).drop n' = [] := List.drop_eq_nil_of_le (by omega)
      rw [hdr, unF_end]
      simp only [if_true, Int.toNat_natCast]
      rw [← hk, hrl]
    · rw [if_neg hz, hk, unF_bad hne (by rw [hnr]; exact hz), hnr]
      simp only [hz, if_false]
  · rw [letterP_chr hd hb, hd]
    have h38 : (l[s.at_]).toNat ≠ 38 := fun e => hb (UInt8.toNat_inj.1 e)
    have hnx : nextP (l[s.at_] :: l.drop (s.at_ + 1)) = fans (l[s.at_] :: l.drop (s.at_ + 1)) := by simp only [nextP, h38, if_false]
    rw [hnx]
    cases hf : first (l[s.at_] :: l.drop (s.at_ + 1)) with
    | none =>
      rw [fans_no (l := l[s.at_] :: l.drop (s.at_ + 1)) (by rw [List.length_cons]; omega) hf]
      simp
    | some p =>
      obtain ⟨r0, n⟩ := p
      rw [fans_of hf]
      obtain ⟨h1, h2, t, h3⟩ := first_some hf
      simp only [if_true, Int.toNat_natCast]
      rw [h3, h2, List.take_left]

end Go.Proofs.YtmifejkddgcbmabGreat

/- The document's reader: a character of text; how far blanks go; what must come. -/
namespace Go.Proofs.YtmifejkddgcbmabGreat
open Go.RowKit
set_option linter.unusedVariables false
set_option linter.unusedSimpArgs false
attribute [local go_sem] Bel.cell Bel.fz

theorem Qd.setAt {w : World} {b B : Nat} {tx : ByteArray} {s : St} {hh : Bool} {vo vt : Value} {op : List ByteArray} {o : Bs} (h : Qd w b B tx (okQ s hh) vo vt op o) (n : Nat) {x : Int} (hx : x = (n : Int)) : Qd (w.setCell ⟨b, 1, none⟩ (.int .i64 x)) b B tx (okQ { s with at_ := n } hh) vo vt op o :=
  h.set 1 _ (by subst hx; simp [qC, okQ])

/-- A character or a reference, put into the text. -/
def charP (l : Bs) (s : St) (o : Bs) : Rs Bs := match letterP l s with
  | .inr (p, e) => .inr (p, e)
  | .inl (x, s1) => putP s1 o x s.at_

theorem putP_at {s : St} {o x : Bs} {a n : Nat} : putP { s with at_ := n } o x a = match putP s o x a with
    | .inl (o1, s1) => .inl (o1, { s1 with at_ := n })
    | .inr (p, e) => .inr (p, e) := by
  unfold putP
  by_cases ho : o = []
  · simp only [ho, if_true]
    unfold beginP
    simp only
    by_cases hb : s.nodes = 4096 ∨ s.op = 64
    · simp only [hb, if_true]
    · simp only [hb, if_false]
      unfold growP
      split <;> rfl
  · simp only [ho, if_false]
    unfold growP
    split <;> rfl

set_option maxRecDepth 100000 in
set_option maxHeartbeats 2000000 in
theorem qchar_any (w : World) (b B : Nat) (tx : ByteArray) (s : St) (op : List ByteArray) (o : Bs) (h : QS w b B tx s op o) (ok : Ok tx s) (hl : o.length ≤ 16384) (hlt : s.at_ < tx.size) :
    Calls Tryz.prog 80 #[.pointer (some ⟨b, 0, none⟩)] w (QPost w b B tx tx.size op (charP tx.data.toList s o) id fun _ e w' => e = .returned (.tuple #[])) := by
  have hlet := letterP_next (l := tx.data.toList) (s := s) (by rw [size_list]; exact hlt)
  have HOK : Hid (Ok tx s) := ok
  obtain ⟨k1, k2, k3, k4⟩ := ok
  have hnx := fun W => rnext_any W tx s.at_ hlt (by omega)
  obtain ⟨hop, vo, vt, h⟩ := h
  have HQ : Hid (Qd w b B tx (okQ s (hasB o)) vo vt op o) := h
  have HOP : Hid (op.length = s.op) := hop
  obtain ⟨h0, h1, h2, h3, h4, h5, h6, h7, fz, hb⟩ := h.facts
  have e1 : (okQ s (hasB o)).at_ = s.at_ := rfl
  rw [e1] at h1
  unfold nbytes nlen at hnx
  by_cases hz : (nextP (tx.data.toList.drop s.at_)).2.2 = 0
  · obtain ⟨R, n, e2, hc, hn1, hn2⟩ := nextP_ok hz
    rw [if_pos hz] at hlet
    simp only [if_pos hz] at hnx
    rw [e2] at hlet hnx
    rw [List.length_drop, size_list] at hn2
    simp only [Int.toNat_natCast] at hlet hnx
    have hRs := enc_length R
    have hRp := size_pos R
    have hput := fun (W : World) (hq : QS W b B tx s op o) => qadd_at W b B tx s op o hq HOK.out hl (⟨(enc R).toArray⟩ : ByteArray) (by show 0 < ((enc R).toArray).size; rw [List.size_toArray]; omega) (by show ((enc R).toArray).size ≤ 40; rw [List.size_toArray]; omega) s.at_
    have HG : Hid (charP tx.data.toList s o = match putP s o (enc R) s.at_ with
        | .inl (o1, s1) => .inl (o1, { s1 with at_ := s.at_ + n })
        | .inr (p, e) => .inr (p, e)) := by
      show charP _ _ _ = _
      unfold charP
      rw [hlet]
      exact putP_at
    clear hlet e2 hz h hop
    go_enter Tryz.func80, Tryz.ntmps80
    go_wp2
    refine wp_region_bel (by kernel_rfl) (by kernel_rfl) ?_
    intro hne
    repeat go_big_quiet_step ((go_at_call 105; exact Calls.bel_of (hnx _)))
    refine wpQuiet_nil ?_
    rintro _ ⟨u, rfl⟩
    have HQu : Hid (Qd u.w b B tx (okQ s (hasB o)) vo vt op o) := HQ.out.below u.h
    have HTu : Hid (Turn (fun k => k = b ∨ B ≤ k) w u.w) := turn_below _ u.h (Nat.le_refl _)
    clear h0 h1 h2 h3 h4 h5 h6 h7 fz hb hnx
    obtain ⟨h0, h1, h2, h3, h4, h5, h6, h7, fz, hb⟩ := HQu.out.facts
    rw [e1] at h1
    have hp2 := hput u.w ⟨HOP.out, vo, vt, HQu.out⟩
    clear hput
    go_wp2_with fail
    refine hp2.mono ?_
    rintro e w2 ⟨-, hpost, -, hcell⟩
    cases hpp : putP s o (enc R) s.at_ with
    | inr q_ =>
      obtain ⟨p, c⟩ := q_
      rw [hpp] at hpost
      obtain ⟨⟨v, rfl⟩, ⟨hc0, q, vo2, vt2, op2, o2, hq2, he2, hp2', ha2, hol2⟩, ht2⟩ := hpost
      have hqs : q.at_ = s.at_ := by
        have h9 := hq2.facts.2.1
        rw [hcell] at h9
        have h8 : (s.at_ : Int) = (q.at_ : Int) := by injection h9 with h9; injection h9
        omega
      have HN2 : Hid (q.at_ + n ≤ tx.size) := (by omega : q.at_ + n ≤ tx.size)
      clear hqs hcell
      have HG2 : Hid (charP tx.data.toList s o = .inr (p, c)) := by show charP _ _ _ = _; rw [HG.out, hpp]
      have HQ2 : Hid (Qd (w2.setCell ⟨b, 1, none⟩ (.int .i64 ((q.at_ : Int) + (n : Int)))) b B tx { q with at_ := q.at_ + n } vo2 vt2 op2 o2) := hq2.set 1 _ (by simp [qC])
      have HT2 : Hid (Turn (fun k => k = b ∨ B ≤ k) w (w2.setCell ⟨b, 1, none⟩ (.int .i64 ((q.at_ : Int) + (n : Int))))) := (HTu.out.trans ht2).setCell (p := ⟨b, 1, none⟩) (.inl rfl) _
      have HX : Hid (c ≠ 0 ∧ q.err = c ∧ q.place = p ∧ o2.length ≤ 100000) := ⟨hc0, he2, hp2', hol2⟩
      clear h0 h1 h2 h3 h4 h5 h6 h7 fz hb hpp HG hp2
      obtain ⟨h0, h1, h2, h3, h4, h5, h6, h7, fz, hb⟩ := hq2.facts
      clear hc0 he2 hp2' hol2 hq2 ht2
      go_wp2
      go_end0
      exact QPost.no HG2.out ⟨HX.out.1, _, _, _, _, _, HQ2.out, HX.out.2.1, HX.out.2.2.1, HN2.out, HX.out.2.2.2⟩ HT2.out
    | inl q_ =>
      obtain ⟨o1, s1⟩ := q_
      rw [hpp] at hpost
      obtain ⟨rfl, ⟨hop2, vo2, vt2, hq2⟩, ht2⟩ := hpost
      clear hcell
      have HG2 : Hid (charP tx.data.toList s o = .inl (o1, { s1 with at_ := s.at_ + n })) := by show charP _ _ _ = _; rw [HG.out, hpp]
      obtain ⟨p1, -, -, -, -⟩ := putP_ok hpp
      have HQ2 : Hid (Qd (w2.setCell ⟨b, 1, none⟩ (.int .i64 ((s1.at_ : Int) + (n : Int)))) b B tx (okQ { s1 with at_ := s.at_ + n } (hasB (id o1))) vo2 vt2 op (id o1)) := hq2.setAt _ (by omega)
      have HT2 : Hid (Turn (fun k => k = b ∨ B ≤ k) w (w2.setCell ⟨b, 1, none⟩ (.int .i64 ((s1.at_ : Int) + (n : Int))))) := (HTu.out.trans ht2).setCell (p := ⟨b, 1, none⟩) (.inl rfl) _
      have HOP2 : Hid (op.length = s1.op) := hop2
      have hs1b : s1.at_ ≤ tx.size := by omega
      clear h0 h1 h2 h3 h4 h5 h6 h7 fz hb hpp HG hp2 p1
      obtain ⟨h0, h1, h2, h3, h4, h5, h6, h7, fz, hb⟩ := hq2.facts
      have e9 : (okQ s1 (hasB (id o1))).at_ = s1.at_ := rfl
      rw [e9] at h1
      clear hq2 ht2 hop2
      go_wp2
      go_end0
      exact QPost.yes HG2.out rfl ⟨HOP2.out, _, _, HQ2.out⟩ HT2.out
  · rw [if_neg hz] at hlet
    simp only [if_neg hz] at hnx
    have HG : Hid (charP tx.data.toList s o = .inr (s.at_, (nextP (tx.data.toList.drop s.at_)).2.2)) := by show charP _ _ _ = _; unfold charP; rw [hlet]
    have hbad := fun (W : World) (hq : Qd W b B tx (okQ s (hasB o)) vo vt op o) => qbad_any W b B tx _ vo vt op o hq s.at_ (nextP (tx.data.toList.drop s.at_)).2.2
    have HZ : Hid (¬ (nextP (tx.data.toList.drop s.at_)).2.2 = 0) := hz
    have t1 : ((nextP (tx.data.toList.drop s.at_)).2.2 != 0) = true := bne_iff_ne.2 hz
    clear hlet hz h hop
    generalize (nextP (tx.data.toList.drop s.at_)).2.2 = ec at *
    go_enter Tryz.func80, Tryz.ntmps80
    go_wp2
    refine wp_region_bel (by kernel_rfl) (by kernel_rfl) ?_
    intro hne
    repeat go_big_quiet_step ((go_at_call 105; exact Calls.bel_of (hnx _)))
    refine wpQuiet_nil ?_
    rintro _ ⟨u, rfl⟩
    have HQu : Hid (Qd u.w b B tx (okQ s (hasB o)) vo vt op o) := HQ.out.below u.h
    have HTu : Hid (Turn (fun k => k = b ∨ B ≤ k) w u.w) := turn_below _ u.h (Nat.le_refl _)
    clear h0 h1 h2 h3 h4 h5 h6 h7 fz hb hnx
    obtain ⟨h0, h1, h2, h3, h4, h5, h6, h7, fz, hb⟩ := HQu.out.facts
    rw [e1] at h1
    have hb2 := hbad u.w HQu.out
    clear hbad
    go_wp2_with fail
    refine hb2.mono ?_
    rintro e w2 ⟨rfl, hq2, ht2⟩
    have HT2 : Hid (Turn (fun k => k = b ∨ B ≤ k) w w2) := HTu.out.trans (ht2.mono (fun k _ e => .inl e))
    have HQ2 : Hid (Qd w2 b B tx (badQ (okQ s (hasB o)) s.at_ ec) vo vt op o) := hq2
    clear hb2 hq2 ht2
    go_wp2
    first | go_end0 | refine bodyPost_ret (results_none rfl _ _ _) rfl ?_
    exact QPost.no HG.out ⟨HZ.out, _, _, _, _, _, HQ2.out, rfl, rfl, by simp only [badQ, okQ, if_true]; omega, by omega⟩ HT2.out

end Go.Proofs.YtmifejkddgcbmabGreat
