/- The document's reader: what stands next. -/
import Derived.Test.YtmifejkddgcbmabGreatB07
namespace Go.Proofs.YtmifejkddgcbmabGreat
open Go.RowKit
set_option linter.unusedVariables false
set_option linter.unusedSimpArgs false
attribute [local go_sem] Bel.cell Bel.fz

abbrev pRem : Bs := [60, 33, 45, 45]
abbrev pAsk : Bs := [60, 63]
abbrev pRaw : Bs := [60, 33, 91, 67, 68, 65, 84, 65, 91]
abbrev pEnd : Bs := [60, 47]

/-- What stands at a place: 0 the end of all, 1 an element, 2 something of a text, 3 an end; or what is wrong. -/
def nextK (l : Bs) (s : St) : Rs Int := match l[s.at_]? with
  | none => .inl (0, s)
  | some c => if c ≠ 60 then .inl (2, s) else if seesP l pEnd s.at_ then .inl (3, s) else if seesP l pRem s.at_ || seesP l pAsk s.at_ || seesP l pRaw s.at_ then .inl (2, s)
    else if shortP l pRem s.at_ || shortP l pRaw s.at_ || shortP l pEnd s.at_ then .inr (s.at_, 4) else match l[s.at_ + 1]? with
      | none => .inr (s.at_, 3)
      | some d => if beginB d.toNat then .inl (1, s) else .inr (s.at_, 3)

theorem short_last {l : Bs} {s : St} (h : l.drop s.at_ = [60]) (hl : s.at_ < l.length) : shortP l pEnd s.at_ = true := by
  have hlen : l.length - s.at_ = 1 := by rw [← List.length_drop, h]; rfl
  unfold shortP breaksP
  rw [h, hlen]; decide

/-- What 'next' leaves. -/
def NextPost (w : World) (b B : Nat) (tx : ByteArray) (op : List ByteArray) (o : Bs) (r : Rs Int) (e : Ending) (w' : World) : Prop := Turn (fun x => x = b) w w' ∧ match r with
  | .inl (k, s) => e = .returned (.int .i64 k) ∧ QS w' b B tx s op o
  | .inr (p, c) => e = .returned (.int .i64 4) ∧ QE w' b B tx tx.size p c

set_option maxRecDepth 100000 in
set_option maxHeartbeats 4000000 in
theorem qnext_any (w : World) (b B : Nat) (tx : ByteArray) (s : St) (op : List ByteArray) (o : Bs) (h : QS w b B tx s op o) (ok : Ok tx s) (hol : o.length ≤ 16384) :
    Calls Tryz.prog 46 #[.pointer (some ⟨b, 0, none⟩)] w (NextPost w b B tx op o (nextK tx.data.toList s)) := by
  obtain ⟨hop, vo, vt, h⟩ := h
  obtain ⟨k1, k2, k3, k4⟩ := ok
  have HOP : Hid (op.length = s.op) := hop
  have HQ : Hid (Qd w b B tx (okQ s (hasB o)) vo vt op o) := h
  obtain ⟨h0, h1, h2, h3, h4, h5, h6, h7, fz, hb⟩ := h.facts
  have e0 : (okQ s (hasB o)).at_ = s.at_ := rfl
  rw [e0] at h1
  clear h hop
  by_cases ha : s.at_ < tx.size
  · have t0 : ((s.at_ : Int) == (tx.size : Int)) = false := by simp; omega
    have ge := get_some ha
    by_cases hc : tx[s.at_]'ha = 60
    · have tc : (((tx[s.at_]'ha).toNat : Int) != 60) = false := by rw [hc]; rfl
      have hst := fun (W : World) (hq : Qd W b B tx (okQ s (hasB o)) vo vt op o) (p : ByteArray) (hp : 0 < p.size) (hp2 : p.size ≤ 100) => qstarts_any W b B tx _ vo vt op o hq k1 (by rw [e0]; exact k2) p hp hp2
      have hsh := fun (W : World) (hq : Qd W b B tx (okQ s (hasB o)) vo vt op o) (p : ByteArray) (hp2 : p.size ≤ 100) => qshort_any W b B tx _ vo vt op o hq k1 (by rw [e0]; exact k2) p hp2
      have s1 := fun (W : World) (hq : Qd W b B tx (okQ s (hasB o)) vo vt op o) => hst W hq ⟨#[60, 47]⟩ (by decide) (by decide)
      have s2 := fun (W : World) (hq : Qd W b B tx (okQ s (hasB o)) vo vt op o) => hst W hq ⟨#[60, 33, 45, 45]⟩ (by decide) (by decide)
      have s3 := fun (W : World) (hq : Qd W b B tx (okQ s (hasB o)) vo vt op o) => hst W hq ⟨#[60, 63]⟩ (by decide) (by decide)
      have s4 := fun (W : World) (hq : Qd W b B tx (okQ s (hasB o)) vo vt op o) => hst W hq ⟨#[60, 33, 91, 67, 68, 65, 84, 65, 91]⟩ (by decide) (by decide)
      have r1 := fun (W : World) (hq : Qd W b B tx (okQ s (hasB o)) vo vt op o) => hsh W hq ⟨#[60, 33, 45, 45]⟩ (by decide)
      have r2 := fun (W : World) (hq : Qd W b B tx (okQ s (hasB o)) vo vt op o) => hsh W hq ⟨#[60, 33, 91, 67, 68, 65, 84, 65, 91]⟩ (by decide)
      have r3 := fun (W : World) (hq : Qd W b B tx (okQ s (hasB o)) vo vt op o) => hsh W hq ⟨#[60, 47]⟩ (by decide)
      simp only [e0] at s1 s2 s3 s4 r1 r2 r3
      clear hst hsh
      have HNK : Hid (nextK tx.data.toList s = if seesP tx.data.toList pEnd s.at_ then .inl (3, s) else if seesP tx.data.toList pRem s.at_ || seesP tx.data.toList pAsk s.at_ || seesP tx.data.toList pRaw s.at_ then .inl (2, s)
        else if shortP tx.data.toList pRem s.at_ || shortP tx.data.toList pRaw s.at_ || shortP tx.data.toList pEnd s.at_ then .inr (s.at_, 4) else match tx.data.toList[s.at_ + 1]? with
          | none => .inr (s.at_, 3)
          | some d => if beginB d.toNat then .inl (1, s) else .inr (s.at_, 3)) := by
        show nextK _ _ = _
        unfold nextK
        rw [ge]
        simp only [hc, ne_eq, not_true_eq_false, if_false]
      have HLST : Hid (tx.data.toList.drop s.at_ = 60 :: tx.data.toList.drop (s.at_ + 1)) := by show _ = _; rw [drop_get ha, hc]
      clear ge hc
      go_enter Tryz.func46, Tryz.ntmps46
      go_wp2_with (go_region)
      cases hS1 : seesP tx.data.toList [60, 47] s.at_
      · rw [hS1] at s1
        refine (s1 _ HQ.out.drew.drew).mono ?_
        rintro e w1 ⟨rfl, hb1⟩
        have HB1 : Hid (Below w.heap.size w w1) := (Below.refl _ w).drew.drew.trans hb1
        have HQ1 : Hid (Qd w1 b B tx (okQ s (hasB o)) vo vt op o) := HQ.out.below HB1.out
        clear hb1 s1
        go_wp2_with fail
        cases hS2 : seesP tx.data.toList pRem s.at_
        · rw [hS2] at s2
          refine (s2 _ HQ1.out).mono ?_
          rintro e w2 ⟨rfl, hb2⟩
          have HB2 : Hid (Below w.heap.size w w2) := HB1.out.trans (hb2.mono HB1.out.size)
          have HQ2 : Hid (Qd w2 b B tx (okQ s (hasB o)) vo vt op o) := HQ1.out.below hb2
          clear hb2 s2
          go_wp2_with fail
          cases hS3 : seesP tx.data.toList pAsk s.at_
          · rw [hS3] at s3
            refine (s3 _ HQ2.out).mono ?_
            rintro e w3 ⟨rfl, hb3⟩
            have HB3 : Hid (Below w.heap.size w w3) := HB2.out.trans (hb3.mono HB2.out.size)
            have HQ3 : Hid (Qd w3 b B tx (okQ s (hasB o)) vo vt op o) := HQ2.out.below hb3
            clear hb3 s3
            go_wp2_with fail
            cases hS4 : seesP tx.data.toList pRaw s.at_
            · rw [hS4] at s4
              refine (s4 _ HQ3.out).mono ?_
              rintro e w4 ⟨rfl, hb4⟩
              have HB4 : Hid (Below w.heap.size w w4) := HB3.out.trans (hb4.mono HB3.out.size)
              have HQ4 : Hid (Qd w4 b B tx (okQ s (hasB o)) vo vt op o) := HQ3.out.below hb4
              clear hb4 s4
              go_wp2_with fail
              cases hR1 : shortP tx.data.toList pRem s.at_
              · rw [hR1] at r1
                refine (r1 _ HQ4.out).mono ?_
                rintro e w5 ⟨rfl, hb5⟩
                have HB5 : Hid (Below w.heap.size w w5) := HB4.out.trans (hb5.mono HB4.out.size)
                have HQ5 : Hid (Qd w5 b B tx (okQ s (hasB o)) vo vt op o) := HQ4.out.below hb5
                clear hb5 r1
                go_wp2_with fail
                cases hR2 : shortP tx.data.toList pRaw s.at_
                · rw [hR2] at r2
                  refine (r2 _ HQ5.out).mono ?_
                  rintro e w6 ⟨rfl, hb6⟩
                  have HB6 : Hid (Below w.heap.size w w6) := HB5.out.trans (hb6.mono HB5.out.size)
                  have HQ6 : Hid (Qd w6 b B tx (okQ s (hasB o)) vo vt op o) := HQ5.out.below hb6
                  clear hb6 r2
                  go_wp2_with fail
                  cases hR3 : shortP tx.data.toList pEnd s.at_
                  · rw [hR3] at r3
                    refine (r3 _ HQ6.out).mono ?_
                    rintro e w7 ⟨rfl, hb7⟩
                    have HB7 : Hid (Below w.heap.size w w7) := HB6.out.trans (hb7.mono HB6.out.size)
                    have HQ7 : Hid (Qd w7 b B tx (okQ s (hasB o)) vo vt op o) := HQ6.out.below hb7
                    clear hb7 r3
                    have hl2 : s.at_ + 1 < tx.size := by
                      refine Decidable.byContradiction fun hx => ?_
                      have h60 : tx.data.toList.drop s.at_ = [60] := by rw [HLST.out, List.drop_eq_nil_of_le (by rw [size_list]; omega)]
                      have := short_last h60 (by rw [size_list]; exact ha)
                      rw [hR3] at this; cases this
                    have hix := fun W => idx_next hl2 W
                    have hbe := fun W => begins_any W (tx[s.at_ + 1]'hl2).toNat (UInt8.toNat_lt _)
                    have ge2 := get_some hl2
                    clear h0 h1 h2 h3 h4 h5 h6 h7 fz hb
                    obtain ⟨h0, h1, h2, h3, h4, h5, h6, h7, fz, hb⟩ := HQ7.out.facts
                    rw [e0] at h1
                    cases hc2 : beginB (tx[s.at_ + 1]'hl2).toNat
                    · rw [hc2] at hbe
                      have HG : Hid (nextK tx.data.toList s = .inr (s.at_, 3)) := by
                        show _ = _
                        rw [HNK.out]
                        simp only [hS1, hS2, hS3, hS4, hR1, hR2, hR3, ge2, hc2, Bool.or_self, Bool.false_eq_true, if_false]
                      have hbad := fun (W : World) (hq : Qd W b B tx (okQ s (hasB o)) vo vt op o) => qbad_any W b B tx _ vo vt op o hq s.at_ 3
                      clear hc2 ge2 hS1 hS2 hS3 hS4 hR1 hR2 hR3
                      go_wp2
                      refine wp_region_bel (by kernel_rfl) (by kernel_rfl) ?_
                      intro hne
                      repeat go_big_quiet_step ((go_at_call 77; exact Calls.bel_of_same (hbe _)))
                      refine wpQuiet_nil ?_
                      rintro _ ⟨u, rfl⟩
                      have HQu : Hid (Qd u.w b B tx (okQ s (hasB o)) vo vt op o) := HQ7.out.below u.h
                      have HBu : Hid (Below w.heap.size w u.w) := HB7.out.trans (u.h.mono HB7.out.size)
                      clear h0 h1 h2 h3 h4 h5 h6 h7 fz hb
                      obtain ⟨h0, h1, h2, h3, h4, h5, h6, h7, fz, hb⟩ := HQu.out.facts
                      rw [e0] at h1
                      go_wp2_with fail
                      refine (hbad _ HQu.out).mono ?_
                      rintro e w9 ⟨rfl, hq9, ht9⟩
                      have HQ9 : Hid _ := hq9
                      have HT9 : Hid (Turn (fun x => x = b) w w9) := (turn_below _ HBu.out (Nat.le_refl _)).trans ht9
                      clear hbad hq9 ht9
                      go_wp2
                      go_ret
                      rw [HG.out]
                      exact ⟨HT9.out, rfl, by decide, _, _, _, _, _, HQ9.out, rfl, rfl, by simp only [badQ, okQ, if_true]; omega, by omega⟩
                    · rw [hc2] at hbe
                      have HG : Hid (nextK tx.data.toList s = .inl (1, s)) := by
                        show _ = _
                        rw [HNK.out]
                        simp only [hS1, hS2, hS3, hS4, hR1, hR2, hR3, ge2, hc2, Bool.or_self, Bool.false_eq_true, if_false, if_true]
                      clear hc2 ge2 hS1 hS2 hS3 hS4 hR1 hR2 hR3
                      go_wp2
                      refine wp_region_bel (by kernel_rfl) (by kernel_rfl) ?_
                      intro hne
                      repeat go_big_quiet_step ((go_at_call 77; exact Calls.bel_of_same (hbe _)))
                      refine wpQuiet_nil ?_
                      rintro _ ⟨u, rfl⟩
                      have HQu : Hid (Qd u.w b B tx (okQ s (hasB o)) vo vt op o) := HQ7.out.below u.h
                      have HBu : Hid (Below w.heap.size w u.w) := HB7.out.trans (u.h.mono HB7.out.size)
                      go_wp2
                      go_ret
                      rw [HG.out]
                      exact ⟨turn_below _ HBu.out (Nat.le_refl _), rfl, HOP.out, vo, vt, HQu.out⟩
                  · rw [hR3] at r3
                    have HG : Hid (nextK tx.data.toList s = .inr (s.at_, 4)) := by
                      show _ = _
                      rw [HNK.out]
                      simp only [hS1, hS2, hS3, hS4, hR1, hR2, hR3, Bool.or_true, Bool.true_or, Bool.or_self, Bool.false_eq_true, if_false, if_true]
                    have hbad := fun (W : World) (hq : Qd W b B tx (okQ s (hasB o)) vo vt op o) => qbad_any W b B tx _ vo vt op o hq s.at_ 4
                    refine (r3 _ HQ6.out).mono ?_
                    rintro e w7 ⟨rfl, hb7⟩
                    have HB7 : Hid (Below w.heap.size w w7) := HB6.out.trans (hb7.mono HB6.out.size)
                    have HQ7 : Hid (Qd w7 b B tx (okQ s (hasB o)) vo vt op o) := HQ6.out.below hb7
                    clear hb7 r3
                    clear h0 h1 h2 h3 h4 h5 h6 h7 fz hb
                    obtain ⟨h0, h1, h2, h3, h4, h5, h6, h7, fz, hb⟩ := HQ7.out.facts
                    rw [e0] at h1
                    go_wp2_with fail
                    refine (hbad _ HQ7.out).mono ?_
                    rintro e w9 ⟨rfl, hq9, ht9⟩
                    have HQ9 : Hid _ := hq9
                    have HT9 : Hid (Turn (fun x => x = b) w w9) := (turn_below _ HB7.out (Nat.le_refl _)).trans ht9
                    clear hbad hq9 ht9
                    go_wp2
                    go_ret
                    rw [HG.out]
                    exact ⟨HT9.out, rfl, by decide, _, _, _, _, _, HQ9.out, rfl, rfl, by simp only [badQ, okQ, if_true]; omega, by omega⟩
                · rw [hR2] at r2
                  have HG : Hid (nextK tx.data.toList s = .inr (s.at_, 4)) := by
                    show _ = _
                    rw [HNK.out]
                    simp only [hS1, hS2, hS3, hS4, hR1, hR2, Bool.or_true, Bool.true_or, Bool.or_self, Bool.false_eq_true, if_false, if_true]
                  have hbad := fun (W : World) (hq : Qd W b B tx (okQ s (hasB o)) vo vt op o) => qbad_any W b B tx _ vo vt op o hq s.at_ 4
                  refine (r2 _ HQ5.out).mono ?_
                  rintro e w6 ⟨rfl, hb6⟩
                  have HB6 : Hid (Below w.heap.size w w6) := HB5.out.trans (hb6.mono HB5.out.size)
                  have HQ6 : Hid (Qd w6 b B tx (okQ s (hasB o)) vo vt op o) := HQ5.out.below hb6
                  clear hb6 r2
                  clear r3
                  clear h0 h1 h2 h3 h4 h5 h6 h7 fz hb
                  obtain ⟨h0, h1, h2, h3, h4, h5, h6, h7, fz, hb⟩ := HQ6.out.facts
                  rw [e0] at h1
                  go_wp2_with fail
                  refine (hbad _ HQ6.out).mono ?_
                  rintro e w9 ⟨rfl, hq9, ht9⟩
                  have HQ9 : Hid _ := hq9
                  have HT9 : Hid (Turn (fun x => x = b) w w9) := (turn_below _ HB6.out (Nat.le_refl _)).trans ht9
                  clear hbad hq9 ht9
                  go_wp2
                  go_ret
                  rw [HG.out]
                  exact ⟨HT9.out, rfl, by decide, _, _, _, _, _, HQ9.out, rfl, rfl, by simp only [badQ, okQ, if_true]; omega, by omega⟩
              · rw [hR1] at r1
                have HG : Hid (nextK tx.data.toList s = .inr (s.at_, 4)) := by
                  show _ = _
                  rw [HNK.out]
                  simp only [hS1, hS2, hS3, hS4, hR1, Bool.or_true, Bool.true_or, Bool.or_self, Bool.false_eq_true, if_false, if_true]
                have hbad := fun (W : World) (hq : Qd W b B tx (okQ s (hasB o)) vo vt op o) => qbad_any W b B tx _ vo vt op o hq s.at_ 4
                refine (r1 _ HQ4.out).mono ?_
                rintro e w5 ⟨rfl, hb5⟩
                have HB5 : Hid (Below w.heap.size w w5) := HB4.out.trans (hb5.mono HB4.out.size)
                have HQ5 : Hid (Qd w5 b B tx (okQ s (hasB o)) vo vt op o) := HQ4.out.below hb5
                clear hb5 r1
                clear r2 r3
                clear h0 h1 h2 h3 h4 h5 h6 h7 fz hb
                obtain ⟨h0, h1, h2, h3, h4, h5, h6, h7, fz, hb⟩ := HQ5.out.facts
                rw [e0] at h1
                go_wp2_with fail
                refine (hbad _ HQ5.out).mono ?_
                rintro e w9 ⟨rfl, hq9, ht9⟩
                have HQ9 : Hid _ := hq9
                have HT9 : Hid (Turn (fun x => x = b) w w9) := (turn_below _ HB5.out (Nat.le_refl _)).trans ht9
                clear hbad hq9 ht9
                go_wp2
                go_ret
                rw [HG.out]
                exact ⟨HT9.out, rfl, by decide, _, _, _, _, _, HQ9.out, rfl, rfl, by simp only [badQ, okQ, if_true]; omega, by omega⟩
            · rw [hS4] at s4
              have HG : Hid (nextK tx.data.toList s = .inl (2, s)) := by
                show _ = _
                rw [HNK.out]
                simp only [hS1, hS2, hS3, hS4, Bool.or_true, Bool.true_or, Bool.false_eq_true, if_false, if_true]
              refine (s4 _ HQ3.out).mono ?_
              rintro e w4 ⟨rfl, hb4⟩
              have HB4 : Hid (Below w.heap.size w w4) := HB3.out.trans (hb4.mono HB3.out.size)
              have HQ4 : Hid (Qd w4 b B tx (okQ s (hasB o)) vo vt op o) := HQ3.out.below hb4
              clear hb4 s4
              clear r1 r2 r3
              go_wp2
              go_ret
              rw [HG.out]
              exact ⟨turn_below _ HB4.out (Nat.le_refl _), rfl, HOP.out, vo, vt, HQ4.out⟩
          · rw [hS3] at s3
            have HG : Hid (nextK tx.data.toList s = .inl (2, s)) := by
              show _ = _
              rw [HNK.out]
              simp only [hS1, hS2, hS3, Bool.or_true, Bool.true_or, Bool.false_eq_true, if_false, if_true]
            refine (s3 _ HQ2.out).mono ?_
            rintro e w3 ⟨rfl, hb3⟩
            have HB3 : Hid (Below w.heap.size w w3) := HB2.out.trans (hb3.mono HB2.out.size)
            have HQ3 : Hid (Qd w3 b B tx (okQ s (hasB o)) vo vt op o) := HQ2.out.below hb3
            clear hb3 s3
            clear s4 r1 r2 r3
            go_wp2
            go_ret
            rw [HG.out]
            exact ⟨turn_below _ HB3.out (Nat.le_refl _), rfl, HOP.out, vo, vt, HQ3.out⟩
        · rw [hS2] at s2
          have HG : Hid (nextK tx.data.toList s = .inl (2, s)) := by
            show _ = _
            rw [HNK.out]
            simp only [hS1, hS2, Bool.or_true, Bool.true_or, Bool.false_eq_true, if_false, if_true]
          refine (s2 _ HQ1.out).mono ?_
          rintro e w2 ⟨rfl, hb2⟩
          have HB2 : Hid (Below w.heap.size w w2) := HB1.out.trans (hb2.mono HB1.out.size)
          have HQ2 : Hid (Qd w2 b B tx (okQ s (hasB o)) vo vt op o) := HQ1.out.below hb2
          clear hb2 s2
          clear s3 s4 r1 r2 r3
          go_wp2
          go_ret
          rw [HG.out]
          exact ⟨turn_below _ HB2.out (Nat.le_refl _), rfl, HOP.out, vo, vt, HQ2.out⟩
      · rw [hS1] at s1
        have HG : Hid (nextK tx.data.toList s = .inl (3, s)) := by show _ = _; rw [HNK.out, if_pos hS1]
        refine (s1 _ HQ.out.drew.drew).mono ?_
        rintro e w1 ⟨rfl, hb1⟩
        have HB1 : Hid (Below w.heap.size w w1) := (Below.refl _ w).drew.drew.trans hb1
        have HQ1 : Hid (Qd w1 b B tx (okQ s (hasB o)) vo vt op o) := HQ.out.below HB1.out
        clear hb1 s1 s2 s3 s4 r1 r2 r3
        go_wp2
        go_ret
        rw [HG.out]
        exact ⟨turn_below _ HB1.out (Nat.le_refl _), rfl, HOP.out, vo, vt, HQ1.out⟩
    · have tc : (((tx[s.at_]'ha).toNat : Int) != 60) = true := by
        have : (tx[s.at_]'ha).toNat ≠ 60 := fun e => hc (UInt8.toNat_inj.1 e)
        simp; omega
      have HG : Hid (nextK tx.data.toList s = .inl (2, s)) := by show nextK _ _ = _; unfold nextK; rw [ge]; simp only [hc, ne_eq, not_false_eq_true, if_true]
      clear ge hc
      go_enter Tryz.func46, Tryz.ntmps46
      go_wp2_with (go_region)
      go_ret
      rw [HG.out]
      exact ⟨(Turn.refl _ w).drew.drew, rfl, HOP.out, vo, vt, HQ.out.drew.drew⟩
  · have t0 : ((s.at_ : Int) == (tx.size : Int)) = true := by simp; omega
    have HG : Hid (nextK tx.data.toList s = .inl (0, s)) := by show nextK _ _ = _; unfold nextK; rw [get_no (Nat.le_of_not_lt ha)]
    go_enter Tryz.func46, Tryz.ntmps46
    go_wp2_with (go_region)
    go_ret
    rw [HG.out]
    exact ⟨(Turn.refl _ w).drew, rfl, HOP.out, vo, vt, HQ.out.drew⟩

end Go.Proofs.YtmifejkddgcbmabGreat
