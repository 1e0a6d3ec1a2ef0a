/- The document's reader: an end. -/
import Derived.Test.YtmifejkddgcbmabGreatB08
namespace Go.Proofs.YtmifejkddgcbmabGreat
open Go.RowKit
set_option linter.unusedVariables false
set_option linter.unusedSimpArgs false
attribute [local go_sem] Bel.cell Bel.fz

/-- Behind the '</'. -/
def endQ (l : Bs) (op : List ByteArray) (p : Nat) (s : St) : Rs Unit := match nameP l s with
  | .inr (p, e) => .inr (p, e)
  | .inl (n, s1) => if op.getLast? = some (ba n) then expectP l 62 (blanksP l s1) else .inr (p, 40)

theorem last_row {w : World} {base : Nat} {e : TypeId} {a : Option Addr} {cap : Nat} {op : List ByteArray} (h : w.ownsRow base e 1 (.slice a op.length cap) op.length (op.map Value.string)) (hp : op ≠ []) :
    ∃ g x, a = some ⟨g, 0, none⟩ ∧ op.getLast? = some x ∧ op.length ≤ cap ∧ g < w.heap.size ∧ w.cell? ⟨g, op.length - 1, none⟩ = some (.string x) := by
  obtain ⟨r1, r2, r3⟩ := row_cell h
  have hl : 0 < op.length := List.length_pos_iff.2 hp
  have hx : op.getLast? = some (op.getLast hp) := List.getLast?_eq_some_getLast hp
  have hi : (op.map Value.string)[op.length - 1]? = some (.string (op.getLast hp)) := by
    rw [List.getElem?_map, ← List.getLast?_eq_getElem?, hx]; rfl
  obtain ⟨g, rfl, -, hg, hc⟩ := r3 _ _ hi
  exact ⟨g, _, rfl, hx, r1, hg, hc⟩

set_option maxRecDepth 100000 in
set_option maxHeartbeats 4000000 in
theorem qend_any (w : World) (b B : Nat) (tx : ByteArray) (s : St) (op : List ByteArray) (o : Bs) (h : QS w b B tx s op o) (ok : Ok tx s) (hol : o.length ≤ 16384) (p : Nat) :
    Calls Tryz.prog 50 #[.pointer (some ⟨b, 0, none⟩), .int .i64 (p : Int)] w (QPost w b B tx tx.size op (endQ tx.data.toList op p s) (fun _ => o) fun _ e w' => e = .returned (.tuple #[])) := by
  have HQS : Hid (∀ W, Below w.heap.size w W → QS W b B tx s op o) := fun W hb => ⟨h.1, h.2.choose, h.2.choose_spec.choose, h.2.choose_spec.choose_spec.below hb⟩
  have HOK : Hid (Ok tx s) := ok
  obtain ⟨hop, vo, vt, h⟩ := h
  obtain ⟨k1, k2, k3, k4⟩ := ok
  have HQ : Hid (Qd w b B tx (okQ s (hasB o)) vo vt op o) := h
  have hbq : ∀ p e, badQ (okQ s (hasB o)) p e = { okQ s (hasB o) with place := p, err := e } := fun p e => by simp [badQ, okQ]
  have hbad := fun (W : World) (hq : Qd W b B tx (okQ s (hasB o)) vo vt op o) (p : Nat) (e : Int) => qbad_any W b B tx _ vo vt op o hq p e
  simp only [hbq] at hbad
  obtain ⟨h0, h1, h2, h3, h4, h5, h6, h7, fz, hb⟩ := h.facts
  have e0 : (okQ s (hasB o)).at_ = s.at_ := rfl
  rw [e0] at h1
  clear h hbq
  by_cases ha : s.at_ < tx.size
  · have t0 : ((s.at_ : Int) == (tx.size : Int)) = false := by simp; omega
    have hbe := fun W => begins_any W (tx[s.at_]'ha).toNat (UInt8.toNat_lt _)
    have ge := get_some ha
    cases hc : beginB (tx[s.at_]'ha).toNat
    · rw [hc] at hbe
      have HG : Hid (endQ tx.data.toList op p s = .inr (s.at_, 3)) := by
        show endQ _ _ _ _ = _
        simp [endQ, nameP, ge, hc]
      clear ge hc
      go_enter Tryz.func50, Tryz.ntmps50
      go_wp2
      go_region
      have HQd : Hid (Qd w.drew b B tx (okQ s (hasB o)) vo vt op o) := HQ.out.drew
      have HBd : Hid (Below w.heap.size w w.drew) := (Below.refl _ w).drew
      generalize w.drew = wd at *
      clear h0 h1 h2 h3 h4 h5 h6 h7 fz hb
      obtain ⟨h0, h1, h2, h3, h4, h5, h6, h7, fz, hb⟩ := HQd.out.facts
      rw [e0] at h1
      go_wp2
      refine wp_region_bel (by kernel_rfl) (by kernel_rfl) ?_
      intro hne
      repeat go_big_quiet_step ((go_at_call 77; exact Calls.bel_of_same (hbe _)))
      refine wpQuiet_nil ?_
      rintro _ ⟨u, rfl⟩
      have HQu : Hid (Qd u.w b B tx (okQ s (hasB o)) vo vt op o) := HQd.out.below u.h
      have HBu : Hid (Below w.heap.size w u.w) := HBd.out.trans (u.h.mono HBd.out.size)
      clear h0 h1 h2 h3 h4 h5 h6 h7 fz hb
      obtain ⟨h0, h1, h2, h3, h4, h5, h6, h7, fz, hb⟩ := HQu.out.facts
      rw [e0] at h1
      go_wp2_with fail
      refine (hbad _ HQu.out _ _).mono ?_
      rintro e w9 ⟨rfl, hq9, ht9⟩
      have HQ9 : Hid _ := hq9
      have HT9 : Hid (Turn (fun k => k = b ∨ B ≤ k) w w9) := (turn_below _ HBu.out (Nat.le_refl _)).trans (ht9.mono (fun k _ e => .inl e))
      clear hbad hq9 ht9
      go_wp2
      go_end0
      exact QPost.no HG.out ⟨by decide, _, _, _, _, _, HQ9.out, rfl, rfl, by simp only [okQ]; omega, by omega⟩ HT9.out
    · rw [hc] at hbe
      have HN : Hid (∀ W, Below w.heap.size w W → Calls Tryz.prog 81 #[.pointer (some ⟨b, 0, none⟩)] W (QPost W b B tx tx.size op (nameP tx.data.toList s) (fun _ => o) fun x e w' => e = .returned (.string (ba x)))) := fun W hb => qname_any W b B tx s op o (HQS.out W hb) HOK.out hol ha hc
      clear ge hc
      go_enter Tryz.func50, Tryz.ntmps50
      go_wp2
      go_region
      have HQd : Hid (Qd w.drew b B tx (okQ s (hasB o)) vo vt op o) := HQ.out.drew
      have HBd : Hid (Below w.heap.size w w.drew) := (Below.refl _ w).drew
      generalize w.drew = wd at *
      clear h0 h1 h2 h3 h4 h5 h6 h7 fz hb
      obtain ⟨h0, h1, h2, h3, h4, h5, h6, h7, fz, hb⟩ := HQd.out.facts
      rw [e0] at h1
      go_wp2
      refine wp_region_bel (by kernel_rfl) (by kernel_rfl) ?_
      intro hne
      repeat go_big_quiet_step ((go_at_call 77; exact Calls.bel_of_same (hbe _)))
      refine wpQuiet_nil ?_
      rintro _ ⟨u, rfl⟩
      have HBu : Hid (Below w.heap.size w u.w) := HBd.out.trans (u.h.mono HBd.out.size)
      go_wp2_with fail
      refine (HN.out _ HBu.out).mono ?_
      rintro e w1 hp1
      have HTu : Hid (Turn (fun k => k = b ∨ B ≤ k) w u.w) := turn_below _ HBu.out (Nat.le_refl _)
      clear h0 h1 h2 h3 h4 h5 h6 h7 fz hb hbad HQ HN hbe
      cases hnm : nameP tx.data.toList s with
      | inr q_ =>
        obtain ⟨p1, c1⟩ := q_
        rw [hnm] at hp1
        obtain ⟨⟨v, rfl⟩, ⟨hc0, q, vo1, vt1, op1, o1, hq1, hqe, hqp, hqa, hqo⟩, ht1⟩ := hp1
        have HG : Hid (endQ tx.data.toList op p s = .inr (p1, c1)) := by show endQ _ _ _ _ = _; simp only [endQ, hnm]
        have HEB : Hid (∀ W, Below w1.heap.size w1 W → QE W b B tx tx.size p1 c1) := fun W hb => ⟨hc0, q, vo1, vt1, op1, o1, hq1.below hb, hqe, hqp, hqa, hqo⟩
        have HT : Hid (Turn (fun k => k = b ∨ B ≤ k) w w1) := HTu.out.trans ht1
        have hok := fun (W : World) (hq : Qd W b B tx q vo1 vt1 op1 o1) => qok_any W b B tx q vo1 vt1 op1 o1 hq
        have hq0 : (q.err == 0) = false := by rw [hqe]; exact beq_eq_false_iff_ne.2 hc0
        rw [hq0] at hok
        have HQ1 : Hid (Qd w1 b B tx q vo1 vt1 op1 o1) := hq1
        clear hnm ht1 hq1 hqe hqp hc0 hq0
        obtain ⟨h0, h1, h2, h3, h4, h5, h6, h7, fz, hb⟩ := HQ1.out.facts
        go_wp2
        refine wp_region_bel (by kernel_rfl) (by kernel_rfl) ?_
        intro hne
        repeat go_big_quiet_step ((go_at_call 17; exact Calls.bel_of_same (hok _ (HQ1.out.below (by first | exact Bel.h _ | assumption)))))
        refine wpQuiet_nil ?_
        rintro _ ⟨u2, rfl⟩
        have HQ2 : Hid (Qd u2.w b B tx q vo1 vt1 op1 o1) := HQ1.out.below u2.h
        have HE2 : Hid (QE u2.w b B tx tx.size p1 c1) := HEB.out _ u2.h
        have HT2 : Hid (Turn (fun k => k = b ∨ B ≤ k) w u2.w) := HT.out.trans (turn_below _ u2.h (Nat.le_refl _))
        go_wp2_with fail
        refine (hok _ HQ2.out).mono ?_
        rintro e w9 ⟨rfl, hw9⟩
        obtain rfl := hw9.symm
        go_wp2
        go_end0
        exact QPost.no HG.out HE2.out HT2.out
      | inl q_ =>
        obtain ⟨n, s1⟩ := q_
        rw [hnm] at hp1
        obtain ⟨rfl, ⟨hop1, vo1, vt1, hq1⟩, ht1⟩ := hp1
        have HT : Hid (Turn (fun k => k = b ∨ B ≤ k) w w1) := HTu.out.trans ht1
        have HQ1 : Hid (Qd w1 b B tx (okQ s1 (hasB o)) vo1 vt1 op o) := hq1
        have HOP1 : Hid (op.length = s1.op) := hop1
        have HOK1 : Hid (Ok tx s1) := HOK.out.name hnm
        obtain ⟨q1, q2, q3, q4⟩ := HOK1.out
        have hok := fun (W : World) (hq : Qd W b B tx (okQ s1 (hasB o)) vo1 vt1 op o) => qok_any W b B tx _ vo1 vt1 op o hq
        have hq0 : ((okQ s1 (hasB o)).err == 0) = true := rfl
        rw [hq0] at hok
        clear hq1 ht1
        obtain ⟨h0, h1, h2, h3, h4, h5, h6, h7, fz, hb⟩ := HQ1.out.facts
        have hro := HQ1.out.opn
        by_cases hl : op.getLast? = some (ba n)
        · have HG : Hid (endQ tx.data.toList op p s = expectP tx.data.toList 62 (blanksP tx.data.toList s1)) := by show endQ _ _ _ _ = _; simp only [endQ, hnm, if_pos hl]
          have hp0 : op ≠ [] := fun e => by rw [e] at hl; cases hl
          obtain ⟨va, vcap, rfl⟩ := own_slice hro
          obtain ⟨g, x, rfl, hx, hcap, hg, hcell⟩ := last_row hro hp0
          have hxn : (x.toList == (ba n).toList) = true := str_eq (Option.some.inj (hx.symm.trans hl))
          have hpos : 0 < op.length := List.length_pos_iff.2 hp0
          have t1 : ((op.length : Int) == 0) = false := by simp; omega
          have hle : op.length ≤ 64 := by have := HOP1.out; omega
          have i1 : (0 : Int) ≤ (op.length : Int) - 1 := by omega
          have i2 : (op.length : Int) - 1 < (op.length : Int) := by omega
          have i3 : ((op.length : Int) - 1).toNat = op.length - 1 := by omega
          clear hnm hl hp0 hop1 hop hx hro
          go_wp2
          refine wp_region_bel (by kernel_rfl) (by kernel_rfl) ?_
          intro hne
          repeat go_big_quiet_step ((go_at_call 17; exact Calls.bel_of_same (hok _ (HQ1.out.below (by first | exact Bel.h _ | assumption)))))
          refine wpQuiet_nil ?_
          rintro _ ⟨u2, rfl⟩
          have HQ2 : Hid _ := HQ1.out.below u2.h
          have HT2 : Hid (Turn (fun k => k = b ∨ B ≤ k) w u2.w) := HT.out.trans (turn_below _ u2.h (Nat.le_refl _))
          go_wp2_with fail
          refine (hok _ HQ2.out).mono ?_
          rintro e w3 ⟨rfl, hw3⟩
          obtain rfl := hw3.symm
          go_wp2_with fail
          refine (qblanks_any _ b B tx s1 op o ⟨HOP1.out, _, _, HQ2.out⟩ HOK1.out).mono ?_
          rintro e w4 ⟨rfl, hq4, ht4⟩
          have HT4 : Hid (Turn (fun k => k = b ∨ B ≤ k) w w4) := HT2.out.trans (ht4.mono (fun k _ e => .inl e))
          have HQ4 : Hid _ := hq4
          clear hq4 ht4
          go_wp2_with fail
          refine (qmust_any w4 b B tx _ op o HQ4.out HOK1.out.blanks hol 62).mono ?_
          rintro e w5 hp5
          cases hx5 : expectP tx.data.toList 62 (blanksP tx.data.toList s1) with
          | inr q_ =>
            obtain ⟨p5, c5⟩ := q_
            rw [hx5] at hp5
            obtain ⟨⟨v, rfl⟩, hE5, hT5⟩ := hp5
            have HE5 : Hid _ := hE5
            have HT5 : Hid (Turn (fun k => k = b ∨ B ≤ k) w w5) := HT4.out.trans hT5
            have HG5 : Hid _ := HG.out.trans hx5
            clear hE5 hT5 hx5
            go_wp2
            go_end0
            exact QPost.no HG5.out HE5.out HT5.out
          | inl q_ =>
            obtain ⟨a5, s5⟩ := q_
            rw [hx5] at hp5
            obtain ⟨rfl, hE5, hT5⟩ := hp5
            have HE5 : Hid _ := hE5
            have HT5 : Hid (Turn (fun k => k = b ∨ B ≤ k) w w5) := HT4.out.trans hT5
            have HG5 : Hid _ := HG.out.trans hx5
            clear hE5 hT5 hx5
            go_wp2
            go_end0
            exact QPost.yes HG5.out rfl HE5.out HT5.out
        · have HG : Hid (endQ tx.data.toList op p s = .inr (p, 40)) := by show endQ _ _ _ _ = _; simp only [endQ, hnm, if_neg hl]
          have hbad := fun (W : World) (hq : Qd W b B tx (okQ s1 (hasB o)) vo1 vt1 op o) => qbad_any W b B tx _ vo1 vt1 op o hq p 40
          have hok2 := fun (W : World) (hq : Qd W b B tx { okQ s1 (hasB o) with place := p, err := 40 } vo1 vt1 op o) => qok_any W b B tx _ vo1 vt1 op o hq
          have hq0 : ((40 : Int) == 0) = false := rfl
          simp only [hq0] at hok2
          have hbq : badQ (okQ s1 (hasB o)) p 40 = { okQ s1 (hasB o) with place := p, err := 40 } := by simp [badQ, okQ]
          rw [hbq] at hbad
          clear hnm hbq hq0
          by_cases hp0 : op = []
          · obtain ⟨va, vcap, rfl⟩ := own_slice hro
            have hl0 : op.length = 0 := by rw [hp0]; rfl
            clear hl hp0 hop1 hop
            rw [hl0] at h5
            go_wp2
            refine wp_region_bel (by kernel_rfl) (by kernel_rfl) ?_
            intro hne
            repeat go_big_quiet_step ((go_at_call 17; exact Calls.bel_of_same (hok _ (HQ1.out.below (by first | exact Bel.h _ | assumption)))))
            refine wpQuiet_nil ?_
            rintro _ ⟨u2, rfl⟩
            have HQ2 : Hid _ := HQ1.out.below u2.h
            have HT2 : Hid (Turn (fun k => k = b ∨ B ≤ k) w u2.w) := HT.out.trans (turn_below _ u2.h (Nat.le_refl _))
            go_wp2_with fail
            refine (hbad _ HQ2.out).mono ?_
            rintro e w3 ⟨rfl, hq3, ht3⟩
            have HQ3 : Hid _ := hq3
            have HT3 : Hid (Turn (fun k => k = b ∨ B ≤ k) w w3) := HT2.out.trans (ht3.mono (fun k _ e => .inl e))
            clear hbad hq3 ht3
            go_wp2_with fail
            refine (hok2 _ HQ3.out).mono ?_
            rintro e w9 ⟨rfl, hw9⟩
            obtain rfl := hw9.symm
            go_wp2
            go_end0
            exact QPost.no HG.out ⟨by decide, _, _, _, _, _, HQ3.out, rfl, rfl, by simp only [okQ]; omega, by omega⟩ HT3.out
          · obtain ⟨va, vcap, rfl⟩ := own_slice hro
            obtain ⟨g, x, rfl, hx, hcap, hg, hcell⟩ := last_row hro hp0
            have hxn : (x.toList == (ba n).toList) = false := by
              have : x ≠ ba n := fun e => hl (by rw [hx, e])
              exact str_ne this
            have hpos : 0 < op.length := List.length_pos_iff.2 hp0
            have t1 : ((op.length : Int) == 0) = false := by simp; omega
            have HL0 : Hid (op.length = s1.op) := HOP1.out
            have hle : op.length ≤ 64 := by have := HOP1.out; omega
            have i1 : (0 : Int) ≤ (op.length : Int) - 1 := by omega
            have i2 : (op.length : Int) - 1 < (op.length : Int) := by omega
            have i3 : ((op.length : Int) - 1).toNat = op.length - 1 := by omega
            clear hl hp0 hop1 hop hx HOP1 hro
            go_wp2
            refine wp_region_bel (by kernel_rfl) (by kernel_rfl) ?_
            intro hne
            repeat go_big_quiet_step ((go_at_call 17; exact Calls.bel_of_same (hok _ (HQ1.out.below (by first | exact Bel.h _ | assumption)))))
            refine wpQuiet_nil ?_
            rintro _ ⟨u2, rfl⟩
            have HQ2 : Hid _ := HQ1.out.below u2.h
            have HT2 : Hid (Turn (fun k => k = b ∨ B ≤ k) w u2.w) := HT.out.trans (turn_below _ u2.h (Nat.le_refl _))
            go_wp2_with fail
            refine (hbad _ HQ2.out).mono ?_
            rintro e w3 ⟨rfl, hq3, ht3⟩
            have HQ3 : Hid _ := hq3
            have HT3 : Hid (Turn (fun k => k = b ∨ B ≤ k) w w3) := HT2.out.trans (ht3.mono (fun k _ e => .inl e))
            clear hbad hq3 ht3
            go_wp2_with fail
            refine (hok2 _ HQ3.out).mono ?_
            rintro e w9 ⟨rfl, hw9⟩
            obtain rfl := hw9.symm
            go_wp2
            go_end0
            exact QPost.no HG.out ⟨by decide, _, _, _, _, _, HQ3.out, rfl, rfl, by simp only [okQ]; omega, by omega⟩ HT3.out
  · have t0 : ((s.at_ : Int) == (tx.size : Int)) = true := by simp; omega
    have HG : Hid (endQ tx.data.toList op p s = .inr (s.at_, 4)) := by
      show endQ _ _ _ _ = _
      simp [endQ, nameP, get_no (Nat.le_of_not_lt ha)]
    go_enter Tryz.func50, Tryz.ntmps50
    go_wp2
    go_region
    go_wp2_with fail
    refine (hbad _ HQ.out.drew _ _).mono ?_
    rintro e w9 ⟨rfl, hq9, ht9⟩
    have HQ9 : Hid _ := hq9
    have HT9 : Hid (Turn (fun k => k = b ∨ B ≤ k) w w9) := (Turn.refl _ w).drew.trans (ht9.mono (fun k _ e => .inl e))
    clear hbad hq9 ht9
    go_wp2
    go_end0
    exact QPost.no HG.out ⟨by decide, _, _, _, _, _, HQ9.out, rfl, rfl, by simp only [okQ]; omega, by omega⟩ HT9.out

end Go.Proofs.YtmifejkddgcbmabGreat
