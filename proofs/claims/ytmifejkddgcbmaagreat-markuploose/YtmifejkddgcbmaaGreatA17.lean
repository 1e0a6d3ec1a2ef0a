/- The value of an attribute; the end of an element. -/
import Derived.Test.YtmifejkddgcbmaaGreatA16
namespace Go.Proofs.YtmifejkddgcbmaaGreat
open Go.RowKit
set_option linter.unusedVariables false
set_option linter.unusedSimpArgs false
attribute [local go_sem] Bel.cell Bel.fz

/-- What the loop of 'value' keeps. -/
def ValueAt (w : World) (b : Nat) (tx : ByteArray) (s : St) (q : UInt8) (v : Value) (wr : World) (o : Bs) (s' : St) (k : Nat) : Prop :=
  o.length ≤ 16384 ∧ tx.size - s'.at_ < k ∧ Own wr w.heap.size v o ∧ valueP tx.data.toList s = valueF tx.data.toList q k s' o ∧ Rd wr b tx s' ∧ Ok tx s' ∧ Turn (fun x => x = b ∨ w.heap.size ≤ x) w wr ∧ s'.at_ < tx.size

theorem needP_at {tx : ByteArray} {s : St} (h : s.at_ < tx.size) : needP tx.data.toList s = .inl ((tx[s.at_]'h), s) := by simp [needP, get_some h]
theorem needP_no {tx : ByteArray} {s : St} (h : ¬ s.at_ < tx.size) : needP tx.data.toList s = .inr (s.at_, 4) := by simp [needP, get_no (Nat.le_of_not_lt h)]

set_option maxRecDepth 100000 in
set_option maxHeartbeats 4000000 in
theorem value_any (w : World) (b : Nat) (tx : ByteArray) (s : St) (h : Rd w b tx s) (ok : Ok tx s) :
    Calls Tryz.prog 128 #[.pointer (some ⟨b, 0, none⟩)] w (Post w b tx (· = b) (valueP tx.data.toList s) fun x e w' => e = .returned (.string (ba x))) := by
  have HR : Hid (Rd w b tx s) := h
  have HOK : Hid (Ok tx s) := ok
  have hnd := fun (W : World) (s' : St) (hr : Rd W b tx s') (ok' : Ok tx s') => need_any W b tx s' hr ok'
  have hfl := fun W (p : Nat) (e : Int) => fail_any W (.pointer (some ⟨b, 0, none⟩)) p e
  obtain ⟨h0, h1, h2, h3, f1, f2, f3, hb⟩ := h.facts
  obtain ⟨k1, k2, k3, k4⟩ := ok
  clear h
  by_cases hlt : s.at_ < tx.size
  · have hn1 := hnd w s HR.out HOK.out
    rw [needP_at hlt] at hn1
    have ge := get_some hlt
    have e1 : valueP tx.data.toList s = if tx[s.at_]'hlt = 34 ∨ tx[s.at_]'hlt = 39 then valueF tx.data.toList (tx[s.at_]'hlt) (tx.size - s.at_) { s with at_ := s.at_ + 1 } [] else .inr (s.at_, 3) := by
      unfold valueP; rw [ge, size_list]
    by_cases hq : tx[s.at_]'hlt = 34 ∨ tx[s.at_]'hlt = 39
    · rw [if_pos hq] at e1
      have HE : Hid (valueP tx.data.toList s = valueF tx.data.toList (tx[s.at_]'hlt) (tx.size - s.at_) { s with at_ := s.at_ + 1 } []) := e1
      have hq1 : (((tx[s.at_]'hlt).toNat : Int) != 34) = true ∧ (((tx[s.at_]'hlt).toNat : Int) != 39) = false ∨ (((tx[s.at_]'hlt).toNat : Int) != 34) = false := by
        rcases hq with hq | hq
        · right; rw [hq]; rfl
        · left; rw [hq]; exact ⟨rfl, rfl⟩
      clear e1 ge hq
      generalize tx[s.at_]'hlt = q at *
      go_enter Tryz.func128, Tryz.ntmps128
      go_wp2_with fail
      refine hn1.mono ?_
      rintro e w1 ⟨⟨rfl, hbl⟩, hr1, -⟩
      have HB1 : Hid (Below w.heap.size w w1) := hbl
      have HR1 : Hid (Rd w1 b tx s) := hr1
      clear h0 h1 h2 h3 f1 f2 f3 hbl hr1 hn1
      obtain ⟨h0, h1, h2, h3, f1, f2, f3, hb1⟩ := HR1.out.facts
      have HR2 : Hid (Rd (w1.setCell ⟨b, 1, none⟩ (.int .i64 ((s.at_ : Int) + 1))) b tx { s with at_ := s.at_ + 1 }) := HR1.out.setAt _ (by simp)
      have HT2 : Hid (Turn (fun x => x = b) w (w1.setCell ⟨b, 1, none⟩ (.int .i64 ((s.at_ : Int) + 1)))) := turn_set (turn_below _ HB1.out (Nat.le_refl _)) _ _
      have HK2 : Hid (Ok tx { s with at_ := s.at_ + 1 }) := ⟨k1, by simp only; omega, k3, k4⟩
      have hn2 := hnd _ _ HR2.out HK2.out
      have hq2 : ((q.toNat : Int) != 34) = true ∧ ((q.toNat : Int) != 39) = false ∨ ((q.toNat : Int) != 34) = false := hq1
      clear hq1 HR HOK
      by_cases hlt2 : s.at_ + 1 < tx.size
      · rw [needP_at hlt2] at hn2
        have HV : Hid (ValueAt w b tx s q (.slice none 0 0) (w1.setCell ⟨b, 1, none⟩ (.int .i64 ((s.at_ : Int) + 1))) [] { s with at_ := s.at_ + 1 } (tx.size - s.at_)) := ⟨by simp, by simp only; omega, Own.none _ _, HE.out, HR2.out, HK2.out, HT2.out.mono (fun k _ e => .inl e), hlt2⟩
        rcases hq2 with ⟨ta, tb⟩ | ta <;> (
          go_wp2_with fail
          refine hn2.mono ?_
          rintro e w2 ⟨⟨rfl, hbl2⟩, hr2, -⟩
          have HV2 : Hid (ValueAt w b tx s q (.slice none 0 0) w2 [] { s with at_ := s.at_ + 1 } (tx.size - s.at_)) := by
            obtain ⟨a1, a2, a3, a4, a5, a6, a7, a8⟩ := HV.out
            exact ⟨a1, a2, Own.none _ _, a4, hr2, a6, a7.then hbl2 a7.size, a8⟩
          clear hn2 hbl2 hr2 HV HR2 HT2 h0 h1 h2 h3 f1 f2 f3
          go_wp2
          go_loopw [4, 5] (fun v4 v5 wr => ∃ (o' : Bs) (s' : St) (k : Nat) (hl : s'.at_ < tx.size), v5 = .int .u8 ((tx[s'.at_]'hl).toNat : Int) ∧ Hid (ValueAt w b tx s q v4 wr o' s' k)) (fun _ _ wr => tx.size - atOf wr b)
          case atStart => exact ⟨[], _, _, hlt2, rfl, HV2⟩
          case round =>
            clear HV2 HE HR1 HB1 HK2
            obtain ⟨o', s', k, hl, rfl, hrel⟩ := hrel
            obtain ⟨hol, hk, hown, hgo, hr, hok, ht, -⟩ := hrel.out
            clear hrel
            obtain ⟨k, rfl⟩ : ∃ j, k = j + 1 := ⟨k - 1, by omega⟩
            obtain ⟨va, vcap, rfl⟩ := hown.slice
            have HO : Hid (Own wr w.heap.size (.slice va o'.length vcap) o') := hown
            have HR : Hid (Rd wr b tx s') := hr
            have HOK : Hid (Ok tx s') := hok
            have HT : Hid (Turn (fun x => x = b ∨ w.heap.size ≤ x) w wr) := ht
            have ge := get_some hl
            have HGO : Hid (valueP tx.data.toList s = valueF tx.data.toList q (k + 1) s' o') := hgo
            have hsz := ht.size
            have hlet := letter_any wr b tx s' hr hok hl
            obtain ⟨h0, h1, h2, h3, f1, f2, f3, hbr⟩ := hr.facts
            clear hown hr hok ht hgo
            by_cases hcq : tx[s'.at_]'hl = q
            · have HG : Hid (valueP tx.data.toList s = .inl (o', { s' with at_ := s'.at_ + 1 })) := by
                show valueP _ _ = _
                rw [HGO.out]
                simp only [valueF, ge, hcq, if_true]
              have t1 : (((tx[s'.at_]'hl).toNat : Int) != (q.toNat : Int)) = false := by rw [u8_ne]; simp [hcq]
              have HR5 : Hid (Rd (wr.setCell ⟨b, 1, none⟩ (.int .i64 ((s'.at_ : Int) + 1))) b tx { s' with at_ := s'.at_ + 1 }) := HR.out.setAt _ (by simp)
              have HT5 : Hid (Turn (fun x => x = b) w (wr.setCell ⟨b, 1, none⟩ (.int .i64 ((s'.at_ : Int) + 1)))) := turn_set (turn_in HT.out) _ _
              have ho5 : Own (wr.setCell ⟨b, 1, none⟩ (.int .i64 ((s'.at_ : Int) + 1))) w.heap.size (.slice va o'.length vcap) o' := Own.to HO.out (turn_set (Turn.refl _ wr) 1 _) (fun k hk e => by omega)
              have hcv := conv_own (show World.ownsRow _ w.heap.size 5 1 _ _ _ from ho5)
              clear HGO ge hlet hcq
              generalize tx[s'.at_]'hl = c at *
              go_wp2
              go_ret
              exact Post.yes HG.out rfl HR5.out HT5.out
            · have t1 : (((tx[s'.at_]'hl).toNat : Int) != (q.toNat : Int)) = true := by rw [u8_ne]; simp [hcq]
              by_cases hc6 : tx[s'.at_]'hl = 60
              · have HG : Hid (valueP tx.data.toList s = .inr (s'.at_, 3)) := by
                  show valueP _ _ = _
                  rw [HGO.out]
                  simp only [valueF, ge, hcq, hc6, if_true, if_false]
                  rw [hc6] at hcq
                  simp only [hcq, if_false]
                have t2 : (((tx[s'.at_]'hl).toNat : Int) == 60) = true := by rw [hc6]; rfl
                clear HGO ge hlet hcq hc6
                generalize tx[s'.at_]'hl = c at *
                go_wp2_with fail
                refine (hfl _ _ _).mono ?_
                rintro e w3 ⟨rfl, rfl⟩
                exact ⟨rfl, Post.no HG.out (turn_in HT.out)⟩
              · have t2 : (((tx[s'.at_]'hl).toNat : Int) == 60) = false := by
                  have : (tx[s'.at_]'hl).toNat ≠ 60 := fun e => hc6 (UInt8.toNat_inj.1 e)
                  simp; omega
                have HG : Hid (valueP tx.data.toList s = match letterP tx.data.toList s' with
                    | .inr (p, e) => .inr (p, e)
                    | .inl (x, s1) => match growP s1 o' x s'.at_ with
                      | .inr (p, e) => .inr (p, e)
                      | .inl (o, s2) => valueF tx.data.toList q k s2 o) := by
                  show valueP _ _ = _
                  rw [HGO.out]
                  simp only [valueF, ge, hcq, hc6, if_false]
                  cases letterP tx.data.toList s' with
                  | inr q_ => obtain ⟨p, e⟩ := q_; rfl
                  | inl q_ => obtain ⟨x, s1⟩ := q_; simp only; cases growP s1 o' x s'.at_ <;> rfl
                clear HGO ge hcq hc6
                generalize tx[s'.at_]'hl = c at *
                go_wp2_with fail
                refine hlet.mono ?_
                intro e w3 hpost
                cases hlp : letterP tx.data.toList s' with
                | inr q_ =>
                  obtain ⟨p, c⟩ := q_
                  rw [hlp] at hpost
                  obtain ⟨rfl, ht3⟩ := hpost
                  exact ⟨rfl, Post.no (by rw [HG.out, hlp]) ((turn_in HT.out).trans ht3)⟩
                | inl q_ =>
                  obtain ⟨x, s1⟩ := q_
                  rw [hlp] at hpost
                  obtain ⟨rfl, hr3, ht3⟩ := hpost
                  obtain ⟨g1, g2, g3, g4, g5⟩ := letterP_ok hlp
                  rw [size_list] at g2
                  have HK1 : Hid (Ok tx s1) := HOK.out.letter hlp
                  have HO3 : Hid (Own w3 w.heap.size (.slice va o'.length vcap) o') := Own.to HO.out ht3 (fun k hk e => by omega)
                  have HT3 : Hid (Turn (fun x => x = b ∨ w.heap.size ≤ x) w w3) := HT.out.trans (ht3.mono (fun k _ e => .inl e))
                  have hgr := grow_any w3 b w.heap.size tx s1 hr3 hb HT3.out.size _ o' HO3.out hol (ba x) (by rw [ba_size]; omega) s'.at_
                  rw [ba_list] at hgr
                  have HG2 : Hid (valueP tx.data.toList s = match growP s1 o' x s'.at_ with
                      | .inr (p, e) => .inr (p, e)
                      | .inl (o, s2) => valueF tx.data.toList q k s2 o) := by show valueP _ _ = _; rw [HG.out, hlp]
                  clear hlp hr3 ht3 hlet HG
                  go_wp2_with fail
                  refine hgr.mono ?_
                  intro e w4 hpost
                  cases hpp : growP s1 o' x s'.at_ with
                  | inr q_ =>
                    obtain ⟨p, c⟩ := q_
                    rw [hpp] at hpost
                    obtain ⟨rfl, ht4⟩ := hpost
                    exact ⟨rfl, Post.no (by rw [HG2.out, hpp]) (turn_in (HT3.out.trans ht4))⟩
                  | inl q_ =>
                    obtain ⟨o2, s2⟩ := q_
                    rw [hpp] at hpost
                    obtain ⟨⟨v1, rfl, ho4⟩, hr4, ht4⟩ := hpost
                    obtain ⟨e2, -, p5⟩ := growP_ok hpp
                    subst e2
                    have hn5 := hnd w4 s2 hr4 HK1.out
                    have HT4 : Hid (Turn (fun x => x = b ∨ w.heap.size ≤ x) w w4) := HT3.out.trans ht4
                    have HG4 : Hid (valueP tx.data.toList s = valueF tx.data.toList q k s2 o2) := by show valueP _ _ = _; rw [HG2.out, hpp]
                    have HO4 : Hid (Own w4 w.heap.size v1 o2) := ho4
                    have HM : Hid (s'.at_ < s2.at_) := g1
                    obtain ⟨k, rfl⟩ : ∃ j, k = j + 1 := ⟨k - 1, by omega⟩
                    obtain ⟨va1, vcap1, rfl⟩ := ho4.slice
                    by_cases hl2 : s2.at_ < tx.size
                    · rw [needP_at hl2] at hn5
                      clear hpp hr4 ht4 hgr HG2 ho4
                      go_wp2_with fail
                      refine hn5.mono ?_
                      rintro e w5 ⟨⟨rfl, hbl5⟩, hr5, -⟩
                      have HV5 : Hid (ValueAt w b tx s q (.slice va1 o2.length vcap1) w5 o2 s2 (k + 1)) := ⟨p5, by omega, owns_below HO4.out hbl5, HG4.out, hr5, HK1.out, HT4.out.then hbl5 HT4.out.size, hl2⟩
                      have HM5 : Hid (tx.size - atOf w5 b < tx.size - atOf wr b) := by
                        show _ < _
                        rw [hr5.atOf, HR.out.atOf]; omega
                      clear hn5 hbl5 hr5
                      go_wp2
                      exact ⟨⟨o2, s2, k + 1, hl2, rfl, HV5⟩, HM5.out⟩
                    · rw [needP_no hl2] at hn5
                      have HG5 : Hid (valueP tx.data.toList s = .inr (s2.at_, 4)) := by
                        show valueP _ _ = _
                        rw [HG4.out]
                        simp only [valueF, get_no (Nat.le_of_not_lt hl2)]
                      clear hpp hr4 ht4 hgr HG2 ho4
                      go_wp2_with fail
                      refine hn5.mono ?_
                      rintro e w5 ⟨rfl, ht5⟩
                      exact ⟨rfl, Post.no HG5.out ((turn_in HT4.out).trans ht5)⟩)
      · rw [needP_no hlt2] at hn2
        have HG : Hid (valueP tx.data.toList s = .inr ((s.at_ + 1), 4)) := by
          show valueP _ _ = _
          rw [HE.out]
          obtain ⟨j, hj⟩ : ∃ j, tx.size - s.at_ = j + 1 := ⟨tx.size - s.at_ - 1, by omega⟩
          rw [hj]
          simp only [valueF, get_no (Nat.le_of_not_lt hlt2)]
        rcases hq2 with ⟨ta, tb⟩ | ta <;> (
          go_wp2_with fail
          refine hn2.mono ?_
          rintro e w2 ⟨rfl, ht2⟩
          exact ⟨rfl, Post.no HG.out (HT2.out.trans ht2)⟩)
    · rw [if_neg hq] at e1
      have HE : Hid (valueP tx.data.toList s = .inr (s.at_, 3)) := e1
      have t1 : (((tx[s.at_]'hlt).toNat : Int) != 34) = true := by
        have : (tx[s.at_]'hlt).toNat ≠ 34 := fun e => hq (.inl (UInt8.toNat_inj.1 e))
        simp; omega
      have t2 : (((tx[s.at_]'hlt).toNat : Int) != 39) = true := by
        have : (tx[s.at_]'hlt).toNat ≠ 39 := fun e => hq (.inr (UInt8.toNat_inj.1 e))
        simp; omega
      clear e1 ge hq
      generalize tx[s.at_]'hlt = q at *
      go_enter Tryz.func128, Tryz.ntmps128
      go_wp2_with fail
      refine hn1.mono ?_
      rintro e w1 ⟨⟨rfl, hbl⟩, hr1, -⟩
      have HB1 : Hid (Below w.heap.size w w1) := hbl
      clear h0 h1 h2 h3 f1 f2 f3 hbl hn1
      obtain ⟨h0, h1, h2, h3, f1, f2, f3, hb1⟩ := hr1.facts
      go_wp2_with fail
      refine (hfl _ _ _).mono ?_
      rintro e w2 ⟨rfl, rfl⟩
      exact ⟨rfl, Post.no HE.out (turn_below _ HB1.out (Nat.le_refl _))⟩
  · have hn1 := hnd w s HR.out HOK.out
    rw [needP_no hlt] at hn1
    have HE : Hid (valueP tx.data.toList s = .inr (s.at_, 4)) := by
      show valueP _ _ = _
      unfold valueP
      rw [get_no (Nat.le_of_not_lt hlt)]
    clear hlt
    go_enter Tryz.func128, Tryz.ntmps128
    go_wp2_with fail
    refine hn1.mono ?_
    rintro e w1 ⟨rfl, ht⟩
    exact ⟨rfl, Post.no HE.out ht⟩

end Go.Proofs.YtmifejkddgcbmaaGreat

/- The end of an element. -/
namespace Go.Proofs.YtmifejkddgcbmaaGreat
open Go.RowKit
set_option linter.unusedVariables false
set_option linter.unusedSimpArgs false

theorem expectP_ok {l : Bs} {c : UInt8} {s s1 : St} {u : Unit} (h : expectP l c s = .inl (u, s1)) : s1 = { s with at_ := s.at_ + 1 } ∧ s.at_ + 1 ≤ l.length := by
  unfold expectP at h
  split at h
  · rename_i b hb
    split at h
    · cases h
      exact ⟨rfl, (List.getElem?_eq_some_iff.1 hb).1⟩
    · cases h
  · cases h
theorem Ok.expect {tx : ByteArray} {c : UInt8} {s s1 : St} {u : Unit} (h : Ok tx s) (e : expectP tx.data.toList c s = .inl (u, s1)) : Ok tx s1 := by
  obtain ⟨rfl, h2⟩ := expectP_ok e
  rw [size_list] at h2
  exact ⟨h.len, h2, h.nodes, h.op⟩
theorem Ok.name {tx : ByteArray} {s s1 : St} {n : Bs} (h : Ok tx s) (e : nameP tx.data.toList s = .inl (n, s1)) : Ok tx s1 := by
  obtain ⟨rfl, -, -, h2, -⟩ := nameP_ok e
  rw [size_list] at h2
  exact ⟨h.len, h2, h.nodes, h.op⟩
theorem Ok.blanks {tx : ByteArray} {s : St} (h : Ok tx s) : Ok tx (blanksP tx.data.toList s) := by
  have := runN_le (l := tx.data.toList) (p := fun b => blankB b.toNat) (a := s.at_) (by rw [size_list]; exact h.at_)
  rw [size_list] at this
  exact ⟨h.len, this, h.nodes, h.op⟩
theorem str_eq {a b : ByteArray} (h : a = b) : (a.toList == b.toList) = true := by subst h; simp

set_option maxRecDepth 100000 in
set_option maxHeartbeats 1000000 in
theorem end_any (w : World) (b : Nat) (tx : ByteArray) (s : St) (h : Rd w b tx s) (ok : Ok tx s) (n : ByteArray) :
    Calls Tryz.prog 36 #[.pointer (some ⟨b, 0, none⟩), .string n] w (Post w b tx (· = b) (endP tx.data.toList n.data.toList s) fun _ e w' => e = .returned (.tuple #[])) := by
  have HOK : Hid (Ok tx s) := ok
  have he1 := expect_any w b tx s h ok 60
  have hfl := fun W (p : Nat) (e : Int) => fail_any W (.pointer (some ⟨b, 0, none⟩)) p e
  obtain ⟨h0, h1, h2, h3, f1, f2, f3, hb⟩ := h.facts
  clear h ok
  cases hx1 : expectP tx.data.toList 60 s with
  | inr q_ =>
    obtain ⟨p, c⟩ := q_
    rw [hx1] at he1
    have HG : Hid (endP tx.data.toList n.data.toList s = .inr (p, c)) := by show endP _ _ _ = _; unfold endP; rw [hx1]
    clear hx1
    go_enter Tryz.func36, Tryz.ntmps36
    go_wp2_with fail
    refine he1.mono ?_
    rintro e w1 ⟨rfl, ht⟩
    exact ⟨rfl, Post.no HG.out ht⟩
  | inl q_ =>
    obtain ⟨u1, s1⟩ := q_
    rw [hx1] at he1
    have HK1 : Hid (Ok tx s1) := HOK.out.expect hx1
    have HG1 : Hid (endP tx.data.toList n.data.toList s = match expectP tx.data.toList 47 s1 with
      | .inr (p, e) => .inr (p, e)
      | .inl (_, s2) => match nameP tx.data.toList s2 with
        | .inr (p, e) => .inr (p, e)
        | .inl (m, s3) => if m = n.data.toList then expectP tx.data.toList 62 (blanksP tx.data.toList s3) else .inr (s.at_, 40)) := by
      show endP _ _ _ = _
      unfold endP
      rw [hx1]
      simp only
      cases expectP tx.data.toList 47 s1 with
      | inr q_ => obtain ⟨p, e⟩ := q_; rfl
      | inl q_ => obtain ⟨u2, s2⟩ := q_; simp only; cases nameP tx.data.toList s2 <;> rfl
    clear hx1
    go_enter Tryz.func36, Tryz.ntmps36
    go_wp2_with fail
    refine he1.mono ?_
    rintro e w1 ⟨⟨rfl, -⟩, hr1, ht1⟩
    have he2 := expect_any w1 b tx s1 hr1 HK1.out 47
    have HT1 : Hid (Turn (fun x => x = b) w w1) := ht1
    clear he1 hr1 ht1
    cases hx2 : expectP tx.data.toList 47 s1 with
    | inr q_ =>
      obtain ⟨p, c⟩ := q_
      rw [hx2] at he2
      have HG : Hid (endP tx.data.toList n.data.toList s = .inr (p, c)) := by show endP _ _ _ = _; rw [HG1.out, hx2]
      clear hx2
      go_wp2_with fail
      refine he2.mono ?_
      rintro e w2 ⟨rfl, ht⟩
      exact ⟨rfl, Post.no HG.out (HT1.out.trans ht)⟩
    | inl q_ =>
      obtain ⟨u2, s2⟩ := q_
      rw [hx2] at he2
      have HK2 : Hid (Ok tx s2) := HK1.out.expect hx2
      have HG2 : Hid (endP tx.data.toList n.data.toList s = match nameP tx.data.toList s2 with
        | .inr (p, e) => .inr (p, e)
        | .inl (m, s3) => if m = n.data.toList then expectP tx.data.toList 62 (blanksP tx.data.toList s3) else .inr (s.at_, 40)) := by
        show endP _ _ _ = _
        rw [HG1.out, hx2]
      clear hx2 HG1
      go_wp2_with fail
      refine he2.mono ?_
      rintro e w2 ⟨⟨rfl, -⟩, hr2, ht2⟩
      have hn3 := rname_any' w2 b tx s2 hr2 HK2.out
      have HT2 : Hid (Turn (fun x => x = b) w w2) := HT1.out.trans ht2
      clear he2 hr2 ht2
      cases hx3 : nameP tx.data.toList s2 with
      | inr q_ =>
        obtain ⟨p, c⟩ := q_
        rw [hx3] at hn3
        have HG : Hid (endP tx.data.toList n.data.toList s = .inr (p, c)) := by show endP _ _ _ = _; rw [HG2.out, hx3]
        clear hx3
        go_wp2_with fail
        refine hn3.mono ?_
        rintro e w3 ⟨rfl, ht⟩
        exact ⟨rfl, Post.no HG.out (HT2.out.trans ht)⟩
      | inl q_ =>
        obtain ⟨m, s3⟩ := q_
        rw [hx3] at hn3
        have HK3 : Hid (Ok tx s3) := HK2.out.name hx3
        have HG3 : Hid (endP tx.data.toList n.data.toList s = if m = n.data.toList then expectP tx.data.toList 62 (blanksP tx.data.toList s3) else .inr (s.at_, 40)) := by
          show endP _ _ _ = _
          rw [HG2.out, hx3]
        clear hx3 HG2
        by_cases hm : m = n.data.toList
        · have t1 : ((ba m).toList == n.toList) = true := str_eq (by rw [hm, ba_of])
          have HG4 : Hid (endP tx.data.toList n.data.toList s = expectP tx.data.toList 62 (blanksP tx.data.toList s3)) := by show endP _ _ _ = _; rw [HG3.out, if_pos hm]
          clear hm HG3
          go_wp2_with fail
          refine hn3.mono ?_
          rintro e w3 ⟨rfl, hr3, ht3⟩
          have hbl := blanks_any w3 b tx s3 hr3 HK3.out
          have HT3 : Hid (Turn (fun x => x = b) w w3) := HT2.out.trans ht3
          clear hn3 hr3 ht3
          go_wp2_with fail
          refine hbl.mono ?_
          rintro e w4 ⟨rfl, hr4, ht4⟩
          have he5 := expect_any w4 b tx _ hr4 HK3.out.blanks 62
          have HT4 : Hid (Turn (fun x => x = b) w w4) := HT3.out.trans ht4
          clear hbl hr4 ht4
          go_wp2_with fail
          refine he5.mono ?_
          intro e w5 hpost
          cases hx5 : expectP tx.data.toList 62 (blanksP tx.data.toList s3) with
          | inr q_ =>
            obtain ⟨p, c⟩ := q_
            rw [hx5] at hpost
            obtain ⟨rfl, ht5⟩ := hpost
            exact ⟨rfl, Post.no (HG4.out.trans hx5) (HT4.out.trans ht5)⟩
          | inl q_ =>
            obtain ⟨u5, s5⟩ := q_
            rw [hx5] at hpost
            obtain ⟨⟨rfl, -⟩, hr5, ht5⟩ := hpost
            have HG5 : Hid (endP tx.data.toList n.data.toList s = .inl (u5, s5)) := HG4.out.trans hx5
            have HR5 : Hid (Rd w5 b tx s5) := hr5
            have HT5 : Hid (Turn (fun x => x = b) w w5) := HT4.out.trans ht5
            clear hx5 hr5 ht5 he5
            go_wp2
            go_end0
            exact Post.yes HG5.out rfl HR5.out HT5.out
        · have t1 : ((ba m).toList == n.toList) = false := str_ne (fun e => hm (by rw [← e, ba_list]))
          have HG4 : Hid (endP tx.data.toList n.data.toList s = .inr (s.at_, 40)) := by show endP _ _ _ = _; rw [HG3.out, if_neg hm]
          clear hm HG3
          go_wp2_with fail
          refine hn3.mono ?_
          rintro e w3 ⟨rfl, hr3, ht3⟩
          have HT3 : Hid (Turn (fun x => x = b) w w3) := HT2.out.trans ht3
          clear hn3 hr3 ht3
          go_wp2_with fail
          refine (hfl _ _ _).mono ?_
          rintro e w4 ⟨rfl, rfl⟩
          exact ⟨rfl, Post.no HG4.out HT3.out⟩

end Go.Proofs.YtmifejkddgcbmaaGreat
