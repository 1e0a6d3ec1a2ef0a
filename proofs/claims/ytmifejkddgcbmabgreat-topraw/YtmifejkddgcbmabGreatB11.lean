/- What a call of the document's reader leaves, with the blocks that it may change as a letter; names, and what must come, change the reader alone. -/
import Derived.Test.YtmifejkddgcbmabGreatB10
namespace Go.Proofs.YtmifejkddgcbmabGreat
open Go.RowKit
set_option linter.unusedVariables false
set_option linter.unusedSimpArgs false
attribute [local go_sem] Bel.cell Bel.fz

def QPostA {α : Type} (A : Nat → Prop) (w : World) (b B : Nat) (tx : ByteArray) (M : Nat) (op : List ByteArray) (r : Rs α) (O : α → Bs) (V : α → Ending → World → Prop) (e : Ending) (w' : World) : Prop := match r with
  | .inl (a, s) => V a e w' ∧ QS w' b B tx s op (O a) ∧ Turn A w w'
  | .inr (p, c) => (∃ v, e = .returned v) ∧ QE w' b B tx M p c ∧ Turn A w w'
theorem QPostA.yes {α : Type} {A : Nat → Prop} {w : World} {b B : Nat} {tx : ByteArray} {M : Nat} {op : List ByteArray} {r : Rs α} {O : α → Bs} {V : α → Ending → World → Prop} {e : Ending} {w' : World} {a : α} {s : St} (h : r = .inl (a, s)) (hv : V a e w') (hq : QS w' b B tx s op (O a)) (ht : Turn A w w') : QPostA A w b B tx M op r O V e w' := by
  subst h; exact ⟨hv, hq, ht⟩
theorem QPostA.no {α : Type} {A : Nat → Prop} {w : World} {b B : Nat} {tx : ByteArray} {M : Nat} {op : List ByteArray} {r : Rs α} {O : α → Bs} {V : α → Ending → World → Prop} {v : Value} {w' : World} {p : Nat} {c : Int} (h : r = .inr (p, c)) (hq : QE w' b B tx M p c) (ht : Turn A w w') : QPostA A w b B tx M op r O V (.returned v) w' := by
  subst h; exact ⟨⟨v, rfl⟩, hq, ht⟩

set_option maxRecDepth 100000 in
set_option maxHeartbeats 1000000 in
theorem qmust_b (w : World) (b B : Nat) (tx : ByteArray) (s : St) (op : List ByteArray) (o : Bs) (h : QS w b B tx s op o) (ok : Ok tx s) (hol : o.length ≤ 16384) (c : UInt8) :
    Calls Tryz.prog 83 #[.pointer (some ⟨b, 0, none⟩), .int .u8 (c.toNat : Int)] w (QPostA (fun k => k = b) w b B tx tx.size op (expectP tx.data.toList c s) (fun _ => o) fun _ e w' => e = .returned (.tuple #[])) := by
  obtain ⟨hop, vo, vt, h⟩ := h
  obtain ⟨k1, k2, k3, k4⟩ := ok
  have HOP : Hid (op.length = s.op) := hop
  have HQ : Hid (Qd w b B tx (okQ s (hasB o)) vo vt op o) := h
  have hbad := fun (W : World) (hq : Qd W b B tx (okQ s (hasB o)) vo vt op o) (p : Nat) (e : Int) => qbad_any W b B tx _ vo vt op o hq p e
  have hbq : ∀ p e, badQ (okQ s (hasB o)) p e = { okQ s (hasB o) with place := p, err := e } := fun p e => by simp [badQ, okQ]
  obtain ⟨h0, h1, h2, h3, h4, h5, h6, h7, fz, hb⟩ := h.facts
  have e0 : (okQ s (hasB o)).at_ = s.at_ := rfl
  rw [e0] at h1
  clear h hop
  by_cases ha : s.at_ < tx.size
  · have t1 : ¬ (tx.size : Int) ≤ (s.at_ : Int) := by omega
    have t2 : (s.at_ : Int) < (tx.size : Int) := by omega
    by_cases hc : tx[s.at_]'ha = c
    · have HG : Hid (expectP tx.data.toList c s = .inl ((), { s with at_ := s.at_ + 1 })) := by show expectP _ _ _ = _; simp [expectP, get_some ha, hc]
      have t3 : (((tx[s.at_]'ha).toNat : Int) != (c.toNat : Int)) = false := by rw [u8_ne]; simp [hc]
      clear hc hbad hbq
      go_enter Tryz.func83, Tryz.ntmps83
      go_wp2_with (go_region)
      go_end0
      have q1 : Qd (w.setCell ⟨b, 1, none⟩ (.int .i64 ((s.at_ : Int) + 1))) b B tx (okQ { s with at_ := s.at_ + 1 } (hasB o)) vo vt op o := HQ.out.setAt _ (by simp)
      have q2 : Turn (fun k => k = b) w (w.setCell ⟨b, 1, none⟩ (.int .i64 ((s.at_ : Int) + 1))) := turn_set (Turn.refl _ w) _ _
      exact QPostA.yes HG.out rfl ⟨HOP.out, vo, vt, q1.drew.drew.drew⟩ q2.drew.drew.drew
    · have HG : Hid (expectP tx.data.toList c s = .inr (s.at_, 3)) := by show expectP _ _ _ = _; simp [expectP, get_some ha, hc]
      have t3 : (((tx[s.at_]'ha).toNat : Int) != (c.toNat : Int)) = true := by rw [u8_ne]; simp [hc]
      clear hc
      go_enter Tryz.func83, Tryz.ntmps83
      go_wp2_with (go_region)
      refine (hbad _ HQ.out.drew.drew _ _).mono ?_
      rintro e w2 ⟨rfl, hq2, ht2⟩
      rw [hbq] at hq2
      have HQ2 : Hid (Qd (w2.setCell ⟨b, 1, none⟩ (.int .i64 ((s.at_ : Int) + 1))) b B tx { okQ s (hasB o) with place := s.at_, err := 3, at_ := s.at_ + 1 } vo vt op o) := hq2.set 1 _ (by simp [qC, okQ])
      have HT2 : Hid (Turn (fun k => k = b) w (w2.setCell ⟨b, 1, none⟩ (.int .i64 ((s.at_ : Int) + 1)))) := ((Turn.refl _ w).drew.drew.trans (ht2.mono (fun k _ e => e))).setCell (p := ⟨b, 1, none⟩) rfl _
      clear h0 h1 h2 h3 h4 h5 h6 h7 fz hb hbad hbq
      obtain ⟨h0, h1, h2, h3, h4, h5, h6, h7, fz, hb⟩ := hq2.facts
      simp only [okQ] at h1
      clear hq2 ht2
      go_wp2_with (go_region)
      go_end0
      exact QPostA.no HG.out ⟨by decide, _, _, _, _, _, HQ2.out.drew, rfl, rfl, by simp only; omega, by omega⟩ HT2.out.drew
  · have HG : Hid (expectP tx.data.toList c s = .inr (s.at_, 4)) := by show expectP _ _ _ = _; simp [expectP, get_no (Nat.le_of_not_lt ha)]
    have e9 : s.at_ = tx.size := by omega
    have HE9 : Hid (s.at_ = tx.size) := e9
    have t1 : (tx.size : Int) ≤ (s.at_ : Int) := by omega
    have t2 : ¬ (s.at_ : Int) < (tx.size : Int) := by omega
    clear e9
    go_enter Tryz.func83, Tryz.ntmps83
    go_wp2_with (go_region)
    refine (hbad _ HQ.out.drew _ _).mono ?_
    rintro e w2 ⟨rfl, hq2, ht2⟩
    rw [hbq] at hq2
    have HQ2 : Hid (Qd w2 b B tx { okQ s (hasB o) with place := tx.size, err := 4 } vo vt op o) := hq2
    have HT2 : Hid (Turn (fun k => k = b) w w2) := (Turn.refl _ w).drew.trans (ht2.mono (fun k _ e => e))
    clear h0 h1 h2 h3 h4 h5 h6 h7 fz hb hbad hbq
    obtain ⟨h0, h1, h2, h3, h4, h5, h6, h7, fz, hb⟩ := hq2.facts
    simp only [okQ] at h1
    clear hq2 ht2
    go_wp2_with (go_region)
    go_end0
    exact QPostA.no HG.out ⟨by decide, _, _, _, _, _, HQ2.out.drew, rfl, HE9.out.symm, by simp only [okQ]; omega, by omega⟩ HT2.out.drew


set_option maxRecDepth 100000 in
set_option maxHeartbeats 2000000 in
theorem qname_b (w : World) (b B : Nat) (tx : ByteArray) (s : St) (op : List ByteArray) (o : Bs) (h : QS w b B tx s op o) (ok : Ok tx s) (hol : o.length ≤ 16384) (ha : s.at_ < tx.size) (hbeg : beginB (tx[s.at_]'ha).toNat = true) :
    Calls Tryz.prog 81 #[.pointer (some ⟨b, 0, none⟩)] w (QPostA (fun k => k = b) w b B tx tx.size op (nameP tx.data.toList s) (fun _ => o) fun x e w' => e = .returned (.string (ba x))) := by
  obtain ⟨hop, vo, vt, h⟩ := h
  obtain ⟨k1, k2, k3, k4⟩ := ok
  have HOP : Hid (op.length = s.op) := hop
  have HR : Hid (Qd w b B tx (okQ s (hasB o)) vo vt op o) := h
  obtain ⟨h0, h1, h2, h3, h4, h5, h6, h7, fz, hb⟩ := h.facts
  have e0 : (okQ s (hasB o)).at_ = s.at_ := rfl
  rw [e0] at h1
  have ge := get_some ha
  obtain ⟨E, hE⟩ : ∃ E, E = s.at_ + runN tx.data.toList (fun b => inB b.toNat) s.at_ := ⟨_, rfl⟩
  have hEl : E ≤ tx.size := by
    have := runN_le (l := tx.data.toList) (p := fun b => inB b.toNat) (a := s.at_) (by rw [size_list]; omega)
    rw [size_list] at this
    omega
  have hX : (tx.data.toList.drop s.at_).takeWhile (fun b => inB b.toNat) = (tx.extract s.at_ E).data.toList := by
    rw [ext_mid, hE, show s.at_ + runN tx.data.toList (fun b => inB b.toNat) s.at_ - s.at_ = runN tx.data.toList (fun b => inB b.toNat) s.at_ by omega]
    unfold runN
    rw [take_while_len]
  have HS : Hid (nameP tx.data.toList s = if nameL (tx.extract s.at_ E).data.toList then .inl ((tx.extract s.at_ E).data.toList, { s with at_ := E }) else .inr (s.at_, 6)) := by
    show nameP _ _ = _
    simp only [nameP, ge, hbeg, if_true, hX, ← hE]
  have HE : Hid (E = s.at_ + runN tx.data.toList (fun b => inB b.toNat) s.at_) := hE
  clear h hE hop ge hX hbeg
  go_enter Tryz.func81, Tryz.ntmps81
  go_wp2
  go_loopw [] (fun wr => ∃ a : Nat, s.at_ ≤ a ∧ a ≤ tx.size ∧ Hid (E = a + runN tx.data.toList (fun b => inB b.toNat) a) ∧ Hid (Qd wr b B tx (okQ { s with at_ := a } (hasB o)) vo vt op o) ∧ Hid (Turn (fun x => x = b) w wr)) (fun wr => tx.size - atOf wr b)
  case atStart => exact ⟨s.at_, by omega, k2, HE, HR, Turn.refl _ _⟩
  case round =>
    obtain ⟨a, ha0, ha1, hgo, hr, ht⟩ := hrel
    clear h0 h1 h2 h3 h4 h5 h6 h7 fz hb
    obtain ⟨h0, h1, h2, h3, h4, h5, h6, h7, fz, hb⟩ := hr.out.facts
    have ea : (okQ { s with at_ := a } (hasB o)).at_ = a := rfl
    rw [ea] at h1
    by_cases hlt : a < tx.size
    · have hin := fun W => in_any W (tx[a]'hlt).toNat (UInt8.toNat_lt _)
      have ge := get_some hlt
      cases hc : inB (tx[a]'hlt).toNat
      · rw [hc] at hin
        have hEa : E = a := by
          rw [hgo.out, runN_stop (fun b hb => by rw [ge] at hb; cases hb; exact hc)]; omega
        clear ge hc
        obtain rfl := hEa
        have hnw := fun W => rname_any W (tx.extract s.at_ E)
        have hbx : Hid (ba (tx.extract s.at_ E).data.toList = tx.extract s.at_ E) := ba_of _
        have hbad := fun (W : World) (hq : Qd W b B tx (okQ { s with at_ := E } (hasB o)) vo vt op o) => qbad_any W b B tx _ vo vt op o hq s.at_ 6
        have hbq : badQ (okQ { s with at_ := E } (hasB o)) s.at_ 6 = { okQ { s with at_ := E } (hasB o) with place := s.at_, err := 6 } := by simp [badQ, okQ]
        rw [hbq] at hbad
        clear hgo HE HR hbq
        go_wp2
        refine wp_region_bel (by kernel_rfl) (by kernel_rfl) ?_
        intro hne
        repeat go_big_quiet_step ((go_at_call 106; exact Calls.bel_of_same (hin _)))
        refine wpQuiet_nil ?_
        rintro _ ⟨u, rfl⟩
        have HU : Hid (Turn (fun x => x = b) w u.w) := ht.out.then u.h ht.out.size
        have HRu : Hid (Qd u.w b B tx (okQ { s with at_ := E } (hasB o)) vo vt op o) := hr.out.below u.h
        clear h0 h1 h2 h3 h4 h5 h6 h7 fz hb
        obtain ⟨h0, h1, h2, h3, h4, h5, h6, h7, fz, hb⟩ := HRu.out.facts
        rw [ea] at h1
        go_wp2_with (go_region)
        cases hnl : nameL (tx.extract s.at_ E).data.toList
        · rw [hnl] at hnw
          have HST : Hid (nameP tx.data.toList s = .inr (s.at_, 6)) := by rw [HS.out, hnl]; exact rfl
          clear hnl
          refine (hnw _).mono ?_
          rintro e w5 ⟨rfl, hb5⟩
          have HU5 : Hid (Turn (fun x => x = b) w w5) := by rw [hb5]; exact HU.out.drew
          have hq5 : Qd w5 b B tx (okQ { s with at_ := E } (hasB o)) vo vt op o := by rw [hb5]; exact HRu.out.drew
          have hb6 := hbad w5 hq5
          clear hb5 hbad
          go_wp2_with fail
          refine hb6.mono ?_
          rintro e w6 ⟨rfl, hq6, ht6⟩
          have HQ6 : Hid _ := hq6
          have HT6 : Hid (Turn (fun k => k = b) w w6) := (HU5.out.trans ht6).mono (fun k _ e => e)
          clear hb6 hq6 ht6
          go_wp2
          go_ret
          exact QPostA.no HST.out ⟨by decide, _, _, _, _, _, HQ6.out, rfl, rfl, by simp only [okQ]; omega, by omega⟩ HT6.out
        · rw [hnl] at hnw
          have HST : Hid (nameP tx.data.toList s = .inl ((tx.extract s.at_ E).data.toList, { s with at_ := E })) := by rw [HS.out, hnl]; exact rfl
          clear hnl hbad
          refine (hnw _).mono ?_
          rintro e w5 ⟨rfl, hb5⟩
          have HU5 : Hid (Turn (fun x => x = b) w w5) := by rw [hb5]; exact HU.out.drew
          have HQ5 : Hid (Qd w5 b B tx (okQ { s with at_ := E } (hasB o)) vo vt op o) := by rw [hb5]; exact HRu.out.drew
          clear hb5
          go_wp2
          go_ret
          exact QPostA.yes HST.out (congrArg (fun z => Ending.returned (.string z)) hbx.out.symm) ⟨HOP.out, _, _, HQ5.out⟩ (HU5.out.mono (fun k _ e => e))
      · rw [hc] at hin
        have HEa : Hid (E = (a + 1) + runN tx.data.toList (fun b => inB b.toNat) (a + 1)) := by show E = _; rw [hgo.out, runN_step ge hc]
        clear hgo ge hc HE HR
        go_wp2
        refine wp_region_bel (by kernel_rfl) (by kernel_rfl) ?_
        intro hne
        repeat go_big_quiet_step ((go_at_call 106; exact Calls.bel_of_same (hin _)))
        refine wpQuiet_nil ?_
        rintro _ ⟨u, rfl⟩
        go_wp2
        have hr2 : Qd (u.w.setCell ⟨b, 1, none⟩ (.int .i64 ((a : Int) + 1))) b B tx (okQ { s with at_ := a + 1 } (hasB o)) vo vt op o := (hr.out.below u.h).setAt (a + 1) (by simp)
        refine ⟨⟨a + 1, by omega, by omega, HEa, hr2, turn_set (ht.out.then u.h ht.out.size) _ _⟩, ?_⟩
        rw [hr2.atOf, hr.out.atOf]
        simp only [okQ]
        omega
    · have hEa : E = a := by
        rw [hgo.out, runN_stop (fun b hb => by rw [get_no (by omega)] at hb; cases hb)]; omega
      obtain rfl := hEa
      have hnw := fun W => rname_any W (tx.extract s.at_ E)
      have hbx : Hid (ba (tx.extract s.at_ E).data.toList = tx.extract s.at_ E) := ba_of _
      have hbad := fun (W : World) (hq : Qd W b B tx (okQ { s with at_ := E } (hasB o)) vo vt op o) => qbad_any W b B tx _ vo vt op o hq s.at_ 6
      have hbq : badQ (okQ { s with at_ := E } (hasB o)) s.at_ 6 = { okQ { s with at_ := E } (hasB o) with place := s.at_, err := 6 } := by simp [badQ, okQ]
      rw [hbq] at hbad
      clear hgo HE HR hbq
      go_wp2
      refine wp_region_bel (by kernel_rfl) (by kernel_rfl) ?_
      intro hne
      repeat go_big_quiet_step (fail)
      refine wpQuiet_nil ?_
      rintro _ ⟨u, rfl⟩
      have HU : Hid (Turn (fun x => x = b) w u.w) := ht.out.then u.h ht.out.size
      have HRu : Hid (Qd u.w b B tx (okQ { s with at_ := E } (hasB o)) vo vt op o) := hr.out.below u.h
      clear h0 h1 h2 h3 h4 h5 h6 h7 fz hb
      obtain ⟨h0, h1, h2, h3, h4, h5, h6, h7, fz, hb⟩ := HRu.out.facts
      rw [ea] at h1
      go_wp2_with (go_region)
      cases hnl : nameL (tx.extract s.at_ E).data.toList
      · rw [hnl] at hnw
        have HST : Hid (nameP tx.data.toList s = .inr (s.at_, 6)) := by rw [HS.out, hnl]; exact rfl
        clear hnl
        refine (hnw _).mono ?_
        rintro e w5 ⟨rfl, hb5⟩
        have HU5 : Hid (Turn (fun x => x = b) w w5) := by rw [hb5]; exact HU.out.drew
        have hq5 : Qd w5 b B tx (okQ { s with at_ := E } (hasB o)) vo vt op o := by rw [hb5]; exact HRu.out.drew
        have hb6 := hbad w5 hq5
        clear hb5 hbad
        go_wp2_with fail
        refine hb6.mono ?_
        rintro e w6 ⟨rfl, hq6, ht6⟩
        have HQ6 : Hid _ := hq6
        have HT6 : Hid (Turn (fun k => k = b) w w6) := (HU5.out.trans ht6).mono (fun k _ e => e)
        clear hb6 hq6 ht6
        go_wp2
        go_ret
        exact QPostA.no HST.out ⟨by decide, _, _, _, _, _, HQ6.out, rfl, rfl, by simp only [okQ]; omega, by omega⟩ HT6.out
      · rw [hnl] at hnw
        have HST : Hid (nameP tx.data.toList s = .inl ((tx.extract s.at_ E).data.toList, { s with at_ := E })) := by rw [HS.out, hnl]; exact rfl
        clear hnl hbad
        refine (hnw _).mono ?_
        rintro e w5 ⟨rfl, hb5⟩
        have HU5 : Hid (Turn (fun x => x = b) w w5) := by rw [hb5]; exact HU.out.drew
        have HQ5 : Hid (Qd w5 b B tx (okQ { s with at_ := E } (hasB o)) vo vt op o) := by rw [hb5]; exact HRu.out.drew
        clear hb5
        go_wp2
        go_ret
        exact QPostA.yes HST.out (congrArg (fun z => Ending.returned (.string z)) hbx.out.symm) ⟨HOP.out, _, _, HQ5.out⟩ (HU5.out.mono (fun k _ e => e))


end Go.Proofs.YtmifejkddgcbmabGreat
