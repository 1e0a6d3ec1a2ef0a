/- The document's reader: an attribute's value. -/
import Derived.Test.YtmifejkddgcbmabGreatB11
namespace Go.Proofs.YtmifejkddgcbmabGreat
open Go.RowKit
set_option linter.unusedVariables false
set_option linter.unusedSimpArgs false
attribute [local go_sem] Bel.cell Bel.fz

theorem Qd.grown {w w3 : World} {b B N : Nat} {tx : ByteArray} {q : Qs} {vo vt : Value} {op : List ByteArray} {o : Bs} {row : Option Nat} (h : Qd w b B tx q vo vt op o) (hg : w.grownBy w3 row) (hr : ∀ k, row = some k → N ≤ k) (hb : b < N) (ho : ∀ k, vo.ownBlock = some k → k < N) (ht : ∀ k, vt.ownBlock = some k → k < N) : Qd w3 b B tx q vo vt op o := by
  have hB := h.leB
  have hlt := h.ltb
  refine ⟨(hg.block b (by omega) (fun e => by have := hr b e.symm; omega)).trans h.cel, ?_, ?_, h.opb, h.ltb, Nat.le_trans h.leB hg.size, h.nl⟩
  · exact own_of_block h.txt (fun k hk => hg.block k (own_block_lt h.txt k hk).2 (fun e => by have := hr k e.symm; have := ht k hk; omega))
  · exact own_of_block h.opn (fun k hk => hg.block k (own_block_lt h.opn k hk).2 (fun e => by have := hr k e.symm; have := ho k hk; omega))

/-- What the loop of 'value' keeps. -/
structure ValSt (w : World) (b B : Nat) (tx : ByteArray) (s : St) (op : List ByteArray) (o : Bs) (vo vt vb : Value) (q : UInt8) (wr : World) (out : Bs) (s' : St) (k : Nat) : Prop where
  len : out.length ≤ 16384
  own : Own wr w.heap.size vb out
  qd : Qd wr b B tx (okQ s' (hasB o)) vo vt op o
  ok : Ok tx s'
  op : s'.op = s.op
  fuel : tx.size - s'.at_ < k
  go : valueP tx.data.toList s = valueF tx.data.toList q k s' out
  turn : Turn (fun k => k = b ∨ w.heap.size ≤ k) w wr

set_option maxRecDepth 100000 in
set_option maxHeartbeats 4000000 in
theorem qvalue_go (w : World) (b B : Nat) (tx : ByteArray) (s : St) (op : List ByteArray) (o : Bs) (h : QS w b B tx s op o) (ok : Ok tx s) (hol : o.length ≤ 16384) (ha : s.at_ < tx.size) (hq : tx[s.at_]'ha = 34 ∨ tx[s.at_]'ha = 39) :
    Calls Tryz.prog 110 #[.pointer (some ⟨b, 0, none⟩)] w (fun e w' => QPostA (fun k => k = b ∨ w.heap.size ≤ k) w b B tx tx.size op (valueP tx.data.toList s) (fun _ => o) (fun x e w' => e = .returned (.string (ba x))) e w' ∧ ∃ x, e = .returned (.string x)) := by
  obtain ⟨hop, vo, vt, h⟩ := h
  have HOP : Hid (op.length = s.op) := hop
  have HVO : Hid (∀ k, vo.ownBlock = some k → k < w.heap.size) := fun k hk => (own_block_lt h.opn k hk).2
  have HVT : Hid (∀ k, vt.ownBlock = some k → k < w.heap.size) := fun k hk => (own_block_lt h.txt k hk).2
  have hbN : b < w.heap.size := Nat.lt_of_lt_of_le h.ltb h.leB
  have hBN : B ≤ w.heap.size := h.leB
  have HOK : Hid (Ok tx s) := ok
  obtain ⟨k1, k2, k3, k4⟩ := ok
  have HQ : Hid (Qd w b B tx (okQ s (hasB o)) vo vt op o) := h
  have hok := fun (W : World) (s1 : St) (hq : Qd W b B tx (okQ s1 (hasB o)) vo vt op o) => qok_any W b B tx _ vo vt op o hq
  have hq0 : ∀ s1, ((okQ s1 (hasB o)).err == 0) = true := fun _ => rfl
  simp only [hq0] at hok
  obtain ⟨h0, h1, h2, h3, h4, h5, h6, h7, fz, hb⟩ := h.facts
  have e0 : (okQ s (hasB o)).at_ = s.at_ := rfl
  rw [e0] at h1
  have ge := get_some ha
  have HGO : Hid (valueP tx.data.toList s = valueF tx.data.toList (tx[s.at_]'ha) (tx.size - s.at_) { s with at_ := s.at_ + 1 } []) := by
    show valueP _ _ = _
    simp only [valueP, ge, hq, if_true, size_list]
  have t1 : decide ((s.at_ : Int) < (tx.size : Int)) = true := by simp; omega
  have t3 : ¬ (tx.size : Int) ≤ (s.at_ : Int) := by omega
  have t2 : (((tx[s.at_]'ha).toNat : Int) != 34) = false ∨ (((tx[s.at_]'ha).toNat : Int) != 34) = true ∧ (((tx[s.at_]'ha).toNat : Int) != 39) = false := by
    rcases hq with e | e
    · left; rw [e]; rfl
    · right; rw [e]; exact ⟨rfl, rfl⟩
  clear h hop ge hq0 hq
  rcases t2 with t2 | ⟨t2, t2b⟩
  · go_enter Tryz.func110, Tryz.ntmps110
    go_wp2
    refine wp_region_bel (by kernel_rfl) (by kernel_rfl) ?_
    intro hne
    repeat go_big_quiet_step (fail)
    refine wpQuiet_nil ?_
    rintro _ ⟨u, rfl⟩
    have HQu : Hid (Qd u.w b B tx (okQ s (hasB o)) vo vt op o) := HQ.out.below u.h
    have HBu : Hid (Below w.heap.size w u.w) := u.h
    clear h0 h1 h2 h3 h4 h5 h6 h7 fz hb
    obtain ⟨h0, h1, h2, h3, h4, h5, h6, h7, fz, hb⟩ := HQu.out.facts
    rw [e0] at h1
    generalize u.w = wu at *
    go_wp2
    go_region
    have HQd : Hid (Qd wu.drew b B tx (okQ s (hasB o)) vo vt op o) := HQu.out.drew
    have HBd : Hid (Below w.heap.size w wu.drew) := HBu.out.drew
    generalize wu.drew = wd at *
    go_wp2_with fail
    refine (hok _ _ HQd.out).mono ?_
    rintro e w3 ⟨rfl, hw3⟩
    obtain rfl := hw3.symm
    clear h0 h1 h2 h3 h4 h5 h6 h7 fz hb
    obtain ⟨h0, h1, h2, h3, h4, h5, h6, h7, fz, hb⟩ := HQd.out.facts
    rw [e0] at h1
    go_wp2
    go_region
    have HQe : Hid (Qd (wd.setCell ⟨b, 1, none⟩ (.int .i64 ((s.at_ : Int) + 1))).drew b B tx (okQ { s with at_ := s.at_ + 1 } (hasB o)) vo vt op o) := (HQd.out.setAt _ (by simp)).drew
    have HTe : Hid (Turn (fun k => k = b ∨ w.heap.size ≤ k) w (wd.setCell ⟨b, 1, none⟩ (.int .i64 ((s.at_ : Int) + 1))).drew) := ((turn_below _ HBd.out (Nat.le_refl _)).setCell (p := ⟨b, 1, none⟩) (.inl rfl) _).drew
    go_wp2
    generalize (wd.setCell ⟨b, 1, none⟩ (.int .i64 ((s.at_ : Int) + 1))).drew = we at *
    have HST : Hid (ValSt w b B tx s op o vo vt (.slice none 0 0) (tx[s.at_]'ha) we [] { s with at_ := s.at_ + 1 } (tx.size - s.at_)) := ⟨by simp, ⟨rfl, .inl ⟨rfl, rfl⟩⟩, HQe.out, ⟨k1, by simp only; omega, k3, k4⟩, rfl, by simp only; omega, HGO.out, HTe.out⟩
    clear h0 h1 h2 h3 h4 h5 h6 h7 fz hb HQe HTe HQd HBd HQu HBu HGO t1 t2
    generalize tx[s.at_]'ha = qq at *
    clear t3
    go_loopw [4] (fun vb wr => ∃ (out : Bs) (s' : St) (k : Nat), Hid (ValSt w b B tx s op o vo vt vb qq wr out s' k)) (fun _ wr => tx.size - atOf wr b)
    case atStart => exact ⟨[], _, _, HST⟩
    case round =>
      clear HST
      obtain ⟨out, s', k, hst⟩ := hrel
      obtain ⟨l1, own, qd, okr, opr, fuel, go, turn⟩ := hst.out
      clear hst
      obtain ⟨k, rfl⟩ : ∃ j, k = j + 1 := ⟨k - 1, by omega⟩
      obtain ⟨va, vcap, rfl⟩ := own_slice own
      have HQ0 : Hid (Qd wr b B tx (okQ s' (hasB o)) vo vt op o) := qd
      have HQr : Hid (Qd wr.drew b B tx (okQ s' (hasB o)) vo vt op o) := qd.drew
      have HOr : Hid (Own wr.drew w.heap.size (.slice va out.length vcap) out) := own
      have HOKr : Hid (Ok tx s') := okr
      have HTr : Hid (Turn (fun k => k = b ∨ w.heap.size ≤ k) w wr.drew) := turn.drew
      have HGr : Hid (valueP tx.data.toList s = valueF tx.data.toList qq (k + 1) s' out) := go
      have HOPr : Hid (s'.op = s.op) := opr
      have hwr : w.heap.size ≤ wr.drew.heap.size := turn.size
      have HAT : Hid (atOf wr b = s'.at_) := qd.atOf
      obtain ⟨r1, r2, r3, r4⟩ := okr
      obtain ⟨h0, h1, h2, h3, h4, h5, h6, h7, fz, hb⟩ := qd.facts
      have e1 : (okQ s' (hasB o)).at_ = s'.at_ := rfl
      rw [e1] at h1
      clear own qd go turn opr
      go_wp2_with fail
      refine (hok _ _ HQ0.out).mono ?_
      rintro e w3 ⟨rfl, hw3⟩
      obtain rfl := hw3.symm
      by_cases hat : s'.at_ < tx.size
      · have ge := get_some hat
        have t1 : ((s'.at_ : Int) == (tx.size : Int)) = false := by simp; omega
        go_wp2
        go_region
        have hQ1 : Qd wr.drew b B tx (okQ s' (hasB o)) vo vt op o := HQr.out
        clear h0 h1 h2 h3 h4 h5 h6 h7 fz hb
        obtain ⟨h0, h1, h2, h3, h4, h5, h6, h7, fz, hb⟩ := hQ1.facts
        rw [e1] at h1
        clear hQ1
        generalize wr.drew = wd at *
        go_wp2
        go_region
        replace HQr : Hid (Qd wd.drew b B tx (okQ s' (hasB o)) vo vt op o) := HQr.out.drew
        replace HOr : Hid (Own wd.drew w.heap.size (.slice va out.length vcap) out) := HOr.out
        replace HTr : Hid (Turn (fun k => k = b ∨ w.heap.size ≤ k) w wd.drew) := HTr.out.drew
        replace hwr : w.heap.size ≤ wd.drew.heap.size := hwr
        clear h0 h1 h2 h3 h4 h5 h6 h7 fz hb
        obtain ⟨h0, h1, h2, h3, h4, h5, h6, h7, fz, hb⟩ := HQr.out.facts
        rw [e1] at h1
        generalize wd.drew = wx at *
        by_cases hcq : tx[s'.at_]'hat = qq
        · have t2 : (((tx[s'.at_]'hat).toNat : Int) == (qq.toNat : Int)) = true := by rw [hcq]; simp
          have HG : Hid (valueP tx.data.toList s = .inl (out, { s' with at_ := s'.at_ + 1 })) := by show _ = _; rw [HGr.out]; simp only [valueF, ge, hcq, if_true]
          have HQ9 : Hid (Qd (wx.setCell ⟨b, 1, none⟩ (.int .i64 ((s'.at_ : Int) + 1))) b B tx (okQ { s' with at_ := s'.at_ + 1 } (hasB o)) vo vt op o) := HQr.out.setAt _ (by simp)
          have HO9 : Own (wx.setCell ⟨b, 1, none⟩ (.int .i64 ((s'.at_ : Int) + 1))) w.heap.size (.slice va out.length vcap) out := own_of_block HOr.out (fun k hk => Below.heap_setCell _ _ _ _ (by have := (own_block_lt HOr.out k hk).1; show k ≠ b; omega))
          have HT9 : Hid (Turn (fun k => k = b ∨ w.heap.size ≤ k) w (wx.setCell ⟨b, 1, none⟩ (.int .i64 ((s'.at_ : Int) + 1)))) := HTr.out.setCell (p := ⟨b, 1, none⟩) (.inl rfl) _
          have hcv := conv_own HO9
          clear HO9 hcq
          go_wp2
          go_ret
          exact ⟨QPostA.yes HG.out rfl ⟨by have := HOP.out; have := HOPr.out; simp only; omega, _, _, HQ9.out⟩ HT9.out, _, rfl⟩
        · have t2 : (((tx[s'.at_]'hat).toNat : Int) == (qq.toNat : Int)) = false := by
            rw [beq_eq_false_iff_ne]; intro e; exact hcq (UInt8.toNat_inj.1 (by omega))
          by_cases hc6 : tx[s'.at_]'hat = 60
          · have t4 : (((tx[s'.at_]'hat).toNat : Int) == 60) = true := by rw [hc6]; rfl
            have HG : Hid (valueP tx.data.toList s = .inr (s'.at_, 3)) := by show _ = _; rw [HGr.out]; simp only [valueF, ge, hc6, if_true]; simp only [← hc6, hcq, if_false]
            have HC : Hid ((3 : Int) ≠ 0) := (by decide : (3 : Int) ≠ 0)
            have hbad := fun (W : World) (hq : Qd W b B tx (okQ s' (hasB o)) vo vt op o) => qbad_any W b B tx _ vo vt op o hq s'.at_ 3
            clear hc6 hcq HGr
            go_wp2_with fail
            refine (hbad _ HQr.out).mono ?_
            rintro e w9 ⟨rfl, hq9, ht9⟩
            have HQ9 : Hid _ := hq9
            have HO9 : Hid (Own w9 w.heap.size (.slice va out.length vcap) out) := own_of_block HOr.out (fun k hk => ht9.block k (own_block_lt HOr.out k hk).2 (fun e => by have := (own_block_lt HOr.out k hk).1; omega))
            have HT9 : Hid (Turn (fun k => k = b ∨ w.heap.size ≤ k) w w9) := HTr.out.trans (ht9.mono (fun k _ e => .inl e))
            have hcv := conv_own HO9.out
            clear hbad hq9 ht9
            go_wp2
            go_ret
            exact ⟨QPostA.no HG.out ⟨HC.out, _, _, _, _, _, HQ9.out, rfl, rfl, by simp only [badQ, okQ, if_true]; omega, by omega⟩ HT9.out, _, rfl⟩
          · have t4 : (((tx[s'.at_]'hat).toNat : Int) == 60) = false := by
              rw [beq_eq_false_iff_ne]; intro e; exact hc6 (UInt8.toNat_inj.1 (by show _ = 60; omega))
            have hlet := letterP_next (l := tx.data.toList) (s := s') (by rw [size_list]; exact hat)
            have hnx := fun W => rnext_any W tx s'.at_ hat (by omega)
            unfold nbytes nlen at hnx
            have HV : Hid (valueP tx.data.toList s = match letterP tx.data.toList s' with
              | .inr (p, e) => .inr (p, e)
              | .inl (x, s1) => match growP s1 out x s'.at_ with
                | .inr (p, e) => .inr (p, e)
                | .inl (o, s2) => valueF tx.data.toList qq k s2 o) := by
              show _ = _
              rw [HGr.out]
              simp only [valueF, ge, hcq, hc6, if_false]
              cases letterP tx.data.toList s' <;> rfl
            clear hcq hc6 ge HGr
            by_cases hz : (nextP (tx.data.toList.drop s'.at_)).2.2 = 0
            · obtain ⟨R, n, e2, hc, hn1, hn2⟩ := nextP_ok hz
              rw [if_pos hz] at hlet
              simp only [if_pos hz] at hnx
              rw [e2] at hlet hnx
              rw [List.length_drop, size_list] at hn2
              simp only [Int.toNat_natCast] at hlet hnx
              have hRs := enc_length R
              have hRp := size_pos R
              have hxs : (⟨(enc R).toArray⟩ : ByteArray).size = (enc R).length := List.size_toArray
              have hxl : (⟨(enc R).toArray⟩ : ByteArray).data.toList = enc R := rfl
              have HXL : Hid ((⟨(enc R).toArray⟩ : ByteArray).data.toList = enc R) := hxl
              have hE4 : (⟨(enc R).toArray⟩ : ByteArray).size ≤ 40 := by omega
              have hE0 : 0 < (⟨(enc R).toArray⟩ : ByteArray).size := by omega
              have HXS : Hid ((⟨(enc R).toArray⟩ : ByteArray).size = (enc R).length) := hxs
              clear hxs hxl hRs hRp hz e2 hc
              by_cases hgt : 16384 < out.length + (⟨(enc R).toArray⟩ : ByteArray).size
              · have HG : Hid (valueP tx.data.toList s = .inr (s'.at_, 2)) := by
                  show _ = _
                  rw [HV.out, hlet]
                  simp only [growP, ← HXS.out, hgt, if_true]
                have HC : Hid ((2 : Int) ≠ 0) := (by decide : (2 : Int) ≠ 0)
                have hbad := fun (W : World) (hq : Qd W b B tx (okQ s' (hasB o)) vo vt op o) => qbad_any W b B tx _ vo vt op o hq s'.at_ 2
                have t5 : (16384 : Int) < (out.length : Int) + ((⟨(enc R).toArray⟩ : ByteArray).size : Int) := by omega
                clear hlet HV hgt
                generalize (⟨(enc R).toArray⟩ : ByteArray) = X at *
                go_wp2
                refine wp_region_bel (by kernel_rfl) (by kernel_rfl) ?_
                intro hne
                repeat go_big_quiet_step ((go_at_call 105; exact Calls.bel_of (hnx _)))
                refine wpQuiet_nil ?_
                rintro _ ⟨u, rfl⟩
                replace HQr : Hid (Qd u.w b B tx (okQ s' (hasB o)) vo vt op o) := HQr.out.below u.h
                replace HOr : Hid (Own u.w w.heap.size (.slice va out.length vcap) out) := owns_below HOr.out u.h
                replace HTr : Hid (Turn (fun k => k = b ∨ w.heap.size ≤ k) w u.w) := HTr.out.trans (turn_below _ u.h (Nat.le_refl _))
                replace hwr : w.heap.size ≤ u.w.heap.size := Nat.le_trans hwr u.h.size
                clear h0 h1 h2 h3 h4 h5 h6 h7 fz hb hnx
                obtain ⟨h0, h1, h2, h3, h4, h5, h6, h7, fz, hb⟩ := HQr.out.facts
                rw [e1] at h1
                generalize u.w = wy at *
                go_wp2_with fail
                refine (hbad _ HQr.out).mono ?_
                rintro e w9 ⟨rfl, hq9, ht9⟩
                have HQ9 : Hid _ := hq9
                have HO9 : Hid (Own w9 w.heap.size (.slice va out.length vcap) out) := own_of_block HOr.out (fun k hk => ht9.block k (own_block_lt HOr.out k hk).2 (fun e => by have := (own_block_lt HOr.out k hk).1; omega))
                have HT9 : Hid (Turn (fun k => k = b ∨ w.heap.size ≤ k) w w9) := HTr.out.trans (ht9.mono (fun k _ e => .inl e))
                have hcv := conv_own HO9.out
                clear hbad hq9 ht9
                go_wp2
                go_ret
                exact ⟨QPostA.no HG.out ⟨HC.out, _, _, _, _, _, HQ9.out, rfl, rfl, by simp only [badQ, okQ, if_true]; omega, by omega⟩ HT9.out, _, rfl⟩
              · have HG : Hid (valueP tx.data.toList s = valueF tx.data.toList qq k { s' with at_ := s'.at_ + n } (out ++ enc R)) := by
                  show _ = _
                  rw [HV.out, hlet]
                  simp only [growP, ← HXS.out, hgt, if_false]
                have t5 : ¬ (16384 : Int) < (out.length : Int) + ((⟨(enc R).toArray⟩ : ByteArray).size : Int) := by omega
                clear hlet HV
                generalize (⟨(enc R).toArray⟩ : ByteArray) = X at *
                obtain ⟨i0, hi, hz0, hz1, hz2⟩ := info_parts info5
                go_wp2
                refine wp_region_bel (by kernel_rfl) (by kernel_rfl) ?_
                intro hne
                repeat go_big_quiet_step ((go_at_call 105; exact Calls.bel_of (hnx _)))
                refine wpQuiet_nil ?_
                rintro _ ⟨u, rfl⟩
                replace HQr : Hid (Qd u.w b B tx (okQ s' (hasB o)) vo vt op o) := HQr.out.below u.h
                replace HOr : Hid (Own u.w w.heap.size (.slice va out.length vcap) out) := owns_below HOr.out u.h
                replace HTr : Hid (Turn (fun k => k = b ∨ w.heap.size ≤ k) w u.w) := HTr.out.trans (turn_below _ u.h (Nat.le_refl _))
                replace hwr : w.heap.size ≤ u.w.heap.size := Nat.le_trans hwr u.h.size
                clear h0 h1 h2 h3 h4 h5 h6 h7 fz hb hnx
                obtain ⟨h0, h1, h2, h3, h4, h5, h6, h7, fz, hb⟩ := HQr.out.facts
                rw [e1] at h1
                generalize u.w = wy at *
                have hown : wy.ownsRow w.heap.size 5 1 (.slice va out.length vcap) out.length (Lib.byteCells out) := HOr.out
                go_wp2_with (at_builtin; refine Lib.wpList_append_own_string _ rfl _ _ 47 9 rfl w.heap.size 5 i0 Tryz.underlying47 Tryz.underlying9 hi hz0 hz1 hz2 _ _ _ rfl hown X rfl (by unfold maxLen; omega) (by omega) hwr ?_; intro v' w9 hown' hgrow _; have HQ9 : Hid (Qd w9 b B tx (okQ s' (hasB o)) vo vt op o) := HQr.out.grown hgrow (fun k hk => (own_block_lt HOr.out k hk).1) hbN HVO.out HVT.out; have HG9 : Hid (wy.grownBy w9 (Value.slice va out.length vcap).ownBlock) := hgrow; have HO9 : Hid (w9.ownsRow w.heap.size 5 1 v' (out.length + X.size) (Lib.byteCells out ++ Lib.strCells X)) := hown'; clear hown hown' hgrow h0 h1 h2 h3 h4 h5 h6 h7 fz hb; obtain ⟨h0, h1, h2, h3, h4, h5, h6, h7, fz, hb⟩ := HQ9.out.facts; rw [e1] at h1)
                have HOx : Own w9 w.heap.size v' (out ++ enc R) := by
                  show w9.ownsRow w.heap.size 5 1 v' _ _
                  rw [← HXL.out, Lib.byteCells_append, ← Lib.strCells_eq, show (out ++ X.data.toList).length = out.length + X.size by rw [List.length_append, size_list]]
                  exact HO9.out
                have hq10 : Qd (w9.setCell ⟨b, 1, none⟩ (.int .i64 ((s'.at_ : Int) + (n : Int)))) b B tx (okQ { s' with at_ := s'.at_ + n } (hasB o)) vo vt op o := HQ9.out.setAt _ (by simp)
                have ho10 : Own (w9.setCell ⟨b, 1, none⟩ (.int .i64 ((s'.at_ : Int) + (n : Int)))) w.heap.size v' (out ++ enc R) := own_of_block HOx (fun k hk => Below.heap_setCell _ _ _ _ (by have := (own_block_lt HOx k hk).1; show k ≠ b; omega))
                have ht9 : Turn (fun k => k = b ∨ w.heap.size ≤ k) wy w9 := ⟨HG9.out.os, HG9.out.tape, HG9.out.output, HG9.out.size, fun k hk hA => HG9.out.block k hk (fun e => hA (.inr (by have := (own_block_lt HOr.out k e.symm).1; omega)))⟩
                have hlen : (out ++ enc R).length ≤ 16384 := by rw [List.length_append, ← HXS.out]; omega
                refine ⟨⟨out ++ enc R, { s' with at_ := s'.at_ + n }, k, ⟨hlen, ho10, hq10, ⟨r1, by simp only; omega, r3, r4⟩, HOPr.out, by simp only; omega, HG.out, (HTr.out.trans ht9).setCell (p := ⟨b, 1, none⟩) (.inl rfl) _⟩⟩, ?_⟩
                rw [hq10.atOf, HAT.out]
                simp only [okQ]
                omega
            · rw [if_neg hz] at hlet
              simp only [if_neg hz] at hnx
              have HG : Hid (valueP tx.data.toList s = .inr (s'.at_, (nextP (tx.data.toList.drop s'.at_)).2.2)) := by show _ = _; rw [HV.out, hlet]
              have hbad := fun (W : World) (hq : Qd W b B tx (okQ s' (hasB o)) vo vt op o) => qbad_any W b B tx _ vo vt op o hq s'.at_ (nextP (tx.data.toList.drop s'.at_)).2.2
              have HC : Hid (¬ (nextP (tx.data.toList.drop s'.at_)).2.2 = 0) := hz
              have t5 : ((nextP (tx.data.toList.drop s'.at_)).2.2 != 0) = true := bne_iff_ne.2 hz
              have t6 : ((nextP (tx.data.toList.drop s'.at_)).2.2 == 0) = false := beq_eq_false_iff_ne.2 hz
              clear hlet hz HV
              generalize (nextP (tx.data.toList.drop s'.at_)).2.2 = ec at *
              go_wp2
              refine wp_region_bel (by kernel_rfl) (by kernel_rfl) ?_
              intro hne
              repeat go_big_quiet_step ((go_at_call 105; exact Calls.bel_of (hnx _)))
              refine wpQuiet_nil ?_
              rintro _ ⟨u, rfl⟩
              replace HQr : Hid (Qd u.w b B tx (okQ s' (hasB o)) vo vt op o) := HQr.out.below u.h
              replace HOr : Hid (Own u.w w.heap.size (.slice va out.length vcap) out) := owns_below HOr.out u.h
              replace HTr : Hid (Turn (fun k => k = b ∨ w.heap.size ≤ k) w u.w) := HTr.out.trans (turn_below _ u.h (Nat.le_refl _))
              replace hwr : w.heap.size ≤ u.w.heap.size := Nat.le_trans hwr u.h.size
              clear h0 h1 h2 h3 h4 h5 h6 h7 fz hb hnx
              obtain ⟨h0, h1, h2, h3, h4, h5, h6, h7, fz, hb⟩ := HQr.out.facts
              rw [e1] at h1
              generalize u.w = wy at *
              go_wp2_with fail
              refine (hbad _ HQr.out).mono ?_
              rintro e w9 ⟨rfl, hq9, ht9⟩
              have HQ9 : Hid _ := hq9
              have HO9 : Hid (Own w9 w.heap.size (.slice va out.length vcap) out) := own_of_block HOr.out (fun k hk => ht9.block k (own_block_lt HOr.out k hk).2 (fun e => by have := (own_block_lt HOr.out k hk).1; omega))
              have HT9 : Hid (Turn (fun k => k = b ∨ w.heap.size ≤ k) w w9) := HTr.out.trans (ht9.mono (fun k _ e => .inl e))
              have hcv := conv_own HO9.out
              clear hbad hq9 ht9
              go_wp2
              go_ret
              exact ⟨QPostA.no HG.out ⟨HC.out, _, _, _, _, _, HQ9.out, rfl, rfl, by simp only [badQ, okQ, if_true]; omega, by omega⟩ HT9.out, _, rfl⟩
      · have t1 : ((s'.at_ : Int) == (tx.size : Int)) = true := by simp; omega
        have HG : Hid (valueP tx.data.toList s = .inr (s'.at_, 4)) := by show _ = _; rw [HGr.out]; simp only [valueF, get_no (Nat.le_of_not_lt hat)]
        have HC : Hid ((4 : Int) ≠ 0) := (by decide : (4 : Int) ≠ 0)
        have hbad := fun (W : World) (hq : Qd W b B tx (okQ s' (hasB o)) vo vt op o) => qbad_any W b B tx _ vo vt op o hq s'.at_ 4
        clear HGr
        go_wp2
        go_region
        clear h0 h1 h2 h3 h4 h5 h6 h7 fz hb
        obtain ⟨h0, h1, h2, h3, h4, h5, h6, h7, fz, hb⟩ := HQr.out.facts
        rw [e1] at h1
        generalize wr.drew = wd at *
        go_wp2_with fail
        refine (hbad _ HQr.out).mono ?_
        rintro e w9 ⟨rfl, hq9, ht9⟩
        have HQ9 : Hid _ := hq9
        have HO9 : Hid (Own w9 w.heap.size (.slice va out.length vcap) out) := own_of_block HOr.out (fun k hk => ht9.block k (own_block_lt HOr.out k hk).2 (fun e => by have := (own_block_lt HOr.out k hk).1; omega))
        have HT9 : Hid (Turn (fun k => k = b ∨ w.heap.size ≤ k) w w9) := HTr.out.trans (ht9.mono (fun k _ e => .inl e))
        have hcv := conv_own HO9.out
        clear hbad hq9 ht9
        go_wp2
        go_ret
        exact ⟨QPostA.no HG.out ⟨HC.out, _, _, _, _, _, HQ9.out, rfl, rfl, by simp only [badQ, okQ, if_true]; omega, by omega⟩ HT9.out, _, rfl⟩
  · go_enter Tryz.func110, Tryz.ntmps110
    go_wp2
    refine wp_region_bel (by kernel_rfl) (by kernel_rfl) ?_
    intro hne
    repeat go_big_quiet_step (fail)
    refine wpQuiet_nil ?_
    rintro _ ⟨u, rfl⟩
    have HQu : Hid (Qd u.w b B tx (okQ s (hasB o)) vo vt op o) := HQ.out.below u.h
    have HBu : Hid (Below w.heap.size w u.w) := u.h
    clear h0 h1 h2 h3 h4 h5 h6 h7 fz hb
    obtain ⟨h0, h1, h2, h3, h4, h5, h6, h7, fz, hb⟩ := HQu.out.facts
    rw [e0] at h1
    generalize u.w = wu at *
    go_wp2
    go_region
    have HQd : Hid (Qd wu.drew b B tx (okQ s (hasB o)) vo vt op o) := HQu.out.drew
    have HBd : Hid (Below w.heap.size w wu.drew) := HBu.out.drew
    generalize wu.drew = wd at *
    go_wp2_with fail
    refine (hok _ _ HQd.out).mono ?_
    rintro e w3 ⟨rfl, hw3⟩
    obtain rfl := hw3.symm
    clear h0 h1 h2 h3 h4 h5 h6 h7 fz hb
    obtain ⟨h0, h1, h2, h3, h4, h5, h6, h7, fz, hb⟩ := HQd.out.facts
    rw [e0] at h1
    go_wp2
    go_region
    have HQe : Hid (Qd (wd.setCell ⟨b, 1, none⟩ (.int .i64 ((s.at_ : Int) + 1))).drew b B tx (okQ { s with at_ := s.at_ + 1 } (hasB o)) vo vt op o) := (HQd.out.setAt _ (by simp)).drew
    have HTe : Hid (Turn (fun k => k = b ∨ w.heap.size ≤ k) w (wd.setCell ⟨b, 1, none⟩ (.int .i64 ((s.at_ : Int) + 1))).drew) := ((turn_below _ HBd.out (Nat.le_refl _)).setCell (p := ⟨b, 1, none⟩) (.inl rfl) _).drew
    go_wp2
    generalize (wd.setCell ⟨b, 1, none⟩ (.int .i64 ((s.at_ : Int) + 1))).drew = we at *
    have HST : Hid (ValSt w b B tx s op o vo vt (.slice none 0 0) (tx[s.at_]'ha) we [] { s with at_ := s.at_ + 1 } (tx.size - s.at_)) := ⟨by simp, ⟨rfl, .inl ⟨rfl, rfl⟩⟩, HQe.out, ⟨k1, by simp only; omega, k3, k4⟩, rfl, by simp only; omega, HGO.out, HTe.out⟩
    clear h0 h1 h2 h3 h4 h5 h6 h7 fz hb HQe HTe HQd HBd HQu HBu HGO t1 t2 t2b
    generalize tx[s.at_]'ha = qq at *
    clear t3
    go_loopw [4] (fun vb wr => ∃ (out : Bs) (s' : St) (k : Nat), Hid (ValSt w b B tx s op o vo vt vb qq wr out s' k)) (fun _ wr => tx.size - atOf wr b)
    case atStart => exact ⟨[], _, _, HST⟩
    case round =>
      clear HST
      obtain ⟨out, s', k, hst⟩ := hrel
      obtain ⟨l1, own, qd, okr, opr, fuel, go, turn⟩ := hst.out
      clear hst
      obtain ⟨k, rfl⟩ : ∃ j, k = j + 1 := ⟨k - 1, by omega⟩
      obtain ⟨va, vcap, rfl⟩ := own_slice own
      have HQ0 : Hid (Qd wr b B tx (okQ s' (hasB o)) vo vt op o) := qd
      have HQr : Hid (Qd wr.drew b B tx (okQ s' (hasB o)) vo vt op o) := qd.drew
      have HOr : Hid (Own wr.drew w.heap.size (.slice va out.length vcap) out) := own
      have HOKr : Hid (Ok tx s') := okr
      have HTr : Hid (Turn (fun k => k = b ∨ w.heap.size ≤ k) w wr.drew) := turn.drew
      have HGr : Hid (valueP tx.data.toList s = valueF tx.data.toList qq (k + 1) s' out) := go
      have HOPr : Hid (s'.op = s.op) := opr
      have hwr : w.heap.size ≤ wr.drew.heap.size := turn.size
      have HAT : Hid (atOf wr b = s'.at_) := qd.atOf
      obtain ⟨r1, r2, r3, r4⟩ := okr
      obtain ⟨h0, h1, h2, h3, h4, h5, h6, h7, fz, hb⟩ := qd.facts
      have e1 : (okQ s' (hasB o)).at_ = s'.at_ := rfl
      rw [e1] at h1
      clear own qd go turn opr
      go_wp2_with fail
      refine (hok _ _ HQ0.out).mono ?_
      rintro e w3 ⟨rfl, hw3⟩
      obtain rfl := hw3.symm
      by_cases hat : s'.at_ < tx.size
      · have ge := get_some hat
        have t1 : ((s'.at_ : Int) == (tx.size : Int)) = false := by simp; omega
        go_wp2
        go_region
        have hQ1 : Qd wr.drew b B tx (okQ s' (hasB o)) vo vt op o := HQr.out
        clear h0 h1 h2 h3 h4 h5 h6 h7 fz hb
        obtain ⟨h0, h1, h2, h3, h4, h5, h6, h7, fz, hb⟩ := hQ1.facts
        rw [e1] at h1
        clear hQ1
        generalize wr.drew = wd at *
        go_wp2
        go_region
        replace HQr : Hid (Qd wd.drew b B tx (okQ s' (hasB o)) vo vt op o) := HQr.out.drew
        replace HOr : Hid (Own wd.drew w.heap.size (.slice va out.length vcap) out) := HOr.out
        replace HTr : Hid (Turn (fun k => k = b ∨ w.heap.size ≤ k) w wd.drew) := HTr.out.drew
        replace hwr : w.heap.size ≤ wd.drew.heap.size := hwr
        clear h0 h1 h2 h3 h4 h5 h6 h7 fz hb
        obtain ⟨h0, h1, h2, h3, h4, h5, h6, h7, fz, hb⟩ := HQr.out.facts
        rw [e1] at h1
        generalize wd.drew = wx at *
        by_cases hcq : tx[s'.at_]'hat = qq
        · have t2 : (((tx[s'.at_]'hat).toNat : Int) == (qq.toNat : Int)) = true := by rw [hcq]; simp
          have HG : Hid (valueP tx.data.toList s = .inl (out, { s' with at_ := s'.at_ + 1 })) := by show _ = _; rw [HGr.out]; simp only [valueF, ge, hcq, if_true]
          have HQ9 : Hid (Qd (wx.setCell ⟨b, 1, none⟩ (.int .i64 ((s'.at_ : Int) + 1))) b B tx (okQ { s' with at_ := s'.at_ + 1 } (hasB o)) vo vt op o) := HQr.out.setAt _ (by simp)
          have HO9 : Own (wx.setCell ⟨b, 1, none⟩ (.int .i64 ((s'.at_ : Int) + 1))) w.heap.size (.slice va out.length vcap) out := own_of_block HOr.out (fun k hk => Below.heap_setCell _ _ _ _ (by have := (own_block_lt HOr.out k hk).1; show k ≠ b; omega))
          have HT9 : Hid (Turn (fun k => k = b ∨ w.heap.size ≤ k) w (wx.setCell ⟨b, 1, none⟩ (.int .i64 ((s'.at_ : Int) + 1)))) := HTr.out.setCell (p := ⟨b, 1, none⟩) (.inl rfl) _
          have hcv := conv_own HO9
          clear HO9 hcq
          go_wp2
          go_ret
          exact ⟨QPostA.yes HG.out rfl ⟨by have := HOP.out; have := HOPr.out; simp only; omega, _, _, HQ9.out⟩ HT9.out, _, rfl⟩
        · have t2 : (((tx[s'.at_]'hat).toNat : Int) == (qq.toNat : Int)) = false := by
            rw [beq_eq_false_iff_ne]; intro e; exact hcq (UInt8.toNat_inj.1 (by omega))
          by_cases hc6 : tx[s'.at_]'hat = 60
          · have t4 : (((tx[s'.at_]'hat).toNat : Int) == 60) = true := by rw [hc6]; rfl
            have HG : Hid (valueP tx.data.toList s = .inr (s'.at_, 3)) := by show _ = _; rw [HGr.out]; simp only [valueF, ge, hc6, if_true]; simp only [← hc6, hcq, if_false]
            have HC : Hid ((3 : Int) ≠ 0) := (by decide : (3 : Int) ≠ 0)
            have hbad := fun (W : World) (hq : Qd W b B tx (okQ s' (hasB o)) vo vt op o) => qbad_any W b B tx _ vo vt op o hq s'.at_ 3
            clear hc6 hcq HGr
            go_wp2_with fail
            refine (hbad _ HQr.out).mono ?_
            rintro e w9 ⟨rfl, hq9, ht9⟩
            have HQ9 : Hid _ := hq9
            have HO9 : Hid (Own w9 w.heap.size (.slice va out.length vcap) out) := own_of_block HOr.out (fun k hk => ht9.block k (own_block_lt HOr.out k hk).2 (fun e => by have := (own_block_lt HOr.out k hk).1; omega))
            have HT9 : Hid (Turn (fun k => k = b ∨ w.heap.size ≤ k) w w9) := HTr.out.trans (ht9.mono (fun k _ e => .inl e))
            have hcv := conv_own HO9.out
            clear hbad hq9 ht9
            go_wp2
            go_ret
            exact ⟨QPostA.no HG.out ⟨HC.out, _, _, _, _, _, HQ9.out, rfl, rfl, by simp only [badQ, okQ, if_true]; omega, by omega⟩ HT9.out, _, rfl⟩
          · have t4 : (((tx[s'.at_]'hat).toNat : Int) == 60) = false := by
              rw [beq_eq_false_iff_ne]; intro e; exact hc6 (UInt8.toNat_inj.1 (by show _ = 60; omega))
            have hlet := letterP_next (l := tx.data.toList) (s := s') (by rw [size_list]; exact hat)
            have hnx := fun W => rnext_any W tx s'.at_ hat (by omega)
            unfold nbytes nlen at hnx
            have HV : Hid (valueP tx.data.toList s = match letterP tx.data.toList s' with
              | .inr (p, e) => .inr (p, e)
              | .inl (x, s1) => match growP s1 out x s'.at_ with
                | .inr (p, e) => .inr (p, e)
                | .inl (o, s2) => valueF tx.data.toList qq k s2 o) := by
              show _ = _
              rw [HGr.out]
              simp only [valueF, ge, hcq, hc6, if_false]
              cases letterP tx.data.toList s' <;> rfl
            clear hcq hc6 ge HGr
            by_cases hz : (nextP (tx.data.toList.drop s'.at_)).2.2 = 0
            · obtain ⟨R, n, e2, hc, hn1, hn2⟩ := nextP_ok hz
              rw [if_pos hz] at hlet
              simp only [if_pos hz] at hnx
              rw [e2] at hlet hnx
              rw [List.length_drop, size_list] at hn2
              simp only [Int.toNat_natCast] at hlet hnx
              have hRs := enc_length R
              have hRp := size_pos R
              have hxs : (⟨(enc R).toArray⟩ : ByteArray).size = (enc R).length := List.size_toArray
              have hxl : (⟨(enc R).toArray⟩ : ByteArray).data.toList = enc R := rfl
              have HXL : Hid ((⟨(enc R).toArray⟩ : ByteArray).data.toList = enc R) := hxl
              have hE4 : (⟨(enc R).toArray⟩ : ByteArray).size ≤ 40 := by omega
              have hE0 : 0 < (⟨(enc R).toArray⟩ : ByteArray).size := by omega
              have HXS : Hid ((⟨(enc R).toArray⟩ : ByteArray).size = (enc R).length) := hxs
              clear hxs hxl hRs hRp hz e2 hc
              by_cases hgt : 16384 < out.length + (⟨(enc R).toArray⟩ : ByteArray).size
              · have HG : Hid (valueP tx.data.toList s = .inr (s'.at_, 2)) := by
                  show _ = _
                  rw [HV.out, hlet]
                  simp only [growP, ← HXS.out, hgt, if_true]
                have HC : Hid ((2 : Int) ≠ 0) := (by decide : (2 : Int) ≠ 0)
                have hbad := fun (W : World) (hq : Qd W b B tx (okQ s' (hasB o)) vo vt op o) => qbad_any W b B tx _ vo vt op o hq s'.at_ 2
                have t5 : (16384 : Int) < (out.length : Int) + ((⟨(enc R).toArray⟩ : ByteArray).size : Int) := by omega
                clear hlet HV hgt
                generalize (⟨(enc R).toArray⟩ : ByteArray) = X at *
                go_wp2
                refine wp_region_bel (by kernel_rfl) (by kernel_rfl) ?_
                intro hne
                repeat go_big_quiet_step ((go_at_call 105; exact Calls.bel_of (hnx _)))
                refine wpQuiet_nil ?_
                rintro _ ⟨u, rfl⟩
                replace HQr : Hid (Qd u.w b B tx (okQ s' (hasB o)) vo vt op o) := HQr.out.below u.h
                replace HOr : Hid (Own u.w w.heap.size (.slice va out.length vcap) out) := owns_below HOr.out u.h
                replace HTr : Hid (Turn (fun k => k = b ∨ w.heap.size ≤ k) w u.w) := HTr.out.trans (turn_below _ u.h (Nat.le_refl _))
                replace hwr : w.heap.size ≤ u.w.heap.size := Nat.le_trans hwr u.h.size
                clear h0 h1 h2 h3 h4 h5 h6 h7 fz hb hnx
                obtain ⟨h0, h1, h2, h3, h4, h5, h6, h7, fz, hb⟩ := HQr.out.facts
                rw [e1] at h1
                generalize u.w = wy at *
                go_wp2_with fail
                refine (hbad _ HQr.out).mono ?_
                rintro e w9 ⟨rfl, hq9, ht9⟩
                have HQ9 : Hid _ := hq9
                have HO9 : Hid (Own w9 w.heap.size (.slice va out.length vcap) out) := own_of_block HOr.out (fun k hk => ht9.block k (own_block_lt HOr.out k hk).2 (fun e => by have := (own_block_lt HOr.out k hk).1; omega))
                have HT9 : Hid (Turn (fun k => k = b ∨ w.heap.size ≤ k) w w9) := HTr.out.trans (ht9.mono (fun k _ e => .inl e))
                have hcv := conv_own HO9.out
                clear hbad hq9 ht9
                go_wp2
                go_ret
                exact ⟨QPostA.no HG.out ⟨HC.out, _, _, _, _, _, HQ9.out, rfl, rfl, by simp only [badQ, okQ, if_true]; omega, by omega⟩ HT9.out, _, rfl⟩
              · have HG : Hid (valueP tx.data.toList s = valueF tx.data.toList qq k { s' with at_ := s'.at_ + n } (out ++ enc R)) := by
                  show _ = _
                  rw [HV.out, hlet]
                  simp only [growP, ← HXS.out, hgt, if_false]
                have t5 : ¬ (16384 : Int) < (out.length : Int) + ((⟨(enc R).toArray⟩ : ByteArray).size : Int) := by omega
                clear hlet HV
                generalize (⟨(enc R).toArray⟩ : ByteArray) = X at *
                obtain ⟨i0, hi, hz0, hz1, hz2⟩ := info_parts info5
                go_wp2
                refine wp_region_bel (by kernel_rfl) (by kernel_rfl) ?_
                intro hne
                repeat go_big_quiet_step ((go_at_call 105; exact Calls.bel_of (hnx _)))
                refine wpQuiet_nil ?_
                rintro _ ⟨u, rfl⟩
                replace HQr : Hid (Qd u.w b B tx (okQ s' (hasB o)) vo vt op o) := HQr.out.below u.h
                replace HOr : Hid (Own u.w w.heap.size (.slice va out.length vcap) out) := owns_below HOr.out u.h
                replace HTr : Hid (Turn (fun k => k = b ∨ w.heap.size ≤ k) w u.w) := HTr.out.trans (turn_below _ u.h (Nat.le_refl _))
                replace hwr : w.heap.size ≤ u.w.heap.size := Nat.le_trans hwr u.h.size
                clear h0 h1 h2 h3 h4 h5 h6 h7 fz hb hnx
                obtain ⟨h0, h1, h2, h3, h4, h5, h6, h7, fz, hb⟩ := HQr.out.facts
                rw [e1] at h1
                generalize u.w = wy at *
                have hown : wy.ownsRow w.heap.size 5 1 (.slice va out.length vcap) out.length (Lib.byteCells out) := HOr.out
                go_wp2_with (at_builtin; refine Lib.wpList_append_own_string _ rfl _ _ 47 9 rfl w.heap.size 5 i0 Tryz.underlying47 Tryz.underlying9 hi hz0 hz1 hz2 _ _ _ rfl hown X rfl (by unfold maxLen; omega) (by omega) hwr ?_; intro v' w9 hown' hgrow _; have HQ9 : Hid (Qd w9 b B tx (okQ s' (hasB o)) vo vt op o) := HQr.out.grown hgrow (fun k hk => (own_block_lt HOr.out k hk).1) hbN HVO.out HVT.out; have HG9 : Hid (wy.grownBy w9 (Value.slice va out.length vcap).ownBlock) := hgrow; have HO9 : Hid (w9.ownsRow w.heap.size 5 1 v' (out.length + X.size) (Lib.byteCells out ++ Lib.strCells X)) := hown'; clear hown hown' hgrow h0 h1 h2 h3 h4 h5 h6 h7 fz hb; obtain ⟨h0, h1, h2, h3, h4, h5, h6, h7, fz, hb⟩ := HQ9.out.facts; rw [e1] at h1)
                have HOx : Own w9 w.heap.size v' (out ++ enc R) := by
                  show w9.ownsRow w.heap.size 5 1 v' _ _
                  rw [← HXL.out, Lib.byteCells_append, ← Lib.strCells_eq, show (out ++ X.data.toList).length = out.length + X.size by rw [List.length_append, size_list]]
                  exact HO9.out
                have hq10 : Qd (w9.setCell ⟨b, 1, none⟩ (.int .i64 ((s'.at_ : Int) + (n : Int)))) b B tx (okQ { s' with at_ := s'.at_ + n } (hasB o)) vo vt op o := HQ9.out.setAt _ (by simp)
                have ho10 : Own (w9.setCell ⟨b, 1, none⟩ (.int .i64 ((s'.at_ : Int) + (n : Int)))) w.heap.size v' (out ++ enc R) := own_of_block HOx (fun k hk => Below.heap_setCell _ _ _ _ (by have := (own_block_lt HOx k hk).1; show k ≠ b; omega))
                have ht9 : Turn (fun k => k = b ∨ w.heap.size ≤ k) wy w9 := ⟨HG9.out.os, HG9.out.tape, HG9.out.output, HG9.out.size, fun k hk hA => HG9.out.block k hk (fun e => hA (.inr (by have := (own_block_lt HOr.out k e.symm).1; omega)))⟩
                have hlen : (out ++ enc R).length ≤ 16384 := by rw [List.length_append, ← HXS.out]; omega
                refine ⟨⟨out ++ enc R, { s' with at_ := s'.at_ + n }, k, ⟨hlen, ho10, hq10, ⟨r1, by simp only; omega, r3, r4⟩, HOPr.out, by simp only; omega, HG.out, (HTr.out.trans ht9).setCell (p := ⟨b, 1, none⟩) (.inl rfl) _⟩⟩, ?_⟩
                rw [hq10.atOf, HAT.out]
                simp only [okQ]
                omega
            · rw [if_neg hz] at hlet
              simp only [if_neg hz] at hnx
              have HG : Hid (valueP tx.data.toList s = .inr (s'.at_, (nextP (tx.data.toList.drop s'.at_)).2.2)) := by show _ = _; rw [HV.out, hlet]
              have hbad := fun (W : World) (hq : Qd W b B tx (okQ s' (hasB o)) vo vt op o) => qbad_any W b B tx _ vo vt op o hq s'.at_ (nextP (tx.data.toList.drop s'.at_)).2.2
              have HC : Hid (¬ (nextP (tx.data.toList.drop s'.at_)).2.2 = 0) := hz
              have t5 : ((nextP (tx.data.toList.drop s'.at_)).2.2 != 0) = true := bne_iff_ne.2 hz
              have t6 : ((nextP (tx.data.toList.drop s'.at_)).2.2 == 0) = false := beq_eq_false_iff_ne.2 hz
              clear hlet hz HV
              generalize (nextP (tx.data.toList.drop s'.at_)).2.2 = ec at *
              go_wp2
              refine wp_region_bel (by kernel_rfl) (by kernel_rfl) ?_
              intro hne
              repeat go_big_quiet_step ((go_at_call 105; exact Calls.bel_of (hnx _)))
              refine wpQuiet_nil ?_
              rintro _ ⟨u, rfl⟩
              replace HQr : Hid (Qd u.w b B tx (okQ s' (hasB o)) vo vt op o) := HQr.out.below u.h
              replace HOr : Hid (Own u.w w.heap.size (.slice va out.length vcap) out) := owns_below HOr.out u.h
              replace HTr : Hid (Turn (fun k => k = b ∨ w.heap.size ≤ k) w u.w) := HTr.out.trans (turn_below _ u.h (Nat.le_refl _))
              replace hwr : w.heap.size ≤ u.w.heap.size := Nat.le_trans hwr u.h.size
              clear h0 h1 h2 h3 h4 h5 h6 h7 fz hb hnx
              obtain ⟨h0, h1, h2, h3, h4, h5, h6, h7, fz, hb⟩ := HQr.out.facts
              rw [e1] at h1
              generalize u.w = wy at *
              go_wp2_with fail
              refine (hbad _ HQr.out).mono ?_
              rintro e w9 ⟨rfl, hq9, ht9⟩
              have HQ9 : Hid _ := hq9
              have HO9 : Hid (Own w9 w.heap.size (.slice va out.length vcap) out) := own_of_block HOr.out (fun k hk => ht9.block k (own_block_lt HOr.out k hk).2 (fun e => by have := (own_block_lt HOr.out k hk).1; omega))
              have HT9 : Hid (Turn (fun k => k = b ∨ w.heap.size ≤ k) w w9) := HTr.out.trans (ht9.mono (fun k _ e => .inl e))
              have hcv := conv_own HO9.out
              clear hbad hq9 ht9
              go_wp2
              go_ret
              exact ⟨QPostA.no HG.out ⟨HC.out, _, _, _, _, _, HQ9.out, rfl, rfl, by simp only [badQ, okQ, if_true]; omega, by omega⟩ HT9.out, _, rfl⟩
      · have t1 : ((s'.at_ : Int) == (tx.size : Int)) = true := by simp; omega
        have HG : Hid (valueP tx.data.toList s = .inr (s'.at_, 4)) := by show _ = _; rw [HGr.out]; simp only [valueF, get_no (Nat.le_of_not_lt hat)]
        have HC : Hid ((4 : Int) ≠ 0) := (by decide : (4 : Int) ≠ 0)
        have hbad := fun (W : World) (hq : Qd W b B tx (okQ s' (hasB o)) vo vt op o) => qbad_any W b B tx _ vo vt op o hq s'.at_ 4
        clear HGr
        go_wp2
        go_region
        clear h0 h1 h2 h3 h4 h5 h6 h7 fz hb
        obtain ⟨h0, h1, h2, h3, h4, h5, h6, h7, fz, hb⟩ := HQr.out.facts
        rw [e1] at h1
        generalize wr.drew = wd at *
        go_wp2_with fail
        refine (hbad _ HQr.out).mono ?_
        rintro e w9 ⟨rfl, hq9, ht9⟩
        have HQ9 : Hid _ := hq9
        have HO9 : Hid (Own w9 w.heap.size (.slice va out.length vcap) out) := own_of_block HOr.out (fun k hk => ht9.block k (own_block_lt HOr.out k hk).2 (fun e => by have := (own_block_lt HOr.out k hk).1; omega))
        have HT9 : Hid (Turn (fun k => k = b ∨ w.heap.size ≤ k) w w9) := HTr.out.trans (ht9.mono (fun k _ e => .inl e))
        have hcv := conv_own HO9.out
        clear hbad hq9 ht9
        go_wp2
        go_ret
        exact ⟨QPostA.no HG.out ⟨HC.out, _, _, _, _, _, HQ9.out, rfl, rfl, by simp only [badQ, okQ, if_true]; omega, by omega⟩ HT9.out, _, rfl⟩

set_option maxRecDepth 100000 in
set_option maxHeartbeats 4000000 in
theorem qvalue_b0 (w : World) (b B : Nat) (tx : ByteArray) (s : St) (op : List ByteArray) (o : Bs) (h : QS w b B tx s op o) (ok : Ok tx s) (hol : o.length ≤ 16384) :
    Calls Tryz.prog 110 #[.pointer (some ⟨b, 0, none⟩)] w (fun e w' => QPostA (fun k => k = b ∨ w.heap.size ≤ k) w b B tx tx.size op (valueP tx.data.toList s) (fun _ => o) (fun x e w' => e = .returned (.string (ba x))) e w' ∧ ∃ x, e = .returned (.string x)) := by
  by_cases ha : s.at_ < tx.size
  · by_cases hq : tx[s.at_]'ha = 34 ∨ tx[s.at_]'ha = 39
    · exact qvalue_go w b B tx s op o h ok hol ha hq
    · have ge := get_some ha
      have HG : Hid (valueP tx.data.toList s = .inr (s.at_, 3)) := by
        show valueP _ _ = _
        simp only [valueP, ge, hq, if_false]
      obtain ⟨hop, vo, vt, h⟩ := h
      obtain ⟨k1, k2, k3, k4⟩ := ok
      have HQ : Hid (Qd w b B tx (okQ s (hasB o)) vo vt op o) := h
      have hbad := fun (W : World) (hq : Qd W b B tx (okQ s (hasB o)) vo vt op o) => qbad_any W b B tx _ vo vt op o hq s.at_ 3
      have hbq : badQ (okQ s (hasB o)) s.at_ 3 = { okQ s (hasB o) with place := s.at_, err := 3 } := by simp [badQ, okQ]
      rw [hbq] at hbad
      have hok := fun (W : World) (hq : Qd W b B tx { okQ s (hasB o) with place := s.at_, err := 3 } vo vt op o) => qok_any W b B tx _ vo vt op o hq
      have hq0 : ((3 : Int) == 0) = false := rfl
      simp only [hq0] at hok
      obtain ⟨h0, h1, h2, h3, h4, h5, h6, h7, fz, hb⟩ := h.facts
      have e0 : (okQ s (hasB o)).at_ = s.at_ := rfl
      rw [e0] at h1
      have t1 : decide ((s.at_ : Int) < (tx.size : Int)) = true := by simp; omega
      have t3 : ¬ (tx.size : Int) ≤ (s.at_ : Int) := by omega
      have t4 : (((tx[s.at_]'ha).toNat : Int) != 34) = true := by
        rw [bne_iff_ne]; intro e; exact hq (.inl (UInt8.toNat_inj.1 (by show _ = 34; omega)))
      have t5 : (((tx[s.at_]'ha).toNat : Int) != 39) = true := by
        rw [bne_iff_ne]; intro e; exact hq (.inr (UInt8.toNat_inj.1 (by show _ = 39; omega)))
      clear h hop ge hq0 hq hbq
      go_enter Tryz.func110, Tryz.ntmps110
      go_wp2
      refine wp_region_bel (by kernel_rfl) (by kernel_rfl) ?_
      intro hne
      repeat go_big_quiet_step (fail)
      refine wpQuiet_nil ?_
      rintro _ ⟨u, rfl⟩
      have HQu : Hid (Qd u.w b B tx (okQ s (hasB o)) vo vt op o) := HQ.out.below u.h
      have HBu : Hid (Below w.heap.size w u.w) := u.h
      clear h0 h1 h2 h3 h4 h5 h6 h7 fz hb
      obtain ⟨h0, h1, h2, h3, h4, h5, h6, h7, fz, hb⟩ := HQu.out.facts
      rw [e0] at h1
      generalize u.w = wu at *
      go_wp2_with fail
      refine (hbad _ HQu.out).mono ?_
      rintro e w3 ⟨rfl, hq3, ht3⟩
      have HQ3 : Hid _ := hq3
      have HT3 : Hid (Turn (fun k => k = b ∨ w.heap.size ≤ k) w w3) := (turn_below _ HBu.out (Nat.le_refl _)).trans (ht3.mono (fun k _ e => .inl e))
      clear h0 h1 h2 h3 h4 h5 h6 h7 fz hb hbad
      obtain ⟨h0, h1, h2, h3, h4, h5, h6, h7, fz, hb⟩ := hq3.facts
      simp only [okQ] at h1
      clear hq3 ht3
      go_wp2
      go_region
      go_wp2_with fail
      refine (hok _ HQ3.out.drew).mono ?_
      rintro e w4 ⟨rfl, hw4⟩
      obtain rfl := hw4.symm
      go_wp2
      go_ret
      exact ⟨QPostA.no HG.out ⟨by decide, _, _, _, _, _, HQ3.out.drew, rfl, rfl, by simp only [okQ]; omega, by omega⟩ HT3.out.drew, _, rfl⟩
  · have HG : Hid (valueP tx.data.toList s = .inr (s.at_, 4)) := by
      show valueP _ _ = _
      simp only [valueP, get_no (Nat.le_of_not_lt ha)]
    obtain ⟨hop, vo, vt, h⟩ := h
    obtain ⟨k1, k2, k3, k4⟩ := ok
    have HE9 : Hid (s.at_ = tx.size) := (by omega : s.at_ = tx.size)
    have HQ : Hid (Qd w b B tx (okQ s (hasB o)) vo vt op o) := h
    have hbad := fun (W : World) (hq : Qd W b B tx (okQ s (hasB o)) vo vt op o) => qbad_any W b B tx _ vo vt op o hq tx.size 4
    have hbq : badQ (okQ s (hasB o)) tx.size 4 = { okQ s (hasB o) with place := tx.size, err := 4 } := by simp [badQ, okQ]
    rw [hbq] at hbad
    have hok := fun (W : World) (hq : Qd W b B tx { okQ s (hasB o) with place := tx.size, err := 4 } vo vt op o) => qok_any W b B tx _ vo vt op o hq
    have hq0 : ((4 : Int) == 0) = false := rfl
    simp only [hq0] at hok
    obtain ⟨h0, h1, h2, h3, h4, h5, h6, h7, fz, hb⟩ := h.facts
    have e0 : (okQ s (hasB o)).at_ = s.at_ := rfl
    rw [e0] at h1
    have t1 : decide ((s.at_ : Int) < (tx.size : Int)) = false := by simp; omega
    have t3 : (tx.size : Int) ≤ (s.at_ : Int) := by omega
    clear h hop hq0 hbq
    go_enter Tryz.func110, Tryz.ntmps110
    go_wp2
    refine wp_region_bel (by kernel_rfl) (by kernel_rfl) ?_
    intro hne
    repeat go_big_quiet_step (fail)
    refine wpQuiet_nil ?_
    rintro _ ⟨u, rfl⟩
    have HQu : Hid (Qd u.w b B tx (okQ s (hasB o)) vo vt op o) := HQ.out.below u.h
    have HBu : Hid (Below w.heap.size w u.w) := u.h
    clear h0 h1 h2 h3 h4 h5 h6 h7 fz hb
    obtain ⟨h0, h1, h2, h3, h4, h5, h6, h7, fz, hb⟩ := HQu.out.facts
    rw [e0] at h1
    generalize u.w = wu at *
    go_wp2
    go_region
    have HQd : Hid (Qd wu.drew b B tx (okQ s (hasB o)) vo vt op o) := HQu.out.drew
    have HBd : Hid (Below w.heap.size w wu.drew) := HBu.out.drew
    generalize wu.drew = wd at *
    clear h0 h1 h2 h3 h4 h5 h6 h7 fz hb
    obtain ⟨h0, h1, h2, h3, h4, h5, h6, h7, fz, hb⟩ := HQd.out.facts
    rw [e0] at h1
    go_wp2_with fail
    refine (hbad _ HQd.out).mono ?_
    rintro e w3 ⟨rfl, hq3, ht3⟩
    have HQ3 : Hid _ := hq3
    have HT3 : Hid (Turn (fun k => k = b ∨ w.heap.size ≤ k) w w3) := (turn_below _ HBd.out (Nat.le_refl _)).trans (ht3.mono (fun k _ e => .inl e))
    clear hbad hq3 ht3
    go_wp2_with fail
    refine (hok _ HQ3.out).mono ?_
    rintro e w4 ⟨rfl, hw4⟩
    obtain rfl := hw4.symm
    go_wp2
    go_ret
    exact ⟨QPostA.no HG.out ⟨by decide, _, _, _, _, _, HQ3.out, rfl, HE9.out.symm, by simp only [okQ]; omega, by omega⟩ HT3.out, _, rfl⟩

theorem QPostA.mono {α : Type} {A A' : Nat → Prop} {w : World} {b B : Nat} {tx : ByteArray} {M : Nat} {op : List ByteArray} {r : Rs α} {O : α → Bs} {V : α → Ending → World → Prop} {e : Ending} {w' : World} (h : QPostA A w b B tx M op r O V e w') (f : ∀ k, k < w.heap.size → A k → A' k) : QPostA A' w b B tx M op r O V e w' := by
  cases r with
  | inl q_ => obtain ⟨a, s⟩ := q_; exact ⟨h.1, h.2.1, h.2.2.mono f⟩
  | inr q_ => obtain ⟨p, c⟩ := q_; exact ⟨h.1, h.2.1, h.2.2.mono f⟩
theorem qvalue_b (w : World) (b B : Nat) (tx : ByteArray) (s : St) (op : List ByteArray) (o : Bs) (h : QS w b B tx s op o) (ok : Ok tx s) (hol : o.length ≤ 16384) :
    Calls Tryz.prog 110 #[.pointer (some ⟨b, 0, none⟩)] w (fun e w' => QPostA (fun k => k = b) w b B tx tx.size op (valueP tx.data.toList s) (fun _ => o) (fun x e w' => e = .returned (.string (ba x))) e w' ∧ ∃ x, e = .returned (.string x)) :=
  (qvalue_b0 w b B tx s op o h ok hol).mono fun e w' hh => ⟨hh.1.mono (fun k hk hA => hA.elim id (fun h => absurd h (Nat.not_le.2 hk))), hh.2⟩

end Go.Proofs.YtmifejkddgcbmabGreat
