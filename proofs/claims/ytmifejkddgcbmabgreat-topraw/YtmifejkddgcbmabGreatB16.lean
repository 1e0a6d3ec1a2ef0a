/- The document's reader: raw text. -/
import Derived.Test.YtmifejkddgcbmabGreatB15
import Derived.Deep.RegionHeld3
namespace Go.Proofs.YtmifejkddgcbmabGreat
open Go.RowKit
set_option linter.unusedVariables false
set_option linter.unusedSimpArgs false
attribute [local go_sem] Bel.cell Bel.fz

/-- What stands from a place on, up to K. -/
def mid (tx : ByteArray) (a K : Nat) : Bs := (tx.extract 0 K).data.toList.drop a
theorem mid_len {tx : ByteArray} {a K : Nat} (hK : K ≤ tx.size) : (mid tx a K).length = K - a := by
  unfold mid
  rw [List.length_drop, size_list, ByteArray.size_extract]
  omega
theorem mid_drop {tx : ByteArray} {a K n : Nat} : (mid tx a K).drop n = mid tx (a + n) K := by
  unfold mid
  rw [List.drop_drop]
theorem mid_cons {tx : ByteArray} {a K i n : Nat} (hK : K ≤ tx.size) (hi : i < n) (hn : n ≤ K - a) (h : a + i < tx.size) : ((mid tx a K).take n).drop i = (tx[a + i]'h) :: ((mid tx a K).take n).drop (i + 1) := by
  have hl := mid_len (a := a) hK
  have h1 : i < ((mid tx a K).take n).length := by rw [List.length_take, hl]; omega
  rw [List.drop_eq_getElem_cons h1]
  congr 1
  rw [List.getElem_take]
  have h2 : (mid tx a K)[i]? = some (tx[a + i]'h) := by
    unfold mid
    rw [List.getElem?_drop, ext_mid, List.getElem?_take_of_lt (by omega), List.drop_zero, get_some h]
  exact (List.getElem?_eq_some_iff.1 h2).2
theorem mid_eq {tx : ByteArray} {a K k0 : Nat} (h : K = a + k0) : mid tx a K = (tx.data.toList.drop a).take k0 := by
  unfold mid
  rw [ext_mid, List.drop_zero, List.drop_take, h]
  congr 1
  omega

/-- What the loop over characters keeps. -/
def RawRel (w wr : World) (b B : Nat) (tx : ByteArray) (s : St) (op : List ByteArray) (o : Bs) (K : Nat) : Prop := Turn (fun k => k = b ∨ B ≤ k) w wr ∧
  ((∃ a s' out k vo vt, a ≤ K ∧ s'.at_ = K + 3 ∧ Ok tx s' ∧ s'.op = s.op ∧ out.length ≤ 16384 ∧ K - a ≤ k ∧ rawP tx.data.toList s o = rawF k s' out (mid tx a K) a ∧ Qd wr b B tx (okQ { s' with at_ := a } (hasB out)) vo vt op out) ∨
   (∃ p c, rawP tx.data.toList s o = .inr (p, c) ∧ QE wr b B tx tx.size p c))
/-- What the loop over a character's bytes keeps. -/
def PutRel (w wr : World) (b B : Nat) (tx : ByteArray) (s' : St) (op : List ByteArray) (out : Bs) (x : Bs) (a : Nat) (i : Nat) : Prop := Turn (fun k => k = b ∨ B ≤ k) w wr ∧
  ((∃ s1 out1 vo vt, s1.at_ = s'.at_ ∧ Ok tx s1 ∧ s1.op = s'.op ∧ out1.length ≤ 16384 ∧ putsP s' out x a = putsP s1 out1 (x.drop i) (a + i) ∧ Qd wr b B tx (okQ { s1 with at_ := a } (hasB out1)) vo vt op out1) ∨
   (∃ p c q vo vt op1 o1, putsP s' out x a = .inr (p, c) ∧ Qd wr b B tx q vo vt op1 o1 ∧ c ≠ 0 ∧ q.err = c ∧ q.place = p ∧ q.at_ = a ∧ o1.length ≤ 100000))

theorem cell_atQ {W : World} {b B : Nat} {tx : ByteArray} {q : Qs} {vo vt : Value} {op : List ByteArray} {o : Bs} {a : Nat} (hq : Qd W b B tx q vo vt op o) (hc : W.cell? ⟨b, 1, none⟩ = some (.int .i64 (a : Int))) : q.at_ = a := by
  have h9 := hq.facts.2.1
  rw [hc] at h9
  have h8 : (a : Int) = (q.at_ : Int) := by injection h9 with h9; injection h9
  omega

set_option maxRecDepth 100000 in
set_option maxHeartbeats 4000000 in
theorem qraw_any (w : World) (b B : Nat) (tx : ByteArray) (s : St) (op : List ByteArray) (o : Bs) (h : QS w b B tx s op o) (ok : Ok tx s) (hol : o.length ≤ 16384) (h9 : s.at_ + 9 ≤ tx.size) :
    Calls Tryz.prog 79 #[.pointer (some ⟨b, 0, none⟩)] w (QPost w b B tx tx.size op (rawP tx.data.toList s o) id fun _ e w' => e = .returned (.tuple #[])) := by
  obtain ⟨hop, vo, vt, h⟩ := h
  have HOK : Hid (Ok tx s) := ok
  obtain ⟨k1, k2, k3, k4⟩ := ok
  have hfi := qfind_any w b B tx _ vo vt op o h k1 ⟨#[93, 93, 62]⟩ (by decide) (by decide) (s.at_ + 9) h9
  have hbad := qbad_any w b B tx _ vo vt op o h s.at_ 4
  have HQ : Hid (Qd w b B tx (okQ s (hasB o)) vo vt op o) := h
  have HOP : Hid (op.length = s.op) := hop
  obtain ⟨h0, h1, h2, h3, h4, h5, h6, h7, fz, hb⟩ := h.facts
  have e1 : (okQ s (hasB o)).at_ = s.at_ := rfl
  rw [e1] at h1
  rw [Int.natCast_add] at hfi
  unfold findA at hfi
  clear h hop
  cases hf : findP [93, 93, 62] (tx.data.toList.drop (s.at_ + 9)) with
  | none =>
    simp only [hf] at hfi
    have HG : Hid (rawP tx.data.toList s o = .inr (s.at_, 4)) := by show rawP _ _ _ = _; unfold rawP skipP; rw [hf]
    have hbq : badQ (okQ s (hasB o)) s.at_ 4 = { okQ s (hasB o) with place := s.at_, err := 4 } := by simp [badQ, okQ]
    rw [hbq] at hbad
    clear hf hbq
    go_enter Tryz.func79, Tryz.ntmps79
    go_wp2_with fail
    refine hfi.mono ?_
    rintro e w1 ⟨rfl, hw1⟩
    obtain rfl := hw1.symm
    go_wp2_with fail
    refine hbad.mono ?_
    rintro e w2 ⟨rfl, hq2, ht2⟩
    have HQ2 : Hid _ := hq2
    have HT2 : Hid (Turn (fun k => k = b ∨ B ≤ k) w w2) := ht2.mono (fun k _ e => .inl e)
    clear hbad hq2 ht2
    go_wp2
    first | go_end0 | refine bodyPost_ret (results_none rfl _ _ _) rfl ?_
    exact QPost.no HG.out ⟨by decide, _, _, _, _, _, HQ2.out, rfl, rfl, by simp only [okQ]; omega, by omega⟩ HT2.out
  | some k0 =>
    simp only [hf] at hfi
    have hk := findP_le _ _ _ hf
    rw [List.length_drop, size_list] at hk
    obtain ⟨K, hK⟩ : ∃ K, K = s.at_ + 9 + k0 := ⟨_, rfl⟩
    rw [← hK] at hfi
    have hKs : K + 3 ≤ tx.size := by simp at hk; omega
    have HX : Hid (rawP tx.data.toList s o = rawF k0 { s with at_ := K + 3 } o (mid tx (s.at_ + 9) K) (s.at_ + 9)) := by
      show rawP _ _ _ = _
      unfold rawP skipP
      rw [hf]
      have e1 : ((tx.data.toList.drop (s.at_ + 9)).take k0).length = k0 := by rw [List.length_take, List.length_drop, size_list]; omega
      simp only [e1, mid_eq hK]
      rw [hK]
      rfl
    have hka : s.at_ + 9 ≤ K := by omega
    have HKK : Hid (K - (s.at_ + 9) ≤ k0) := (by omega : K - (s.at_ + 9) ≤ k0)
    clear hf hbad hK hk
    have hKi : (K : Int) ≤ 262144 := by omega
    have t0 : ¬ (K : Int) < 0 := by omega
    go_enter Tryz.func79, Tryz.ntmps79
    go_wp2_with fail
    refine hfi.mono ?_
    rintro e w1 ⟨rfl, hw1⟩
    obtain rfl := hw1.symm
    go_wp2
    have HREL : Hid (RawRel w (w.setCell ⟨b, 1, none⟩ (.int .i64 ((s.at_ : Int) + 9))) b B tx s op o K) := ⟨(Turn.refl _ w).setCell (p := ⟨b, 1, none⟩) (.inl rfl) _, .inl ⟨s.at_ + 9, { s with at_ := K + 3 }, o, k0, vo, vt, hka, rfl, ⟨k1, hKs, k3, k4⟩, rfl, hol, HKK.out, HX.out, HQ.out.setAt (s.at_ + 9) (by simp)⟩⟩
    clear h0 h1 h2 h3 h4 h5 h6 h7 fz hb hfi HX HKK
    go_loopw [] (fun wr => Hid (RawRel w wr b B tx s op o K)) (fun wr => leftQ tx wr b)
    case atStart => exact HREL
    case round =>
      clear HREL
      obtain ⟨htr, ⟨a, s', out, k, vo', vt', ha, hs', hok', hop', hout, hfu, hgo, hqd⟩ | ⟨p, c, hg, hc0, q, vo1, vt1, op1, o1, hq1, he, hpl, hM, ho1⟩⟩ := hrel.out
      · have HTR : Hid (Turn (fun k => k = b ∨ B ≤ k) w wr) := htr
        have HQr : Hid (Qd wr b B tx (okQ { s' with at_ := a } (hasB out)) vo' vt' op out) := hqd
        have HGO : Hid (rawP tx.data.toList s o = rawF k s' out (mid tx a K) a) := hgo
        have HS' : Hid (s'.at_ = K + 3 ∧ Ok tx s' ∧ s'.op = s.op) := ⟨hs', hok', hop'⟩
        have HLEFT : Hid (leftQ tx wr b = tx.size - a + 1) := by show _ = _; rw [hqd.left]; rfl
        obtain ⟨h0, h1, h2, h3, h4, h5, h6, h7, fz, hb⟩ := hqd.facts
        have ea : (okQ { s' with at_ := a } (hasB out)).at_ = a := rfl
        rw [ea] at h1
        clear htr hqd hgo hs' hok' hop' hrel
        by_cases hlt : a < K
        · have t1 : (a : Int) < (K : Int) := by omega
          go_wp2_with fail
          refine (qokT HQr.out).mono ?_
          rintro e w8 ⟨rfl, hw8⟩
          obtain rfl := hw8.symm
          have hx0 : ¬ mid tx a K = [] := by rw [← List.length_eq_zero_iff, mid_len (by omega)]; omega
          obtain ⟨k, rfl⟩ : ∃ j, k = j + 1 := ⟨k - 1, by omega⟩
          have hat := fun W => at_any W (tx.extract 0 K) a (by rw [ByteArray.size_extract]; omega) (by rw [ByteArray.size_extract]; omega)
          have hKb : (K : Int) ≤ (tx.size : Int) := by omega
          cases hfst : first (mid tx a K) with
          | none =>
            have hans : aans ((tx.extract 0 K).data.toList.drop a) = (0, 0) := by show aans (mid tx a K) = _; simp [aans, hfst]
            simp only [hans] at hat
            have HG : Hid (rawP tx.data.toList s o = .inr (a, 7)) := by show _ = _; rw [HGO.out]; exact rawF_bad hx0 hfst
            have hbad := fun (W : World) (hq : Qd W b B tx (okQ { s' with at_ := a } (hasB out)) vo' vt' op out) => qbad_any W b B tx _ vo' vt' op out hq a 7
            clear hans hfst hx0 HGO
            go_wp2
            refine wp_region_bel (by kernel_rfl) (by kernel_rfl) ?_
            intro hnex
            repeat go_big_quiet_step ((go_at_call 103; exact Calls.bel_of (hat _)))
            refine wpQuiet_nil ?_
            rintro _ ⟨u, rfl⟩
            replace HQr : Hid (Qd u.w b B tx (okQ { s' with at_ := a } (hasB out)) vo' vt' op out) := HQr.out.below u.h
            replace HTR : Hid (Turn (fun k => k = b ∨ B ≤ k) w u.w) := HTR.out.trans (turn_below _ u.h (Nat.le_refl _))
            clear h0 h1 h2 h3 h4 h5 h6 h7 fz hb hat
            generalize u.w = wu at *
            obtain ⟨h0, h1, h2, h3, h4, h5, h6, h7, fz, hb⟩ := HQr.out.facts
            rw [ea] at h1
            go_wp2_with fail
            refine (hbad _ HQr.out).mono ?_
            rintro e w9 ⟨rfl, hq9, ht9⟩
            have HQ9 : Hid _ := hq9
            have HT9 : Hid (Turn (fun k => k = b ∨ B ≤ k) w w9) := HTR.out.trans (ht9.mono (fun k _ e => .inl e))
            clear hbad hq9 ht9
            go_wp2
            first | go_end0 | refine bodyPost_ret (results_none rfl _ _ _) rfl ?_
            exact QPost.no HG.out ⟨by decide, _, _, _, _, _, HQ9.out, rfl, rfl, by simp only [badQ, okQ, if_true]; omega, by omega⟩ HT9.out
          | some rn =>
            obtain ⟨r, n⟩ := rn
            obtain ⟨n1, n2, n4⟩ := first_len hfst
            rw [mid_len (by omega)] at n2
            have hans : aans ((tx.extract 0 K).data.toList.drop a) = ((r : Int), (n : Int)) := by show aans (mid tx a K) = _; simp [aans, hfst]
            simp only [hans] at hat
            have HV : Hid (rawP tx.data.toList s o = match putsP s' out ((mid tx a K).take n) a with
              | .inr (p, e) => .inr (p, e)
              | .inl (o, s1) => rawF k s1 o (mid tx (a + n) K) (a + n)) := by
              show _ = _
              rw [HGO.out, rawF_step hx0 hfst, mid_drop]
              cases putsP s' out ((mid tx a K).take n) a <;> rfl
            have t5 : ((n : Int) == 0) = false := by simp; omega
            have HXL : Hid (((mid tx a K).take n).length = n) := by show _ = _; rw [List.length_take, mid_len (by omega)]; omega
            clear hans hfst hx0 HGO
            go_wp2
            refine wp_region_bel (by kernel_rfl) (by kernel_rfl) ?_
            intro hnex
            repeat go_big_quiet_step ((go_at_call 103; exact Calls.bel_of (hat _)))
            refine wpQuiet_nil ?_
            rintro _ ⟨u, rfl⟩
            replace HQr : Hid (Qd u.w b B tx (okQ { s' with at_ := a } (hasB out)) vo' vt' op out) := HQr.out.below u.h
            replace HTR : Hid (Turn (fun k => k = b ∨ B ≤ k) w u.w) := HTR.out.trans (turn_below _ u.h (Nat.le_refl _))
            clear h0 h1 h2 h3 h4 h5 h6 h7 fz hb hat
            generalize u.w = wu at *
            go_wp2
            have HREL2 : Hid (PutRel w wu b B tx s' op out ((mid tx a K).take n) a 0) := ⟨HTR.out, .inl ⟨s', out, vo', vt', rfl, HS'.out.2.1, rfl, hout, rfl, HQr.out⟩⟩
            clear HQr HTR
            go_loopw [5] (fun v5 wr2 => ∃ i : Nat, i ≤ n ∧ v5 = .int .i64 (i : Int) ∧ Hid (PutRel w wr2 b B tx s' op out ((mid tx a K).take n) a i)) (fun v5 _ => n - (intOf v5).toNat)
            case atStart => exact ⟨0, by omega, rfl, HREL2⟩
            case round =>
              clear HREL2
              obtain ⟨i, hin, rfl, hrel2⟩ := hrel
              obtain ⟨htr, ⟨s1, out1, vo1, vt1, hs1, hok1, hop1, hout1, hgo1, hqd1⟩ | ⟨p, c, q, vo1, vt1, op1, o1, hg, hq1, hc0, he, hpl, hM, ho1⟩⟩ := hrel2.out
              · have HTR : Hid (Turn (fun k => k = b ∨ B ≤ k) w wr) := htr
                have HQr : Hid (Qd wr b B tx (okQ { s1 with at_ := a } (hasB out1)) vo1 vt1 op out1) := hqd1
                have HS1 : Hid (s1.at_ = s'.at_ ∧ Ok tx s1 ∧ s1.op = s'.op) := ⟨hs1, hok1, hop1⟩
                have HGO1 : Hid (putsP s' out ((mid tx a K).take n) a = putsP s1 out1 (((mid tx a K).take n).drop i) (a + i)) := hgo1
                obtain ⟨h0, h1, h2, h3, h4, h5, h6, h7, fz, hb⟩ := hqd1.facts
                have ea1 : (okQ { s1 with at_ := a } (hasB out1)).at_ = a := rfl
                rw [ea1] at h1
                clear htr hqd1 hs1 hok1 hop1 hgo1 hrel2
                by_cases hilt : i < n
                · have t1 : (i : Int) < (n : Int) := by omega
                  have hJl : a + i < tx.size := by omega
                  obtain ⟨J, hJ⟩ : ∃ J, J = a + i := ⟨_, rfl⟩
                  have hJi : (a : Int) + (i : Int) = (J : Int) := by omega
                  have hJs : J + 1 ≤ tx.size := by omega
                  have hJ1 : (J : Int) + 1 ≤ (tx.size : Int) := by omega
                  have hJ2 : (J : Int) ≤ (J : Int) + 1 := by omega
                  have hJ0 : (0 : Int) ≤ (J : Int) := by omega
                  have hJ3 : ((J : Int) + 1).toNat = J + 1 := by omega
                  have hw0 : IntKind.i64.wrap (J : Int) = (J : Int) := by rw [IntKind.wrap_i64]; omega
                  have hw1 : IntKind.i64.wrap ((a : Int) + (i : Int)) = (J : Int) := by rw [IntKind.wrap_i64]; omega
                  have hw2 : IntKind.i64.wrap ((J : Int) + 1) = (J : Int) + 1 := by rw [IntKind.wrap_i64]; omega
                  have HX1 : Hid (((mid tx a K).take n).drop i = (tx.extract J (J + 1)).data.toList ++ ((mid tx a K).take n).drop (i + 1)) := by
                    show _ = _
                    rw [mid_cons (by omega) hilt n2 hJl, hJ, ext_one hJl]
                    rfl
                  have hxs : (tx.extract J (J + 1)).size = 1 := by rw [ByteArray.size_extract]; omega
                  have hok2 : Ok tx { s1 with at_ := a } := ⟨k1, by simp only; omega, HS1.out.2.1.nodes, HS1.out.2.1.op⟩
                  have hadd := fun (W : World) (hq : Qd W b B tx (okQ { s1 with at_ := a } (hasB out1)) vo1 vt1 op out1) => qadd_at W b B tx { s1 with at_ := a } op out1 ⟨(HOP.out.trans (HS'.out.2.2.symm.trans HS1.out.2.2.symm)), vo1, vt1, hq⟩ hok2 hout1 (tx.extract J (J + 1)) (by omega) (by omega) J
                  have HJ : Hid (J = a + i) := hJ
                  clear hxs hok2 hJ hJl
                  go_wp2_with fail
                  refine (qokT HQr.out).mono ?_
                  rintro e w8 ⟨rfl, hw8⟩
                  obtain rfl := hw8.symm
                  go_wp2
                  have HQd : Hid (Qd wr.drew b B tx (okQ { s1 with at_ := a } (hasB out1)) vo1 vt1 op out1) := HQr.out.drew
                  have HTd : Hid (Turn (fun k => k = b ∨ B ≤ k) w wr.drew) := HTR.out.drew
                  go_region_held3 (fun W => W.cell? ⟨b, 0, none⟩ = some (.string tx) ∧ W.cell? ⟨b, 1, none⟩ = some (.int .i64 (a : Int))) (go_keep) (first | (go_at_call 104; refine (hadd _ HQd.out).mono ?_; rintro e w9 ⟨rfl, hp9, hc90, hc91⟩))
                  have hput := putP_at (s := s1) (o := out1) (x := (tx.extract J (J + 1)).data.toList) (a := J) (n := a)
                  rw [hput] at hp9
                  have HPS : Hid (putsP s' out ((mid tx a K).take n) a = match putP s1 out1 (tx.extract J (J + 1)).data.toList J with
                    | .inl (o, s2) => putsP s2 o (((mid tx a K).take n).drop (i + 1)) (J + 1)
                    | .inr (p, e) => .inr (p, e)) := by
                    show _ = _
                    rw [HGO1.out, HX1.out, ext_one (by omega), ← HJ.out]
                    exact putsP_cons _ _ _ _ _
                  clear hput h0 h1 h2 h3 h4 h5 h6 h7 fz hb hadd HX1 HGO1
                  cases hpp : putP s1 out1 (tx.extract J (J + 1)).data.toList J with
                  | inr q_ =>
                    obtain ⟨p, c⟩ := q_
                    rw [hpp] at hp9
                    obtain ⟨-, ⟨hc0, q, vo2, vt2, op2, o2, hq2, he, hpl, hM, ho2⟩, ht9⟩ := hp9
                    have hqa : q.at_ = a := cell_atQ hq2 hc91
                    have HREL3 : Hid (PutRel w w9 b B tx s' op out ((mid tx a K).take n) a (i + 1)) := ⟨HTd.out.trans ht9, .inr ⟨p, c, q, vo2, vt2, op2, o2, by rw [HPS.out, hpp], hq2, hc0, he, hpl, hqa, ho2⟩⟩
                    clear hpp hc0 he hpl hM ho2 hq2 ht9 hqa hc90 hc91
                    go_wp2
                    refine ⟨⟨i + 1, by omega, by simp, HREL3⟩, ?_⟩
                    simp [intOf]; omega
                  | inl q_ =>
                    obtain ⟨o2, s2⟩ := q_
                    rw [hpp] at hp9
                    obtain ⟨-, ⟨hop2, vo2, vt2, hq2⟩, ht9⟩ := hp9
                    obtain ⟨g1, g2, g3, g4, g5⟩ := putP_ok hpp
                    have HREL3 : Hid (PutRel w w9 b B tx s' op out ((mid tx a K).take n) a (i + 1)) := ⟨HTd.out.trans ht9, .inl ⟨s2, o2, vo2, vt2, g1.trans HS1.out.1, ⟨k1, by rw [g1]; exact HS1.out.2.1.at_, g3 HS1.out.2.1.nodes, by rw [g2]; exact HS1.out.2.1.op⟩, g2.trans HS1.out.2.2, g5, by rw [HPS.out, hpp, HJ.out]; rfl, hq2⟩⟩
                    clear hpp hop2 hq2 ht9 g1 g2 g3 g4 g5 hc90 hc91
                    go_wp2
                    refine ⟨⟨i + 1, by omega, by simp, HREL3⟩, ?_⟩
                    simp [intOf]; omega
                · have t1 : ¬ (i : Int) < (n : Int) := by omega
                  have hie : i = n := by omega
                  have HP9 : Hid (putsP s' out ((mid tx a K).take n) a = .inl (out1, s1)) := by
                    show _ = _
                    rw [HGO1.out, hie, List.drop_eq_nil_of_le (by rw [HXL.out]; exact Nat.le_refl _)]
                    rfl
                  have HQ9 : Hid (Qd (wr.setCell ⟨b, 1, none⟩ (.int .i64 ((a : Int) + (n : Int)))) b B tx (okQ { s1 with at_ := a + n } (hasB out1)) vo1 vt1 op out1) := HQr.out.setAt (a + n) (by simp)
                  have HREL4 : Hid (RawRel w (wr.setCell ⟨b, 1, none⟩ (.int .i64 ((a : Int) + (n : Int)))) b B tx s op o K) := ⟨HTR.out.setCell (p := ⟨b, 1, none⟩) (.inl rfl) _, .inl ⟨a + n, s1, out1, k, vo1, vt1, by omega, HS1.out.1.trans HS'.out.1, HS1.out.2.1, HS1.out.2.2.trans HS'.out.2.2, hout1, by omega, by rw [HV.out, HP9.out], HQ9.out⟩⟩
                  clear hie
                  go_wp2
                  refine ⟨HREL4, ?_⟩
                  rw [HQ9.out.left, HLEFT.out]
                  simp only [okQ, if_true]
                  omega
              · have HTR : Hid (Turn (fun k => k = b ∨ B ≤ k) w wr) := htr
                have HQr : Hid (Qd wr b B tx q vo1 vt1 op1 o1) := hq1
                have HP9 : Hid (putsP s' out ((mid tx a K).take n) a = .inr (p, c)) := hg
                have HR9 : Hid (c ≠ 0 ∧ q.err = c ∧ q.place = p ∧ q.at_ = a ∧ o1.length ≤ 100000) := ⟨hc0, he, hpl, hM, ho1⟩
                have t9 : (q.err == 0) = false := by rw [he]; exact beq_eq_false_iff_ne.2 hc0
                obtain ⟨h0, h1, h2, h3, h4, h5, h6, h7, fz, hb⟩ := hq1.facts
                rw [hM] at h1
                have HQ9 : Hid (Qd (wr.setCell ⟨b, 1, none⟩ (.int .i64 ((a : Int) + (n : Int)))) b B tx { q with at_ := a + n } vo1 vt1 op1 o1) := hq1.set 1 _ (by simp [qC])
                have HREL4 : Hid (RawRel w (wr.setCell ⟨b, 1, none⟩ (.int .i64 ((a : Int) + (n : Int)))) b B tx s op o K) := ⟨htr.setCell (p := ⟨b, 1, none⟩) (.inl rfl) _, .inr ⟨p, c, by rw [HV.out, hg], hc0, _, vo1, vt1, op1, o1, HQ9.out, he, hpl, by simp only; omega, ho1⟩⟩
                have HM9 : Hid (leftQ tx (wr.setCell ⟨b, 1, none⟩ (.int .i64 ((a : Int) + (n : Int)))) b = 0) := by show _ = _; rw [HQ9.out.left, if_neg (by rw [he]; exact hc0)]
                clear htr hq1 hg hc0 he hpl hM ho1 hrel2
                by_cases hilt : i < n
                · have t1 : (i : Int) < (n : Int) := by omega
                  go_wp2_with fail
                  refine (qok_any wr b B tx q vo1 vt1 op1 o1 HQr.out).mono ?_
                  rintro e w8 ⟨rfl, hw8⟩
                  obtain rfl := hw8.symm
                  go_wp2
                  refine ⟨HREL4, ?_⟩
                  rw [HM9.out, HLEFT.out]
                  omega
                · have t1 : ¬ (i : Int) < (n : Int) := by omega
                  go_wp2
                  refine ⟨HREL4, ?_⟩
                  rw [HM9.out, HLEFT.out]
                  omega
        · have t1 : ¬ (a : Int) < (K : Int) := by omega
          have HG : Hid (rawP tx.data.toList s o = .inl (out, s')) := by
            show _ = _
            rw [HGO.out]
            have e9 : mid tx a K = [] := by rw [← List.length_eq_zero_iff, mid_len (by omega)]; omega
            rw [e9]
            cases k with
            | zero => rfl
            | succ k => exact rawF_end _ _ _ _
          have HQ9 : Hid (Qd (wr.setCell ⟨b, 1, none⟩ (.int .i64 ((K : Int) + 3))) b B tx (okQ s' (hasB out)) vo' vt' op out) := by
            have h9 := HQr.out.setAt (K + 3) (x := (K : Int) + 3) (by simp)
            rw [← HS'.out.1] at h9
            exact h9
          have HT9 : Hid (Turn (fun k => k = b ∨ B ≤ k) w (wr.setCell ⟨b, 1, none⟩ (.int .i64 ((K : Int) + 3)))) := HTR.out.setCell (p := ⟨b, 1, none⟩) (.inl rfl) _
          go_wp2_with fail
          refine (qokT HQr.out).mono ?_
          rintro e w8 ⟨rfl, hw8⟩
          obtain rfl := hw8.symm
          go_wp2
          go_end0
          exact QPost.yes HG.out rfl ⟨HOP.out.trans HS'.out.2.2.symm, vo', vt', HQ9.out⟩ HT9.out
      · have HTR : Hid (Turn (fun k => k = b ∨ B ≤ k) w wr) := htr
        have HQr : Hid (Qd wr b B tx q vo1 vt1 op1 o1) := hq1
        have HG : Hid (rawP tx.data.toList s o = .inr (p, c)) := hg
        have HR9 : Hid (c ≠ 0 ∧ q.err = c ∧ q.place = p ∧ q.at_ ≤ tx.size ∧ o1.length ≤ 100000) := ⟨hc0, he, hpl, hM, ho1⟩
        have t9 : (q.err == 0) = false := by rw [he]; exact beq_eq_false_iff_ne.2 hc0
        obtain ⟨h0, h1, h2, h3, h4, h5, h6, h7, fz, hb⟩ := hq1.facts
        have hqm := hM
        clear htr hq1 hg hc0 he hpl hM ho1 hrel
        by_cases hlt : q.at_ < K
        · have t1 : (q.at_ : Int) < (K : Int) := by omega
          go_wp2_with fail
          refine (qok_any wr b B tx q vo1 vt1 op1 o1 HQr.out).mono ?_
          rintro e w8 ⟨rfl, hw8⟩
          obtain rfl := hw8.symm
          go_wp2_with fail
          refine (qok_any wr b B tx q vo1 vt1 op1 o1 HQr.out).mono ?_
          rintro e w8 ⟨rfl, hw8⟩
          obtain rfl := hw8.symm
          go_wp2
          go_end0
          obtain ⟨hc0, he, hpl, hM, ho1⟩ := HR9.out
          exact QPost.no HG.out ⟨hc0, q, vo1, vt1, op1, o1, HQr.out, he, hpl, hM, ho1⟩ HTR.out
        · have t1 : ¬ (q.at_ : Int) < (K : Int) := by omega
          go_wp2_with fail
          refine (qok_any wr b B tx q vo1 vt1 op1 o1 HQr.out).mono ?_
          rintro e w8 ⟨rfl, hw8⟩
          obtain rfl := hw8.symm
          go_wp2
          go_end0
          obtain ⟨hc0, he, hpl, hM, ho1⟩ := HR9.out
          exact QPost.no HG.out ⟨hc0, q, vo1, vt1, op1, o1, HQr.out, he, hpl, hM, ho1⟩ HTR.out

end Go.Proofs.YtmifejkddgcbmabGreat
