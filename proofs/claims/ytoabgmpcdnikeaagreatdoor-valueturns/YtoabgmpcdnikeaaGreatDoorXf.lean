/- The document's read: the walk. -/
import Derived.Test.YtoabgmpcdnikeaaGreatDoorXd
namespace Go.Proofs.YtoabgmpcdnikeaaGreatDoor
open Go.RowKit
set_option linter.unusedVariables false

set_option maxRecDepth 100000 in
set_option maxHeartbeats 4000000 in
theorem dread_any (w : World) (s : ByteArray) (hs : s.size ≤ 281474976710656) :
    Calls Tryz.prog 41 #[.string s] w fun e w' => e = .returned (.agg #[.bool (rdN (Tx s)).2, .int .i64 (rdN (Tx s)).1]) ∧ Below w.heap.size w w' := by
  obtain ⟨zn, zb, HZ⟩ : ∃ zn zb, Hid (rd2 (Lib.trimS (Tx s) blk) = (zn, zb)) := ⟨_, _, rfl⟩
  rw [← rd2_eq, HZ.out]
  go_enter Tryz.func41, Tryz.ntmps41
  go_wp2
  go_loopw [3] (fun u wr => ∃ i : Nat, i ≤ s.size ∧ u = .int .i64 (i : Int) ∧ wr = (w.alloc (.cells #[.bool false, .int .i64 0] 37)) ∧ Hid (∀ (j : Nat) b, j < i → (Tx s)[j]? = some b → blk.contains b = true)) (fun u _ => s.size - (intOf u).toNat)
  case atStart => exact ⟨0, by omega, rfl, rfl, fun j b hj => absurd hj (Nat.not_lt_zero _)⟩
  case round =>
    obtain ⟨i, hi, rfl, rfl, HB⟩ := hrel
    by_cases hlt : i < s.size
    · have hltz : (i : Int) < (s.size : Int) := by omega
      have HX : Hid ((Tx s)[i]? = some (s[i]'hlt)) := tx_at hlt
      generalize hx : (s[i]'hlt).toNat = x
      have hx256 : x < 256 := by rw [← hx]; exact UInt8.toNat_lt _
      have hw := fun u => white_any u x hx256
      have HC : Hid (blk.contains (s[i]'hlt) = blankB x) := by show _ = _; rw [blk_blank, hx]
      cases hbl : blankB x with
      | true =>
        rw [hbl] at hw
        have HB2 : Hid (∀ (j : Nat) b, j < i + 1 → (Tx s)[j]? = some b → blk.contains b = true) := fun j b hj hb => by
          rcases Nat.lt_or_ge j i with h1 | h1
          · exact HB.out j b h1 hb
          · obtain rfl : j = i := by omega
            rw [HX.out] at hb
            obtain rfl := Option.some.inj hb
            rw [HC.out, hbl]
        clear hbl
        go_wp2_with (refine (hw _).mono ?_; rintro e w' ⟨rfl, rfl⟩)
        go_roundw
        case rel => exact ⟨i + 1, by omega, by go_num, trivial, HB2⟩
        case measure => simp [intOf]; omega
      | false =>
        rw [hbl] at hw
        go_wp2_with (refine (hw _).mono ?_; rintro e w' ⟨rfl, rfl⟩)
        have HNB : Hid (blk.contains (s[i]'hlt) = false) := by show _ = _; rw [HC.out, hbl]
        clear hbl
        go_loopw [4] (fun u wr => ∃ q : Nat, i ≤ q ∧ q < s.size ∧ u = .int .i64 ((q : Int) + 1) ∧ wr = (w.alloc (.cells #[.bool false, .int .i64 0] 37)) ∧ Hid (∀ (j : Nat) b, q + 1 ≤ j → (Tx s)[j]? = some b → blk.contains b = true)) (fun u _ => (intOf u).toNat)
        case atStart => exact ⟨s.size - 1, by omega, by omega, by congr 1; omega, rfl, fun j b hj hb => by
          have := (List.getElem?_eq_some_iff.1 hb).1
          rw [tx_len] at this
          omega⟩
        case round =>
          obtain ⟨q, hiq, hqs, rfl, rfl, HE⟩ := hrel
          have hiqz : (i : Int) < (q : Int) + 1 := by omega
          have hqsz : (q : Int) < (s.size : Int) := by omega
          generalize hx2 : (s[q]'hqs).toNat = x2
          have hx2b : x2 < 256 := by rw [← hx2]; exact UInt8.toNat_lt _
          have hw2 := fun u => white_any u x2 hx2b
          have HC2 : Hid (blk.contains (s[q]'hqs) = blankB x2 ∧ (Tx s)[q]? = some (s[q]'hqs)) := ⟨by rw [blk_blank, hx2], tx_at hqs⟩
          cases hbl2 : blankB x2 with
          | true =>
            rw [hbl2] at hw2
            have hne : i ≠ q := by
              rintro rfl
              have := HC2.out.1
              rw [hbl2, HNB.out] at this
              cases this
            have HE2 : Hid (∀ (j : Nat) b, q - 1 + 1 ≤ j → (Tx s)[j]? = some b → blk.contains b = true) := fun j b hj hb => by
              rcases Nat.lt_or_ge q j with h1 | h1
              · exact HE.out j b h1 hb
              · obtain rfl : j = q := by omega
                rw [HC2.out.2] at hb
                obtain rfl := Option.some.inj hb
                rw [HC2.out.1, hbl2]
            clear hbl2
            go_wp2_with (refine (hw2 _).mono ?_; rintro e w' ⟨rfl, rfl⟩)
            go_roundw
            case rel => exact ⟨q - 1, by omega, by omega, by first | (congr 1; omega) | congr 1, trivial, HE2⟩
            case measure => simp [intOf]
          | false =>
            rw [hbl2] at hw2
            have HTR : Hid (rd2 (part s i (q + 1)) = (zn, zb)) := by
              show _ = _
              rw [← trim_part hiq hqs HB.out HNB.out HE.out (by rw [HC2.out.1, hbl2])]
              exact HZ.out
            clear hbl2 HZ HB HE
            by_cases h45 : x = 45
            · subst h45
              by_cases hie : i = q
              · subst hie
                obtain ⟨rfl, rfl⟩ : zn = 0 ∧ zb = false := by
                  have := HTR.out
                  rw [part_cons (by omega) (by omega), part_nil] at this
                  simp only [rd2, hx, if_true] at this
                  exact ⟨(Prod.mk.inj this).1.symm, (Prod.mk.inj this).2.symm⟩
                obtain rfl : x2 = 45 := by rw [← hx2]; exact hx
                clear hx2
                go_wp2_with (refine (hw2 _).mono ?_; rintro e w' ⟨rfl, rfl⟩)
                exact bodyPost_ret (v := .agg #[.bool false, .int .i64 0]) (by simp [results, Tryz.results41, go_sem]) rfl ⟨rfl, below1 _ _⟩
              · have hie2 : ((i : Int) + 1 == (q : Int) + 1) = false := by rw [beq_eq_false_iff_ne]; omega
                have hie3 : ((i : Int) == (q : Int)) = false := by rw [beq_eq_false_iff_ne]; omega
                have hie4 : (i == q) = false := by rw [beq_eq_false_iff_ne]; exact hie
                have hilt : i < q := by omega
                have HD : Hid (∀ o, accN 0 (part s (i + 1) (q + 1)) = o → (match o with | none => ((0 : Int), false) | some n => (-(n : Int), true)) = (zn, zb)) := fun o ho => by
                  have h7 := HTR.out
                  rw [part_cons (by omega) (by omega)] at h7
                  simp only [rd2, hx, if_true] at h7
                  rw [if_neg (by rw [part_cons (by omega) (by omega)]; simp), ho] at h7
                  exact h7
                have HNO : Hid (accN 0 (part s (i + 1) (q + 1)) = none → zn = 0 ∧ zb = false) := fun hnone => by
                  have h7 := HD.out none hnone
                  exact ⟨(Prod.mk.inj h7).1.symm, (Prod.mk.inj h7).2.symm⟩
                go_wp2_with (refine (hw2 _).mono ?_; rintro e w' ⟨rfl, rfl⟩)
                go_loopw [6, 7, 8] (fun u6 u7 _ wr => ∃ p m : Nat, (i + 1) ≤ p ∧ p ≤ q + 1 ∧ m ≤ 9223372036854775808 ∧ u7 = .int .i64 (p : Int) ∧ u6 = .int .u64 (m : Int) ∧ wr = (w.alloc (.cells #[.bool false, .int .i64 0] 37)) ∧ Hid (accN 0 (part s (i + 1) p) = some m)) (fun _ u7 _ _ => q + 1 - (intOf u7).toNat)
                case atStart => exact ⟨(i + 1), 0, Nat.le_refl _, by omega, by omega, by first | rfl | (simp; done) | go_num, rfl, rfl, by show accN 0 (part s (i + 1) (i + 1)) = some 0; rw [part_nil]; rfl⟩
                case round =>
                  obtain ⟨p, m, hfp, hpq, hm, rfl, rfl, rfl, HA⟩ := hrel
                  by_cases hpl : p < q + 1
                  · have hplz : (p : Int) < (q : Int) + 1 := by omega
                    have hps : p < s.size := by omega
                    have hpsz : (p : Int) < (s.size : Int) := by omega
                    have HP : Hid (part s (i + 1) (p + 1) = part s (i + 1) p ++ [s[p]'hps] ∧ part s (i + 1) (q + 1) = part s (i + 1) p ++ (s[p]'hps :: part s (p + 1) (q + 1))) := ⟨part_snoc (by omega) hps, by rw [part_split (p := p) (by omega) (by omega) (by omega), part_cons hpl (by omega)]⟩
                    have HY : Hid (∀ y, (s[p]'hps).toNat = y → (accN 0 (part s (i + 1) (p + 1)) = if 48 ≤ y ∧ y ≤ 57 then (if 9223372036854775808 < m * 10 + (y - 48) then none else some (m * 10 + (y - 48))) else none) ∧ ((¬ (48 ≤ y ∧ y ≤ 57) ∨ 9223372036854775808 < m * 10 + (y - 48)) → accN 0 (part s (i + 1) (q + 1)) = none)) := fun y hy => by
                      refine ⟨?_, fun hnd => ?_⟩
                      · rw [HP.out.1, accN_append, HA.out]
                        show accN m [s[p]'hps] = _
                        unfold accN
                        rw [hy]
                        rfl
                      · rw [HP.out.2, accN_append, HA.out]
                        show accN m (s[p]'hps :: part s (p + 1) (q + 1)) = none
                        unfold accN
                        rw [hy]
                        rcases hnd with h1 | h1
                        · rw [if_neg h1]
                        · by_cases hdg : 48 ≤ y ∧ y ≤ 57
                          · rw [if_pos hdg, if_pos h1]
                          · rw [if_neg hdg]
                    generalize hy : (s[p]'hps).toNat = y
                    have hy256 : y < 256 := by rw [← hy]; exact UInt8.toNat_lt _
                    obtain ⟨hy1, hy2⟩ := HY.out y hy
                    have HY1 : Hid _ := hy1
                    have HY2 : Hid _ := hy2
                    clear hy1 hy2 HY HP
                    by_cases hd1 : y < 48
                    · obtain ⟨rfl, rfl⟩ := HNO.out (HY2.out (.inl (by omega)))
                      go_wp2
                      exact bodyPost_ret (v := .agg #[.bool false, .int .i64 0]) (by simp [results, Tryz.results41, go_sem]) rfl ⟨rfl, below1 _ _⟩
                    · by_cases hd2 : 57 < y
                      · obtain ⟨rfl, rfl⟩ := HNO.out (HY2.out (.inl (by omega)))
                        go_wp2
                        exact bodyPost_ret (v := .agg #[.bool false, .int .i64 0]) (by simp [results, Tryz.results41, go_sem]) rfl ⟨rfl, below1 _ _⟩
                      · by_cases hov : 9223372036854775808 < m * 10 + (y - 48)
                        · obtain ⟨rfl, rfl⟩ := HNO.out (HY2.out (.inr hov))
                          have c1 : (9223372036854775808 - ((y : Int) - 48)) / 10 < (m : Int) := by omega
                          have c2 : (9223372036854775808 - (y - 48)) / 10 < m := by omega
                          have c3 : (y : Int) - 48 = ((y - 48 : Nat) : Int) := by omega
                          go_wp2
                          exact bodyPost_ret (v := .agg #[.bool false, .int .i64 0]) (by simp [results, Tryz.results41, go_sem]) rfl ⟨rfl, below1 _ _⟩
                        · have c1 : ¬ (9223372036854775808 - ((y : Int) - 48)) / 10 < (m : Int) := by omega
                          have HM2 : Hid (accN 0 (part s (i + 1) (p + 1)) = some (m * 10 + (y - 48))) := by show _ = _; rw [HY1.out, if_pos (by omega), if_neg hov]
                          have c5 : 10 * m + (y - 48) ≤ 9223372036854775808 := by omega
                          clear hov HY1 HY2
                          go_wp2
                          go_roundw
                          case rel => exact ⟨p + 1, m * 10 + (y - 48), by omega, by omega, by omega, by go_num, by congr 1; omega, trivial, HM2⟩
                          case measure => simp [intOf]; omega
                  · have hplz : ¬ (p : Int) < (q : Int) + 1 := by omega
                    obtain rfl : p = q + 1 := by omega
                    have HF : Hid _ := HD.out _ HA.out
                    simp only at HF
                    obtain ⟨rfl, rfl⟩ := Prod.mk.inj HF.out
                    by_cases hmm : m < 9223372036854775808
                    · have m2 : ((m : Int) == 9223372036854775808) = false := by rw [beq_eq_false_iff_ne]; omega
                      have m3 : (m == 9223372036854775808) = false := by rw [beq_eq_false_iff_ne]; omega
                      have m4 : (m : Int) < 9223372036854775808 := by omega
                      go_wp2
                      exact bodyPost_ret (v := .agg #[.bool true, .int .i64 (-(m : Int))]) (by simp [results, Tryz.results41, go_sem]) rfl ⟨rfl, below1 _ _⟩
                    · obtain rfl : m = 9223372036854775808 := by omega
                      go_wp2
                      exact bodyPost_ret (v := .agg #[.bool true, .int .i64 (-9223372036854775808)]) (by simp [results, Tryz.results41, go_sem]) rfl ⟨rfl, below1 _ _⟩
            · have q45 : (x == 45) = false := by rw [beq_eq_false_iff_ne]; exact h45
              have q46 : ((x : Int) == 45) = false := by rw [beq_eq_false_iff_ne]; omega
              have hie2 : ((i : Int) == (q : Int) + 1) = false := by rw [beq_eq_false_iff_ne]; omega
              have HD : Hid (∀ o, accN 0 (part s i (q + 1)) = o → (match o with | none => ((0 : Int), false) | some n => if n < 9223372036854775808 then ((n : Int), true) else (0, false)) = (zn, zb)) := fun o ho => by
                have h7 := HTR.out
                rw [part_cons (by omega) (by omega)] at h7
                simp only [rd2, hx, h45, if_false] at h7
                rw [← part_cons (by omega) (by omega), ho] at h7
                exact h7
              have HNO : Hid (accN 0 (part s i (q + 1)) = none → zn = 0 ∧ zb = false) := fun hnone => by
                have h7 := HD.out none hnone
                exact ⟨(Prod.mk.inj h7).1.symm, (Prod.mk.inj h7).2.symm⟩
              go_wp2_with (refine (hw2 _).mono ?_; rintro e w' ⟨rfl, rfl⟩)
              go_loopw [6, 7, 8] (fun u6 u7 _ wr => ∃ p m : Nat, i ≤ p ∧ p ≤ q + 1 ∧ m ≤ 9223372036854775808 ∧ u7 = .int .i64 (p : Int) ∧ u6 = .int .u64 (m : Int) ∧ wr = (w.alloc (.cells #[.bool false, .int .i64 0] 37)) ∧ Hid (accN 0 (part s (i) p) = some m)) (fun _ u7 _ _ => q + 1 - (intOf u7).toNat)
              case atStart => exact ⟨i, 0, Nat.le_refl _, by omega, by omega, by first | rfl | (simp; done) | go_num, rfl, rfl, by show accN 0 (part s (i) (i)) = some 0; rw [part_nil]; rfl⟩
              case round =>
                obtain ⟨p, m, hfp, hpq, hm, rfl, rfl, rfl, HA⟩ := hrel
                by_cases hpl : p < q + 1
                · have hplz : (p : Int) < (q : Int) + 1 := by omega
                  have hps : p < s.size := by omega
                  have hpsz : (p : Int) < (s.size : Int) := by omega
                  have HP : Hid (part s (i) (p + 1) = part s (i) p ++ [s[p]'hps] ∧ part s (i) (q + 1) = part s (i) p ++ (s[p]'hps :: part s (p + 1) (q + 1))) := ⟨part_snoc (by omega) hps, by rw [part_split (p := p) (by omega) (by omega) (by omega), part_cons hpl (by omega)]⟩
                  have HY : Hid (∀ y, (s[p]'hps).toNat = y → (accN 0 (part s (i) (p + 1)) = if 48 ≤ y ∧ y ≤ 57 then (if 9223372036854775808 < m * 10 + (y - 48) then none else some (m * 10 + (y - 48))) else none) ∧ ((¬ (48 ≤ y ∧ y ≤ 57) ∨ 9223372036854775808 < m * 10 + (y - 48)) → accN 0 (part s (i) (q + 1)) = none)) := fun y hy => by
                    refine ⟨?_, fun hnd => ?_⟩
                    · rw [HP.out.1, accN_append, HA.out]
                      show accN m [s[p]'hps] = _
                      unfold accN
                      rw [hy]
                      rfl
                    · rw [HP.out.2, accN_append, HA.out]
                      show accN m (s[p]'hps :: part s (p + 1) (q + 1)) = none
                      unfold accN
                      rw [hy]
                      rcases hnd with h1 | h1
                      · rw [if_neg h1]
                      · by_cases hdg : 48 ≤ y ∧ y ≤ 57
                        · rw [if_pos hdg, if_pos h1]
                        · rw [if_neg hdg]
                  generalize hy : (s[p]'hps).toNat = y
                  have hy256 : y < 256 := by rw [← hy]; exact UInt8.toNat_lt _
                  obtain ⟨hy1, hy2⟩ := HY.out y hy
                  have HY1 : Hid _ := hy1
                  have HY2 : Hid _ := hy2
                  clear hy1 hy2 HY HP
                  by_cases hd1 : y < 48
                  · obtain ⟨rfl, rfl⟩ := HNO.out (HY2.out (.inl (by omega)))
                    go_wp2
                    exact bodyPost_ret (v := .agg #[.bool false, .int .i64 0]) (by simp [results, Tryz.results41, go_sem]) rfl ⟨rfl, below1 _ _⟩
                  · by_cases hd2 : 57 < y
                    · obtain ⟨rfl, rfl⟩ := HNO.out (HY2.out (.inl (by omega)))
                      go_wp2
                      exact bodyPost_ret (v := .agg #[.bool false, .int .i64 0]) (by simp [results, Tryz.results41, go_sem]) rfl ⟨rfl, below1 _ _⟩
                    · by_cases hov : 9223372036854775808 < m * 10 + (y - 48)
                      · obtain ⟨rfl, rfl⟩ := HNO.out (HY2.out (.inr hov))
                        have c1 : (9223372036854775808 - ((y : Int) - 48)) / 10 < (m : Int) := by omega
                        have c2 : (9223372036854775808 - (y - 48)) / 10 < m := by omega
                        have c3 : (y : Int) - 48 = ((y - 48 : Nat) : Int) := by omega
                        go_wp2
                        exact bodyPost_ret (v := .agg #[.bool false, .int .i64 0]) (by simp [results, Tryz.results41, go_sem]) rfl ⟨rfl, below1 _ _⟩
                      · have c1 : ¬ (9223372036854775808 - ((y : Int) - 48)) / 10 < (m : Int) := by omega
                        have HM2 : Hid (accN 0 (part s (i) (p + 1)) = some (m * 10 + (y - 48))) := by show _ = _; rw [HY1.out, if_pos (by omega), if_neg hov]
                        have c5 : 10 * m + (y - 48) ≤ 9223372036854775808 := by omega
                        clear hov HY1 HY2
                        go_wp2
                        go_roundw
                        case rel => exact ⟨p + 1, m * 10 + (y - 48), by omega, by omega, by omega, by go_num, by congr 1; omega, trivial, HM2⟩
                        case measure => simp [intOf]; omega
                · have hplz : ¬ (p : Int) < (q : Int) + 1 := by omega
                  obtain rfl : p = q + 1 := by omega
                  have HF : Hid _ := HD.out _ HA.out
                  simp only at HF
                  by_cases hmm : m < 9223372036854775808
                  · rw [if_pos hmm] at HF
                    obtain ⟨rfl, rfl⟩ := Prod.mk.inj HF.out
                    have m1 : (m : Int) % 9223372036854775808 = (m : Int) := by omega
                    have m2 : (m : Int) < 9223372036854775808 := by omega
                    go_wp2
                    exact bodyPost_ret (v := .agg #[.bool true, .int .i64 (m : Int)]) (by simp [results, Tryz.results41, go_sem]) rfl ⟨rfl, below1 _ _⟩
                  · rw [if_neg hmm] at HF
                    obtain ⟨rfl, rfl⟩ := Prod.mk.inj HF.out
                    obtain rfl : m = 9223372036854775808 := by omega
                    go_wp2
                    exact bodyPost_ret (v := .agg #[.bool false, .int .i64 0]) (by simp [results, Tryz.results41, go_sem]) rfl ⟨rfl, below1 _ _⟩
    · have hltz : ¬ (i : Int) < (s.size : Int) := by omega
      obtain rfl : i = s.size := by omega
      have HTR : Hid (rd2 [] = (zn, zb)) := by show _ = _; rw [← trim_all HB.out]; exact HZ.out
      obtain ⟨rfl, rfl⟩ : zn = 0 ∧ zb = false := ⟨(Prod.mk.inj HTR.out).1.symm, (Prod.mk.inj HTR.out).2.symm⟩
      clear HZ HTR
      go_wp2
      go_loopw [4] (fun u wr => u = .int .i64 (s.size : Int) ∧ wr = (w.alloc (.cells #[.bool false, .int .i64 0] 37))) (fun _ _ => 0)
      case atStart => exact ⟨rfl, rfl⟩
      case round =>
        obtain ⟨rfl, rfl⟩ := hrel
        go_wp2
        exact bodyPost_ret (v := .agg #[.bool false, .int .i64 0]) (by simp [results, Tryz.results41, go_sem]) rfl ⟨rfl, below1 _ _⟩

end Go.Proofs.YtoabgmpcdnikeaaGreatDoor
