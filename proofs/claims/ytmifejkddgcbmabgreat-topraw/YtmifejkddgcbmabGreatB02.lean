/- The document's reference by number. -/
import Derived.Test.YtmifejkddgcbmabGreatA05
namespace Go.Proofs.YtmifejkddgcbmabGreat
open Go.RowKit
set_option linter.unusedVariables false
set_option linter.unusedSimpArgs false

set_option maxRecDepth 100000 in
set_option maxHeartbeats 4000000 in
theorem rnumber_decShort (w : World) (s : ByteArray) (h2 : s.size = 2) (hsz : s.size < 1152921504606846976) (N : Int × Int × Int) (hN : num 10 7 2 0 0 (s.data.toList.drop 2) = N) (x y z : Int) (hxyz : chkC N = (x, y, z)) :
    Calls Tryz.prog 142 #[.string s] w fun e w' => e = .returned (.tuple #[.int .i64 x, .int .i64 y, .int .i64 z]) ∧ w' = w := by
  have HX : Hid (num 10 7 2 0 0 (s.data.toList.drop 2) = N) := hN
  have h2b : s.size ≤ 2 := by omega
  have h2a : 2 ≤ s.size := by omega
  clear h2
  have HC : Hid (chkC N = (x, y, z)) := hxyz
  clear hN hxyz
  go_enter Tryz.func142, Tryz.ntmps142
  go_wp2
  go_loop [5, 9] (fun v5 v9 => ∃ i r : Nat, v5 = .int .i64 ((2 : Int) + (i : Int)) ∧ v9 = .int .i64 (r : Int) ∧ i ≤ 7 ∧ 2 + i ≤ s.size ∧ Hid (num 10 7 2 i r (s.data.toList.drop (2 + i)) = N) ∧ Hid (r < 10 ^ i)) (fun v _ => s.size + 4 - (intOf v).toNat)
  case atStart => exact ⟨0, 0, rfl, rfl, by omega, by omega, HX, by show 0 < 10 ^ 0; simp⟩
  case round =>
    have hxyz := HC.out
    clear HC
    obtain ⟨i, r, rfl, rfl, him, hoi, hnum, hrb⟩ := hrel
    by_cases hlt : 2 + i < s.size
    · omega
    · have hn := hnum.out
      rw [List.drop_of_length_le (by rw [size_list]; omega), num] at hn
      rw [← hn, chkC, if_neg (by simp)] at hxyz
      simp only [Prod.mk.injEq] at hxyz
      obtain ⟨e1, e2, e3⟩ := hxyz
      have e1' := e1.symm
      have e2' := e2.symm
      have e3' := e3.symm
      have hge : (s.size : Int) ≤ (2 : Int) + (i : Int) := by omega
      have hatne : ((((2 : Int) + (i : Int))) == (s.size : Int)) = true := beq_iff_eq.2 (by omega)
      clear HX hnum hrb hn e1 e2 e3
      go_wp2
      go_ret3
      first | exact ⟨congrArg _ (v_three e1'.symm e2'.symm e3'.symm), rfl⟩ | exact ⟨rfl, rfl⟩

set_option maxRecDepth 100000 in
set_option maxHeartbeats 4000000 in
theorem rnumber_decLong (w : World) (s : ByteArray) (h2 : 2 < s.size) (hx2 : (s[2]'h2).toNat ≠ 120) (hsz : s.size < 1152921504606846976) (N : Int × Int × Int) (hN : num 10 7 2 0 0 (s.data.toList.drop 2) = N) (x y z : Int) (hxyz : chkC N = (x, y, z)) :
    Calls Tryz.prog 142 #[.string s] w fun e w' => e = .returned (.tuple #[.int .i64 x, .int .i64 y, .int .i64 z]) ∧ w' = w := by
  have HX : Hid (num 10 7 2 0 0 (s.data.toList.drop 2) = N) := hN
  have hx3 : (((s[2]'h2).toNat : Int) == 120) = false := beq_eq_false_iff_ne.2 (by omega)
  clear hx2
  have HC : Hid (chkC N = (x, y, z)) := hxyz
  clear hN hxyz
  go_enter Tryz.func142, Tryz.ntmps142
  go_wp2
  go_loop [5, 9] (fun v5 v9 => ∃ i r : Nat, v5 = .int .i64 ((2 : Int) + (i : Int)) ∧ v9 = .int .i64 (r : Int) ∧ i ≤ 7 ∧ 2 + i ≤ s.size ∧ Hid (num 10 7 2 i r (s.data.toList.drop (2 + i)) = N) ∧ Hid (r < 10 ^ i)) (fun v _ => s.size + 4 - (intOf v).toNat)
  case atStart => exact ⟨0, 0, rfl, rfl, by omega, by omega, HX, by show 0 < 10 ^ 0; simp⟩
  case round =>
    have hxyz := HC.out
    clear HC
    obtain ⟨i, r, rfl, rfl, him, hoi, hnum, hrb⟩ := hrel
    by_cases hlt : 2 + i < s.size
    · have hd := drop_get hlt
      have hn := hnum.out
      rw [hd, num] at hn
      have hpw := pow_bound (base := 10) (i := i) (by omega)
      have hr24 : r < 16777216 := by have := hrb.out; omega
      have hb256 : (s[2 + i]'hlt).toNat < 256 := UInt8.toNat_lt _
      generalize hx : (s[2 + i]'hlt).toNat = b at *
      have hdis := dig_is b
      have hch := rchar_any w (r : Int)
      by_cases hgo : i < 7 ∧ dig b < 10
      · obtain ⟨hg1, hg2⟩ := hgo
        have hrd := rdigit_any w b hb256 10 (dig b) (by omega) (by omega)
        have h59 : ¬ (b = 59 ∧ 0 < i) := by omega
        rw [if_neg h59, if_neg (by omega)] at hn
        have HN : Hid (num 10 7 2 (i + 1) (r * 10 + dig b) (s.data.toList.drop (2 + (i + 1))) = N) := hn
        have HR : Hid (r * 10 + dig b < 10 ^ (i + 1)) := by
          show _ < _
          have h1 := hrb.out
          rw [Nat.pow_succ]
          omega
        generalize dig b = d at *
        clear hd HX hnum hrb hpw h59 hn hdis hch
        go_wp2_with fail
        refine hrd.mono ?_
        rintro e w1 ⟨rfl, rfl⟩
        go_wp2_with fail
        refine hrd.mono ?_
        rintro e w2 ⟨rfl, rfl⟩
        go_wp2
        go_round
        case rel => exact ⟨i + 1, r * 10 + d, by go_num, by go_num, by omega, by omega, HN, HR⟩
        case measure => simp [intOf]; omega
      · have hatne : ((((2 : Int) + (i : Int))) == (s.size : Int)) = false := beq_eq_false_iff_ne.2 (by omega)
        have hatf : ((((2 : Int) + (i : Int))) == (2 : Int)) = decide (i = 0) := by rw [Bool.eq_iff_iff, beq_iff_eq, decide_eq_true_eq]; omega
        have hrd : i < 7 → Calls Tryz.prog 152 #[.int .u8 (b : Int), .int .i64 10] w fun e w' => e = .returned (.int .i64 (-1)) ∧ w' = w := fun h => rdigit_any w b hb256 10 (-1) (by omega) (by omega)
        by_cases h59 : b = 59 ∧ 0 < i
        · rw [if_pos h59] at hn
          have hb59 : ((b : Int) != 59) = false := by rw [h59.1]; rfl
          have hi0 : ¬ i = 0 := by omega
          rw [← hn, chkC] at hxyz
          cases hcb : charB (r : Int)
          · rw [if_pos ⟨rfl, hcb⟩] at hxyz
            simp only [Prod.mk.injEq] at hxyz
            obtain ⟨e1, e2, e3⟩ := hxyz
            have e1' := e1.symm
            have e2' := e2.symm
            have e3' := e3.symm
            rw [hcb] at hch
            by_cases hm : i < 7
            · have hrd2 := hrd hm
              clear hd HX hnum hrb hpw hn hdis hrd h59 hgo hcb e1 e2 e3
              go_wp2_with fail
              refine hrd2.mono ?_
              rintro e w1 ⟨rfl, rfl⟩
              go_wp2_with fail
              refine hch.mono ?_
              rintro e w2 ⟨rfl, rfl⟩
              go_wp2
              go_ret3
              first | exact ⟨congrArg _ (v_three e1'.symm e2'.symm e3'.symm), rfl⟩ | exact ⟨rfl, rfl⟩
            · have hm2 : 7 ≤ i := by omega
              clear hd HX hnum hrb hpw hn hdis hrd h59 hgo hcb hm e1 e2 e3
              go_wp2_with fail
              refine hch.mono ?_
              rintro e w2 ⟨rfl, rfl⟩
              go_wp2
              go_ret3
              first | exact ⟨congrArg _ (v_three e1'.symm e2'.symm e3'.symm), rfl⟩ | exact ⟨rfl, rfl⟩
          · rw [if_neg (by simp [hcb])] at hxyz
            simp only [Prod.mk.injEq] at hxyz
            obtain ⟨e1, e2, e3⟩ := hxyz
            have e1' := e1.symm
            have e2' : y = (2 : Int) + (i : Int) + 1 := by rw [← e2]; simp
            have e3' := e3.symm
            rw [hcb] at hch
            by_cases hm : i < 7
            · have hrd2 := hrd hm
              clear hd HX hnum hrb hpw hn hdis hrd h59 hgo hcb e1 e2 e3
              go_wp2_with fail
              refine hrd2.mono ?_
              rintro e w1 ⟨rfl, rfl⟩
              go_wp2_with fail
              refine hch.mono ?_
              rintro e w2 ⟨rfl, rfl⟩
              go_wp2
              go_ret3
              first | exact ⟨congrArg _ (v_three e1'.symm e2'.symm e3'.symm), rfl⟩ | exact ⟨rfl, rfl⟩
            · have hm2 : 7 ≤ i := by omega
              clear hd HX hnum hrb hpw hn hdis hrd h59 hgo hcb hm e1 e2 e3
              go_wp2_with fail
              refine hch.mono ?_
              rintro e w2 ⟨rfl, rfl⟩
              go_wp2
              go_ret3
              first | exact ⟨congrArg _ (v_three e1'.symm e2'.symm e3'.symm), rfl⟩ | exact ⟨rfl, rfl⟩
        · rw [if_neg h59, if_pos (by omega)] at hn
          rw [← hn, chkC, if_neg (by simp)] at hxyz
          simp only [Prod.mk.injEq] at hxyz
          obtain ⟨e1, e2, e3⟩ := hxyz
          have e1' := e1.symm
          have e2' := e2.symm
          have e3' := e3.symm
          have hbb : ((b : Int) != 59) = decide (b ≠ 59) := by rw [Bool.eq_iff_iff]; simp; omega
          by_cases hi0 : i = 0
          · by_cases hm : i < 7
            · have hrd2 := hrd hm
              have hd0 : decide (i = 0) = true := by simpa using hi0
              rw [hd0] at hatf
              clear hd HX hnum hrb hpw hn hdis hrd h59 hgo hch e1 e2 e3 hi0 hd0 hbb
              go_wp2_with fail
              refine hrd2.mono ?_
              rintro e w1 ⟨rfl, rfl⟩
              go_wp2
              go_ret3
              first | exact ⟨congrArg _ (v_three e1'.symm e2'.symm e3'.symm), rfl⟩ | exact ⟨rfl, rfl⟩
            · omega
          · have hb59 : ((b : Int) != 59) = true := bne_iff_ne.2 (by omega)
            have hd0 : decide (i = 0) = false := by simpa using hi0
            rw [hd0] at hatf
            by_cases hm : i < 7
            · have hrd2 := hrd hm
              clear hd HX hnum hrb hpw hn hdis hrd h59 hgo hch e1 e2 e3 hi0 hd0 hbb
              go_wp2_with fail
              refine hrd2.mono ?_
              rintro e w1 ⟨rfl, rfl⟩
              go_wp2
              go_ret3
              first | exact ⟨congrArg _ (v_three e1'.symm e2'.symm e3'.symm), rfl⟩ | exact ⟨rfl, rfl⟩
            · have hm2 : 7 ≤ i := by omega
              clear hd HX hnum hrb hpw hn hdis hrd h59 hgo hch e1 e2 e3 hi0 hd0 hbb hm
              go_wp2
              go_ret3
              first | exact ⟨congrArg _ (v_three e1'.symm e2'.symm e3'.symm), rfl⟩ | exact ⟨rfl, rfl⟩
    · have hn := hnum.out
      rw [List.drop_of_length_le (by rw [size_list]; omega), num] at hn
      rw [← hn, chkC, if_neg (by simp)] at hxyz
      simp only [Prod.mk.injEq] at hxyz
      obtain ⟨e1, e2, e3⟩ := hxyz
      have e1' := e1.symm
      have e2' := e2.symm
      have e3' := e3.symm
      have hge : (s.size : Int) ≤ (2 : Int) + (i : Int) := by omega
      have hatne : ((((2 : Int) + (i : Int))) == (s.size : Int)) = true := beq_iff_eq.2 (by omega)
      clear HX hnum hrb hn e1 e2 e3
      go_wp2
      go_ret3
      first | exact ⟨congrArg _ (v_three e1'.symm e2'.symm e3'.symm), rfl⟩ | exact ⟨rfl, rfl⟩

set_option maxRecDepth 100000 in
set_option maxHeartbeats 4000000 in
theorem rnumber_hex (w : World) (s : ByteArray) (h2 : 2 < s.size) (hx2 : (s[2]'h2).toNat = 120) (hsz : s.size < 1152921504606846976) (N : Int × Int × Int) (hN : num 16 6 3 0 0 (s.data.toList.drop 3) = N) (x y z : Int) (hxyz : chkC N = (x, y, z)) :
    Calls Tryz.prog 142 #[.string s] w fun e w' => e = .returned (.tuple #[.int .i64 x, .int .i64 y, .int .i64 z]) ∧ w' = w := by
  have HX : Hid (num 16 6 3 0 0 (s.data.toList.drop 3) = N) := hN
  have hx3 : (((s[2]'h2).toNat : Int) == 120) = true := by rw [hx2]; rfl
  clear hx2
  have HC : Hid (chkC N = (x, y, z)) := hxyz
  clear hN hxyz
  go_enter Tryz.func142, Tryz.ntmps142
  go_wp2
  go_loop [5, 9] (fun v5 v9 => ∃ i r : Nat, v5 = .int .i64 ((3 : Int) + (i : Int)) ∧ v9 = .int .i64 (r : Int) ∧ i ≤ 6 ∧ 3 + i ≤ s.size ∧ Hid (num 16 6 3 i r (s.data.toList.drop (3 + i)) = N) ∧ Hid (r < 16 ^ i)) (fun v _ => s.size + 4 - (intOf v).toNat)
  case atStart => exact ⟨0, 0, rfl, rfl, by omega, by omega, HX, by show 0 < 16 ^ 0; simp⟩
  case round =>
    have hxyz := HC.out
    clear HC
    obtain ⟨i, r, rfl, rfl, him, hoi, hnum, hrb⟩ := hrel
    by_cases hlt : 3 + i < s.size
    · have hd := drop_get hlt
      have hn := hnum.out
      rw [hd, num] at hn
      have hpw := pow_bound (base := 16) (i := i) (by omega)
      have hr24 : r < 16777216 := by have := hrb.out; omega
      have hb256 : (s[3 + i]'hlt).toNat < 256 := UInt8.toNat_lt _
      generalize hx : (s[3 + i]'hlt).toNat = b at *
      have hdis := dig_is b
      have hch := rchar_any w (r : Int)
      by_cases hgo : i < 6 ∧ dig b < 16
      · obtain ⟨hg1, hg2⟩ := hgo
        have hrd := rdigit_any w b hb256 16 (dig b) (by omega) (by omega)
        have h59 : ¬ (b = 59 ∧ 0 < i) := by omega
        rw [if_neg h59, if_neg (by omega)] at hn
        have HN : Hid (num 16 6 3 (i + 1) (r * 16 + dig b) (s.data.toList.drop (3 + (i + 1))) = N) := hn
        have HR : Hid (r * 16 + dig b < 16 ^ (i + 1)) := by
          show _ < _
          have h1 := hrb.out
          rw [Nat.pow_succ]
          omega
        generalize dig b = d at *
        clear hd HX hnum hrb hpw h59 hn hdis hch
        go_wp2_with fail
        refine hrd.mono ?_
        rintro e w1 ⟨rfl, rfl⟩
        go_wp2_with fail
        refine hrd.mono ?_
        rintro e w2 ⟨rfl, rfl⟩
        go_wp2
        go_round
        case rel => exact ⟨i + 1, r * 16 + d, by go_num, by go_num, by omega, by omega, HN, HR⟩
        case measure => simp [intOf]; omega
      · have hatne : ((((3 : Int) + (i : Int))) == (s.size : Int)) = false := beq_eq_false_iff_ne.2 (by omega)
        have hatf : ((((3 : Int) + (i : Int))) == (3 : Int)) = decide (i = 0) := by rw [Bool.eq_iff_iff, beq_iff_eq, decide_eq_true_eq]; omega
        have hrd : i < 6 → Calls Tryz.prog 152 #[.int .u8 (b : Int), .int .i64 16] w fun e w' => e = .returned (.int .i64 (-1)) ∧ w' = w := fun h => rdigit_any w b hb256 16 (-1) (by omega) (by omega)
        by_cases h59 : b = 59 ∧ 0 < i
        · rw [if_pos h59] at hn
          have hb59 : ((b : Int) != 59) = false := by rw [h59.1]; rfl
          have hi0 : ¬ i = 0 := by omega
          rw [← hn, chkC] at hxyz
          cases hcb : charB (r : Int)
          · rw [if_pos ⟨rfl, hcb⟩] at hxyz
            simp only [Prod.mk.injEq] at hxyz
            obtain ⟨e1, e2, e3⟩ := hxyz
            have e1' := e1.symm
            have e2' := e2.symm
            have e3' := e3.symm
            rw [hcb] at hch
            by_cases hm : i < 6
            · have hrd2 := hrd hm
              clear hd HX hnum hrb hpw hn hdis hrd h59 hgo hcb e1 e2 e3
              go_wp2_with fail
              refine hrd2.mono ?_
              rintro e w1 ⟨rfl, rfl⟩
              go_wp2_with fail
              refine hch.mono ?_
              rintro e w2 ⟨rfl, rfl⟩
              go_wp2
              go_ret3
              first | exact ⟨congrArg _ (v_three e1'.symm e2'.symm e3'.symm), rfl⟩ | exact ⟨rfl, rfl⟩
            · have hm2 : 6 ≤ i := by omega
              clear hd HX hnum hrb hpw hn hdis hrd h59 hgo hcb hm e1 e2 e3
              go_wp2_with fail
              refine hch.mono ?_
              rintro e w2 ⟨rfl, rfl⟩
              go_wp2
              go_ret3
              first | exact ⟨congrArg _ (v_three e1'.symm e2'.symm e3'.symm), rfl⟩ | exact ⟨rfl, rfl⟩
          · rw [if_neg (by simp [hcb])] at hxyz
            simp only [Prod.mk.injEq] at hxyz
            obtain ⟨e1, e2, e3⟩ := hxyz
            have e1' := e1.symm
            have e2' : y = (3 : Int) + (i : Int) + 1 := by rw [← e2]; simp
            have e3' := e3.symm
            rw [hcb] at hch
            by_cases hm : i < 6
            · have hrd2 := hrd hm
              clear hd HX hnum hrb hpw hn hdis hrd h59 hgo hcb e1 e2 e3
              go_wp2_with fail
              refine hrd2.mono ?_
              rintro e w1 ⟨rfl, rfl⟩
              go_wp2_with fail
              refine hch.mono ?_
              rintro e w2 ⟨rfl, rfl⟩
              go_wp2
              go_ret3
              first | exact ⟨congrArg _ (v_three e1'.symm e2'.symm e3'.symm), rfl⟩ | exact ⟨rfl, rfl⟩
            · have hm2 : 6 ≤ i := by omega
              clear hd HX hnum hrb hpw hn hdis hrd h59 hgo hcb hm e1 e2 e3
              go_wp2_with fail
              refine hch.mono ?_
              rintro e w2 ⟨rfl, rfl⟩
              go_wp2
              go_ret3
              first | exact ⟨congrArg _ (v_three e1'.symm e2'.symm e3'.symm), rfl⟩ | exact ⟨rfl, rfl⟩
        · rw [if_neg h59, if_pos (by omega)] at hn
          rw [← hn, chkC, if_neg (by simp)] at hxyz
          simp only [Prod.mk.injEq] at hxyz
          obtain ⟨e1, e2, e3⟩ := hxyz
          have e1' := e1.symm
          have e2' := e2.symm
          have e3' := e3.symm
          have hbb : ((b : Int) != 59) = decide (b ≠ 59) := by rw [Bool.eq_iff_iff]; simp; omega
          by_cases hi0 : i = 0
          · by_cases hm : i < 6
            · have hrd2 := hrd hm
              have hd0 : decide (i = 0) = true := by simpa using hi0
              rw [hd0] at hatf
              clear hd HX hnum hrb hpw hn hdis hrd h59 hgo hch e1 e2 e3 hi0 hd0 hbb
              go_wp2_with fail
              refine hrd2.mono ?_
              rintro e w1 ⟨rfl, rfl⟩
              go_wp2
              go_ret3
              first | exact ⟨congrArg _ (v_three e1'.symm e2'.symm e3'.symm), rfl⟩ | exact ⟨rfl, rfl⟩
            · omega
          · have hb59 : ((b : Int) != 59) = true := bne_iff_ne.2 (by omega)
            have hd0 : decide (i = 0) = false := by simpa using hi0
            rw [hd0] at hatf
            by_cases hm : i < 6
            · have hrd2 := hrd hm
              clear hd HX hnum hrb hpw hn hdis hrd h59 hgo hch e1 e2 e3 hi0 hd0 hbb
              go_wp2_with fail
              refine hrd2.mono ?_
              rintro e w1 ⟨rfl, rfl⟩
              go_wp2
              go_ret3
              first | exact ⟨congrArg _ (v_three e1'.symm e2'.symm e3'.symm), rfl⟩ | exact ⟨rfl, rfl⟩
            · have hm2 : 6 ≤ i := by omega
              clear hd HX hnum hrb hpw hn hdis hrd h59 hgo hch e1 e2 e3 hi0 hd0 hbb hm
              go_wp2
              go_ret3
              first | exact ⟨congrArg _ (v_three e1'.symm e2'.symm e3'.symm), rfl⟩ | exact ⟨rfl, rfl⟩
    · have hn := hnum.out
      rw [List.drop_of_length_le (by rw [size_list]; omega), num] at hn
      rw [← hn, chkC, if_neg (by simp)] at hxyz
      simp only [Prod.mk.injEq] at hxyz
      obtain ⟨e1, e2, e3⟩ := hxyz
      have e1' := e1.symm
      have e2' := e2.symm
      have e3' := e3.symm
      have hge : (s.size : Int) ≤ (3 : Int) + (i : Int) := by omega
      have hatne : ((((3 : Int) + (i : Int))) == (s.size : Int)) = true := beq_iff_eq.2 (by omega)
      clear HX hnum hrb hn e1 e2 e3
      go_wp2
      go_ret3
      first | exact ⟨congrArg _ (v_three e1'.symm e2'.symm e3'.symm), rfl⟩ | exact ⟨rfl, rfl⟩

end Go.Proofs.YtmifejkddgcbmabGreat
