/- What a digit counts, and a reference's number, the program's. -/
import Derived.Test.YtfccijpmgjcmiabRefs
import Derived.Test.YtfccijpmgjcmiabShelf
import Derived.Test.YtfccijpmgjcmiabWords
namespace Go.Proofs.Ytfccijpmgjcmiab
open Go.RowKit
set_option linter.unusedVariables false

set_option maxRecDepth 100000 in
set_option maxHeartbeats 1000000 in
theorem digit_any (w : World) (b : Nat) (hb : b < 256) : Calls Try.prog 31 #[.int .u8 (b : Int)] w fun e w' => e = .returned (.int .i64 (dig b : Int)) ∧ w' = w := by
  have HD : Hid _ := dig_is b
  generalize dig b = d at *
  go_enter Try.func31, Try.ntmps31
  go_wp2
  all_goals go_ret
  all_goals refine ⟨congrArg _ (v_int ?_), rfl⟩
  all_goals have := HD.out
  all_goals omega

/-- The bound of a number that is read so far. -/
theorem pow_bound {base i : Nat} (hb : base = 10 ∧ i ≤ 7 ∨ base = 16 ∧ i ≤ 6) : base ^ i ≤ 16777216 := by
  rcases hb with ⟨rfl, hi⟩ | ⟨rfl, hi⟩
  · exact Nat.le_trans (Nat.pow_le_pow_right (by omega) hi) (by decide)
  · exact Nat.le_trans (Nat.pow_le_pow_right (by omega) hi) (by decide)

set_option maxRecDepth 100000 in
set_option maxHeartbeats 2000000 in
theorem numbered_walk (w : World) (s : ByteArray) (off base most : Nat) (hb : base = 10 ∧ most = 7 ∧ off = 2 ∨ base = 16 ∧ most = 6 ∧ off = 3) (ho : off ≤ s.size) (hsz : s.size < 1152921504606846976) (x y z : Int) (hxyz : num base most off 0 0 (s.data.toList.drop off) = (x, y, z)) :
    Calls Try.prog 28 #[.string s, .int .i64 (off : Int), .int .i64 (base : Int), .int .i64 (most : Int)] w fun e w' => e = .returned (.tuple #[.int .i64 x, .int .i64 y, .int .i64 z]) ∧ w' = w := by
  have HX : Hid (num base most off 0 0 (s.data.toList.drop off) = (x, y, z)) := hxyz
  have HB : Hid (base = 10 ∧ most = 7 ∧ off = 2 ∨ base = 16 ∧ most = 6 ∧ off = 3) := hb
  have hb1 : 10 ≤ base := by omega
  have hb2 : base ≤ 16 := by omega
  have hm2 : most ≤ 7 := by omega
  clear hxyz hb
  go_enter Try.func28, Try.ntmps28
  go_wp2
  go_loop [11, 19] (fun v11 v19 => ∃ i r : Nat, v11 = .int .i64 (r : Int) ∧ v19 = .int .i64 (i : Int) ∧ i ≤ most ∧ off + i ≤ s.size ∧ Hid (num base most off i r (s.data.toList.drop (off + i)) = (x, y, z)) ∧ Hid (r < base ^ i)) (fun _ v => s.size - (intOf v).toNat)
  case atStart => exact ⟨0, 0, rfl, rfl, by omega, by omega, HX, by show 0 < base ^ 0; simp⟩
  case round =>
    obtain ⟨i, r, rfl, rfl, him, hoi, hnum, hrb⟩ := hrel
    by_cases hlt : off + i < s.size
    · have hd := drop_get hlt
      have hn := hnum.out
      rw [hd, num] at hn
      have hdg := digit_any w (s[off + i]'hlt).toNat (UInt8.toNat_lt _)
      have hpw := pow_bound (base := base) (i := i) (by have := HB.out; omega)
      have hr24 : r < 16777216 := by have := hrb.out; omega
      have hlt1 : (i : Int) < (s.size : Int) - (off : Int) := by omega
      generalize hx : (s[off + i]'hlt).toNat = b at *
      have hx' : ∀ h, (s[off + i]'h).toNat = b := fun _ => hx
      have hxi : ∀ h, (s[((off : Int) + (i : Int)).toNat]'h).toNat = b := fun _ => hx
      by_cases h59 : b = 59 ∧ 0 < i
      · rw [if_pos h59] at hn
        simp only [Prod.mk.injEq] at hn
        obtain ⟨e1, e2, e3⟩ := hn
        have hb59 : ((b : Int) == 59) = true := beq_iff_eq.2 (by omega)
        have hi0 : 0 < i := h59.2
        clear hd HX hnum hrb hpw
        go_wp2
        go_ret3
        exact ⟨congrArg _ (v_three (by omega) (by omega) (by omega)), rfl⟩
      · rw [if_neg h59] at hn
        have hdl : dig b ≤ 16 := by have := dig_is b; omega
        generalize hdd : dig b = d at *
        by_cases hbad : base ≤ d ∨ i = most
        · rw [if_pos hbad] at hn
          simp only [Prod.mk.injEq] at hn
          obtain ⟨e1, e2, e3⟩ := hn
          by_cases hb59 : b = 59
          · have hbe : ((b : Int) == 59) = true := beq_iff_eq.2 (by omega)
            have hnp : ¬ 0 < i := by omega
            by_cases hdb : base ≤ d
            · clear hd HX hnum hrb hpw hbad h59 hb59 hdd
              go_wp2_with fail
              refine hdg.mono ?_
              rintro e w' ⟨rfl, rfl⟩
              go_wp2
              go_ret3
              exact ⟨congrArg _ (v_three (by omega) (by omega) (by omega)), rfl⟩
            · have := HB.out
              omega
          · have hbe : ((b : Int) == 59) = false := beq_eq_false_iff_ne.2 (by omega)
            by_cases hdb : base ≤ d
            · clear hd HX hnum hrb hpw hbad h59 hdd
              go_wp2_with fail
              refine hdg.mono ?_
              rintro e w' ⟨rfl, rfl⟩
              go_wp2
              go_ret3
              exact ⟨congrArg _ (v_three (by omega) (by omega) (by omega)), rfl⟩
            · have him2 : ((i : Int) == (most : Int)) = true := beq_iff_eq.2 (by omega)
              have hdb2 : d < base := by omega
              clear hd HX hnum hrb hpw hbad h59 hdd
              go_wp2_with fail
              refine hdg.mono ?_
              rintro e w' ⟨rfl, rfl⟩
              go_wp2
              go_ret3
              exact ⟨congrArg _ (v_three (by omega) (by omega) (by omega)), rfl⟩
        · rw [if_neg hbad] at hn
          have hdb2 : d < base := by omega
          have hilt : i + 1 ≤ most := by omega
          have him2 : ((i : Int) == (most : Int)) = false := beq_eq_false_iff_ne.2 (by omega)
          have hbe : ((b : Int) == 59) = false := by
            apply beq_eq_false_iff_ne.2
            intro hh
            have h1 := dig_is b
            have h2 := HB.out
            omega
          have HN : Hid (num base most off (i + 1) (r * base + d) (s.data.toList.drop (off + (i + 1))) = (x, y, z)) := hn
          have HR : Hid (r * base + d < base ^ (i + 1)) := by
            show _ < _
            have h1 := hrb.out
            rw [Nat.pow_succ]
            have h2 : (r + 1) * base ≤ base ^ i * base := Nat.mul_le_mul_right _ h1
            rw [Nat.add_mul, Nat.one_mul] at h2
            omega
          have hmb : r * base ≤ 268435456 := by
            have := Nat.mul_le_mul (Nat.le_of_lt hr24) hb2
            omega
          have hmi : (r : Int) * (base : Int) = ((r * base : Nat) : Int) := by simp
          generalize r * base = rb at *
          clear hd HX hnum hrb hpw hbad h59 hn hdd
          go_wp2_with fail
          refine hdg.mono ?_
          rintro e w' ⟨rfl, rfl⟩
          go_wp2
          go_round
          case rel => exact ⟨i + 1, rb + d, by go_num, by go_num, by omega, by omega, HN, HR⟩
          case measure => simp [intOf]; omega
    · have hn := hnum.out
      rw [List.drop_of_length_le (by rw [size_list]; omega), num] at hn
      simp only [Prod.mk.injEq] at hn
      obtain ⟨e1, e2, e3⟩ := hn
      have hge : (s.size : Int) - (off : Int) ≤ (i : Int) := by omega
      clear HX hnum hrb
      go_wp2
      go_ret3
      exact ⟨congrArg _ (v_three (by omega) (by omega) (by omega)), rfl⟩

end Go.Proofs.Ytfccijpmgjcmiab
