/- What a digit counts, and a reference's number, the program's. -/
import Derived.Test.YtmifejkddgcbmaaGreatA05
import Derived.Test.YtmifejkddgcbmaaGreatA07
import Derived.Test.YtmifejkddgcbmaaGreatA04
namespace Go.Proofs.YtmifejkddgcbmaaGreat
open Go.RowKit
set_option linter.unusedVariables false
set_option linter.unusedSimpArgs false

set_option maxRecDepth 100000 in
set_option maxHeartbeats 1000000 in
theorem digit_any (w : World) (b : Nat) (hb : b < 256) : Calls Tryz.prog 163 #[.int .u8 (b : Int)] w fun e w' => e = .returned (.int .i64 (dig b : Int)) ∧ w' = w := by
  have HD : Hid _ := dig_is b
  generalize dig b = d at *
  go_enter Tryz.func163, Tryz.ntmps163
  go_wp2
  all_goals go_ret
  all_goals refine ⟨congrArg _ (v_int ?_), rfl⟩
  all_goals have := HD.out
  all_goals omega

set_option maxRecDepth 100000 in
set_option maxHeartbeats 1000000 in
theorem rdigit_any (w : World) (b : Nat) (hb : b < 256) (base x : Int) (hbs : base = 10 ∨ base = 16) (hx : ((dig b : Int) < base ∧ x = dig b) ∨ (base ≤ (dig b : Int) ∧ x = -1)) : Calls Tryz.prog 147 #[.int .u8 (b : Int), .int .i64 base] w fun e w' => e = .returned (.int .i64 x) ∧ w' = w := by
  have HD : Hid _ := dig_is b
  generalize dig b = d at *
  have HX : Hid _ := hx
  clear hx
  rcases hbs with rfl | rfl
  all_goals go_enter Tryz.func147, Tryz.ntmps147
  all_goals go_wp2
  all_goals go_ret
  all_goals refine ⟨congrArg _ (v_int ?_), rfl⟩
  all_goals have := HD.out
  all_goals have := HX.out
  all_goals omega

/-- The bound of a number that is read so far. -/
theorem pow_bound {base i : Nat} (hb : base = 10 ∧ i ≤ 7 ∨ base = 16 ∧ i ≤ 6) : base ^ i ≤ 16777216 := by
  rcases hb with ⟨rfl, hi⟩ | ⟨rfl, hi⟩
  · exact Nat.le_trans (Nat.pow_le_pow_right (by omega) hi) (by decide)
  · exact Nat.le_trans (Nat.pow_le_pow_right (by omega) hi) (by decide)

set_option maxRecDepth 100000 in
set_option maxHeartbeats 2000000 in
theorem numbered_walk (w : World) (s : ByteArray) (off base most : Nat) (hb : base = 10 ∧ most = 7 ∧ off = 2 ∨ base = 16 ∧ most = 6 ∧ off = 3) (ho : off ≤ s.size) (hsz : s.size < 1152921504606846976) (x y z : Int) (hxyz : num base most off 0 0 (s.data.toList.drop off) = (x, y, z)) :
    Calls Tryz.prog 159 #[.string s, .int .i64 (off : Int), .int .i64 (base : Int), .int .i64 (most : Int)] w fun e w' => e = .returned (.tuple #[.int .i64 x, .int .i64 y, .int .i64 z]) ∧ w' = w := by
  have HX : Hid (num base most off 0 0 (s.data.toList.drop off) = (x, y, z)) := hxyz
  have HB : Hid (base = 10 ∧ most = 7 ∧ off = 2 ∨ base = 16 ∧ most = 6 ∧ off = 3) := hb
  have hb1 : 10 ≤ base := by omega
  have hb2 : base ≤ 16 := by omega
  have hm2 : most ≤ 7 := by omega
  clear hxyz hb
  go_enter Tryz.func159, Tryz.ntmps159
  go_wp2
  go_loop [11, 19] (fun v11 v19 => ∃ i r : Nat, v11 = .int .i64 (r : Int) ∧ v19 = .int .i64 (i : Int) ∧ i ≤ most ∧ off + i ≤ s.size ∧ Hid (num base most off i r (s.data.toList.drop (off + i)) = (x, y, z)) ∧ Hid (r < base ^ i)) (fun _ v => s.size - (intOf v).toNat)
  case atStart => exact ⟨0, 0, rfl, rfl, by omega, by omega, HX, by show 0 < base ^ 0; simp⟩
  case round =>
    obtain ⟨i, r, rfl, rfl, him, hoi, hnum, hrb⟩ := hrel
    by_cases hlt : off + i < s.size
    · have hd := drop_get hlt
      have hn := hnum.out
      rw [hd, num] at hn
      have hdg := digit_any w (s[off + i]'hlt).toNat (UInt8.toNat_lt _)
      have hpw := pow_bound (base := base) (i := i) (by have := HB.out; omega)
      have hr24 : r < 16777216 := by have := hrb.out; omega
      have hlt1 : (i : Int) < (s.size : Int) - (off : Int) := by omega
      generalize hx : (s[off + i]'hlt).toNat = b at *
      have hx' : ∀ h, (s[off + i]'h).toNat = b := fun _ => hx
      have hxi : ∀ h, (s[((off : Int) + (i : Int)).toNat]'h).toNat = b := fun _ => hx
      by_cases h59 : b = 59 ∧ 0 < i
      · rw [if_pos h59] at hn
        simp only [Prod.mk.injEq] at hn
        obtain ⟨e1, e2, e3⟩ := hn
        have hb59 : ((b : Int) == 59) = true := beq_iff_eq.2 (by omega)
        have hi0 : 0 < i := h59.2
        clear hd HX hnum hrb hpw
        go_wp2
        go_ret3
        exact ⟨congrArg _ (v_three (by omega) (by omega) (by omega)), rfl⟩
      · rw [if_neg h59] at hn
        have hdl : dig b ≤ 16 := by have := dig_is b; omega
        generalize hdd : dig b = d at *
        by_cases hbad : base ≤ d ∨ i = most
        · rw [if_pos hbad] at hn
          simp only [Prod.mk.injEq] at hn
          obtain ⟨e1, e2, e3⟩ := hn
          by_cases hb59 : b = 59
          · have hbe : ((b : Int) == 59) = true := beq_iff_eq.2 (by omega)
            have hnp : ¬ 0 < i := by omega
            by_cases hdb : base ≤ d
            · clear hd HX hnum hrb hpw hbad h59 hb59 hdd
              go_wp2_with fail
              refine hdg.mono ?_
              rintro e w' ⟨rfl, rfl⟩
              go_wp2
              go_ret3
              exact ⟨congrArg _ (v_three (by omega) (by omega) (by omega)), rfl⟩
            · have := HB.out
              omega
          · have hbe : ((b : Int) == 59) = false := beq_eq_false_iff_ne.2 (by omega)
            by_cases hdb : base ≤ d
            · clear hd HX hnum hrb hpw hbad h59 hdd
              go_wp2_with fail
              refine hdg.mono ?_
              rintro e w' ⟨rfl, rfl⟩
              go_wp2
              go_ret3
              exact ⟨congrArg _ (v_three (by omega) (by omega) (by omega)), rfl⟩
            · have him2 : ((i : Int) == (most : Int)) = true := beq_iff_eq.2 (by omega)
              have hdb2 : d < base := by omega
              clear hd HX hnum hrb hpw hbad h59 hdd
              go_wp2_with fail
              refine hdg.mono ?_
              rintro e w' ⟨rfl, rfl⟩
              go_wp2
              go_ret3
              exact ⟨congrArg _ (v_three (by omega) (by omega) (by omega)), rfl⟩
        · rw [if_neg hbad] at hn
          have hdb2 : d < base := by omega
          have hilt : i + 1 ≤ most := by omega
          have him2 : ((i : Int) == (most : Int)) = false := beq_eq_false_iff_ne.2 (by omega)
          have hbe : ((b : Int) == 59) = false := by
            apply beq_eq_false_iff_ne.2
            intro hh
            have h1 := dig_is b
            have h2 := HB.out
            omega
          have HN : Hid (num base most off (i + 1) (r * base + d) (s.data.toList.drop (off + (i + 1))) = (x, y, z)) := hn
          have HR : Hid (r * base + d < base ^ (i + 1)) := by
            show _ < _
            have h1 := hrb.out
            rw [Nat.pow_succ]
            have h2 : (r + 1) * base ≤ base ^ i * base := Nat.mul_le_mul_right _ h1
            rw [Nat.add_mul, Nat.one_mul] at h2
            omega
          have hmb : r * base ≤ 268435456 := by
            have := Nat.mul_le_mul (Nat.le_of_lt hr24) hb2
            omega
          have hmi : (r : Int) * (base : Int) = ((r * base : Nat) : Int) := by simp
          generalize r * base = rb at *
          clear hd HX hnum hrb hpw hbad h59 hn hdd
          go_wp2_with fail
          refine hdg.mono ?_
          rintro e w' ⟨rfl, rfl⟩
          go_wp2
          go_round
          case rel => exact ⟨i + 1, rb + d, by go_num, by go_num, by omega, by omega, HN, HR⟩
          case measure => simp [intOf]; omega
    · have hn := hnum.out
      rw [List.drop_of_length_le (by rw [size_list]; omega), num] at hn
      simp only [Prod.mk.injEq] at hn
      obtain ⟨e1, e2, e3⟩ := hn
      have hge : (s.size : Int) - (off : Int) ≤ (i : Int) := by omega
      clear HX hnum hrb
      go_wp2
      go_ret3
      exact ⟨congrArg _ (v_three (by omega) (by omega) (by omega)), rfl⟩

end Go.Proofs.YtmifejkddgcbmaaGreat

/- A reference by name, the program's; a reference; what stands at the beginning. -/
namespace Go.Proofs.YtmifejkddgcbmaaGreat
open Go.RowKit
set_option linter.unusedVariables false
set_option linter.unusedSimpArgs false

theorem idx0 (W : World) : (Instr.index 171 (.agg #[.string ⟨#[38, 97, 109, 112, 59]⟩, .int .i64 38, .string ⟨#[38, 108, 116, 59]⟩, .int .i64 60, .string ⟨#[38, 103, 116, 59]⟩, .int .i64 62, .string ⟨#[38, 113, 117, 111, 116, 59]⟩, .int .i64 34, .string ⟨#[38, 97, 112, 111, 115, 59]⟩, .int .i64 39]) (.int .i64 0)).run Tryz.prog W = .ok (.agg #[.string ⟨#[38, 97, 109, 112, 59]⟩, .int .i64 38]) W := by kernel_rfl
theorem idx1 (W : World) : (Instr.index 171 (.agg #[.string ⟨#[38, 97, 109, 112, 59]⟩, .int .i64 38, .string ⟨#[38, 108, 116, 59]⟩, .int .i64 60, .string ⟨#[38, 103, 116, 59]⟩, .int .i64 62, .string ⟨#[38, 113, 117, 111, 116, 59]⟩, .int .i64 34, .string ⟨#[38, 97, 112, 111, 115, 59]⟩, .int .i64 39]) (.int .i64 1)).run Tryz.prog W = .ok (.agg #[.string ⟨#[38, 108, 116, 59]⟩, .int .i64 60]) W := by kernel_rfl
theorem idx2 (W : World) : (Instr.index 171 (.agg #[.string ⟨#[38, 97, 109, 112, 59]⟩, .int .i64 38, .string ⟨#[38, 108, 116, 59]⟩, .int .i64 60, .string ⟨#[38, 103, 116, 59]⟩, .int .i64 62, .string ⟨#[38, 113, 117, 111, 116, 59]⟩, .int .i64 34, .string ⟨#[38, 97, 112, 111, 115, 59]⟩, .int .i64 39]) (.int .i64 2)).run Tryz.prog W = .ok (.agg #[.string ⟨#[38, 103, 116, 59]⟩, .int .i64 62]) W := by kernel_rfl
theorem idx3 (W : World) : (Instr.index 171 (.agg #[.string ⟨#[38, 97, 109, 112, 59]⟩, .int .i64 38, .string ⟨#[38, 108, 116, 59]⟩, .int .i64 60, .string ⟨#[38, 103, 116, 59]⟩, .int .i64 62, .string ⟨#[38, 113, 117, 111, 116, 59]⟩, .int .i64 34, .string ⟨#[38, 97, 112, 111, 115, 59]⟩, .int .i64 39]) (.int .i64 3)).run Tryz.prog W = .ok (.agg #[.string ⟨#[38, 113, 117, 111, 116, 59]⟩, .int .i64 34]) W := by kernel_rfl
theorem idx4 (W : World) : (Instr.index 171 (.agg #[.string ⟨#[38, 97, 109, 112, 59]⟩, .int .i64 38, .string ⟨#[38, 108, 116, 59]⟩, .int .i64 60, .string ⟨#[38, 103, 116, 59]⟩, .int .i64 62, .string ⟨#[38, 113, 117, 111, 116, 59]⟩, .int .i64 34, .string ⟨#[38, 97, 112, 111, 115, 59]⟩, .int .i64 39]) (.int .i64 4)).run Tryz.prog W = .ok (.agg #[.string ⟨#[38, 97, 112, 111, 115, 59]⟩, .int .i64 39]) W := by kernel_rfl

set_option maxRecDepth 100000 in
set_option maxHeartbeats 4000000 in
theorem named_walk (w : World) (s : ByteArray) (x y z : Int) (hxyz : namedF nms s.data.toList = (x, y, z)) :
    Calls Tryz.prog 160 #[.string s] w fun e w' => e = .returned (.tuple #[.int .i64 x, .int .i64 y, .int .i64 z]) ∧ Below w.heap.size w w' := by
  have HX : Hid (namedF nms s.data.toList = (x, y, z)) := hxyz
  clear hxyz
  have hpre : ∀ (A B : ByteArray) (W : World), Calls Tryz.prog 84 #[.string A, .string B] W fun e w' => e = .returned (.bool (Lib.hasPrefix A.data.toList B.data.toList)) ∧ w' = W := fun A B W => Tryz.strings_HasPrefix A B W
  go_enter Tryz.func160, Tryz.ntmps160
  go_wp2
  go_loopw [15] (fun v wr => ∃ i : Nat, v = .int .i64 (i : Int) ∧ i ≤ 5 ∧ Hid (namedF (nms.drop i) s.data.toList = (x, y, z)) ∧ Hid (Below w.heap.size w wr)) (fun v _ => 5 - (intOf v).toNat)
  case atStart =>
    refine ⟨0, rfl, by omega, HX, ?_⟩
    show Below w.heap.size w _
    exact below_new w _
  case round =>
    obtain ⟨i, rfl, hi5, hn, hbw⟩ := hrel
    have hws := hbw.out.size
    clear HX
    have h6 : i = 0 ∨ i = 1 ∨ i = 2 ∨ i = 3 ∨ i = 4 ∨ i = 5 := by omega
    rcases h6 with rfl | rfl | rfl | rfl | rfl | rfl
    · have hidx := idx0 wr
      have HB2 : Hid (Below w.heap.size w (wr.alloc (.cells #[.string ⟨#[38, 97, 109, 112, 59]⟩, .int .i64 38] 170))) := hbw.out.alloc hws _
      cases hA : Lib.hasPrefix s.data.toList (⟨#[38, 97, 109, 112, 59]⟩ : ByteArray).data.toList
      · have hp1 := hpre s ⟨#[38, 97, 109, 112, 59]⟩ (wr.alloc (.cells #[.string ⟨#[38, 97, 109, 112, 59]⟩, .int .i64 38] 170))
        have hp2 := hpre ⟨#[38, 97, 109, 112, 59]⟩ s (wr.alloc (.cells #[.string ⟨#[38, 97, 109, 112, 59]⟩, .int .i64 38] 170))
        rw [hA] at hp1
        cases hB : Lib.hasPrefix (⟨#[38, 97, 109, 112, 59]⟩ : ByteArray).data.toList s.data.toList
        · rw [hB] at hp2
          have HN : Hid (namedF (nms.drop 1) s.data.toList = (x, y, z)) := by
            have h1 := hn.out
            show namedF (nms.drop 1) s.data.toList = (x, y, z)
            rw [← h1]
            exact ((if_neg (Bool.eq_false_iff.1 hA)).trans (if_neg (Bool.eq_false_iff.1 hB))).symm
          clear hn hA hB hpre
          go_wp2_with fail
          refine hp1.mono ?_
          rintro e w2 ⟨rfl, rfl⟩
          go_wp2_with fail
          refine hp2.mono ?_
          rintro e w3 ⟨rfl, rfl⟩
          go_wp2
          go_roundw
          case rel => exact ⟨1, rfl, by omega, HN, HB2⟩
          case measure => simp [intOf]
        · rw [hB] at hp2
          have hf : (x, y, z) = ((0 : Int), (0 : Int), (4 : Int)) := by
            rw [← hn.out]
            exact (if_neg (Bool.eq_false_iff.1 hA)).trans (if_pos hB)
          simp only [Prod.mk.injEq] at hf
          obtain ⟨e1, e2, e3⟩ := hf
          clear hn hA hB hpre
          go_wp2_with fail
          refine hp1.mono ?_
          rintro e w2 ⟨rfl, rfl⟩
          go_wp2_with fail
          refine hp2.mono ?_
          rintro e w3 ⟨rfl, rfl⟩
          go_wp2
          go_ret3
          first | exact ⟨congrArg _ (v_three e1.symm e2.symm e3.symm), HB2.out⟩ | exact ⟨rfl, HB2.out⟩
      · have hp1 := hpre s ⟨#[38, 97, 109, 112, 59]⟩ (wr.alloc (.cells #[.string ⟨#[38, 97, 109, 112, 59]⟩, .int .i64 38] 170))
        rw [hA] at hp1
        have hf : (x, y, z) = ((38 : Int), (5 : Int), (0 : Int)) := by
          rw [← hn.out]
          exact if_pos hA
        simp only [Prod.mk.injEq] at hf
        obtain ⟨e1, e2, e3⟩ := hf
        clear hn hA hpre
        go_wp2_with fail
        refine hp1.mono ?_
        rintro e w2 ⟨rfl, rfl⟩
        go_wp2
        go_region
        go_wp2
        go_ret3
        first | exact ⟨congrArg _ (v_three e1.symm e2.symm e3.symm), HB2.out.drew⟩ | exact ⟨rfl, HB2.out.drew⟩
    · have hidx := idx1 wr
      have HB2 : Hid (Below w.heap.size w (wr.alloc (.cells #[.string ⟨#[38, 108, 116, 59]⟩, .int .i64 60] 170))) := hbw.out.alloc hws _
      cases hA : Lib.hasPrefix s.data.toList (⟨#[38, 108, 116, 59]⟩ : ByteArray).data.toList
      · have hp1 := hpre s ⟨#[38, 108, 116, 59]⟩ (wr.alloc (.cells #[.string ⟨#[38, 108, 116, 59]⟩, .int .i64 60] 170))
        have hp2 := hpre ⟨#[38, 108, 116, 59]⟩ s (wr.alloc (.cells #[.string ⟨#[38, 108, 116, 59]⟩, .int .i64 60] 170))
        rw [hA] at hp1
        cases hB : Lib.hasPrefix (⟨#[38, 108, 116, 59]⟩ : ByteArray).data.toList s.data.toList
        · rw [hB] at hp2
          have HN : Hid (namedF (nms.drop 2) s.data.toList = (x, y, z)) := by
            have h1 := hn.out
            show namedF (nms.drop 2) s.data.toList = (x, y, z)
            rw [← h1]
            exact ((if_neg (Bool.eq_false_iff.1 hA)).trans (if_neg (Bool.eq_false_iff.1 hB))).symm
          clear hn hA hB hpre
          go_wp2_with fail
          refine hp1.mono ?_
          rintro e w2 ⟨rfl, rfl⟩
          go_wp2_with fail
          refine hp2.mono ?_
          rintro e w3 ⟨rfl, rfl⟩
          go_wp2
          go_roundw
          case rel => exact ⟨2, rfl, by omega, HN, HB2⟩
          case measure => simp [intOf]
        · rw [hB] at hp2
          have hf : (x, y, z) = ((0 : Int), (0 : Int), (4 : Int)) := by
            rw [← hn.out]
            exact (if_neg (Bool.eq_false_iff.1 hA)).trans (if_pos hB)
          simp only [Prod.mk.injEq] at hf
          obtain ⟨e1, e2, e3⟩ := hf
          clear hn hA hB hpre
          go_wp2_with fail
          refine hp1.mono ?_
          rintro e w2 ⟨rfl, rfl⟩
          go_wp2_with fail
          refine hp2.mono ?_
          rintro e w3 ⟨rfl, rfl⟩
          go_wp2
          go_ret3
          first | exact ⟨congrArg _ (v_three e1.symm e2.symm e3.symm), HB2.out⟩ | exact ⟨rfl, HB2.out⟩
      · have hp1 := hpre s ⟨#[38, 108, 116, 59]⟩ (wr.alloc (.cells #[.string ⟨#[38, 108, 116, 59]⟩, .int .i64 60] 170))
        rw [hA] at hp1
        have hf : (x, y, z) = ((60 : Int), (4 : Int), (0 : Int)) := by
          rw [← hn.out]
          exact if_pos hA
        simp only [Prod.mk.injEq] at hf
        obtain ⟨e1, e2, e3⟩ := hf
        clear hn hA hpre
        go_wp2_with fail
        refine hp1.mono ?_
        rintro e w2 ⟨rfl, rfl⟩
        go_wp2
        go_region
        go_wp2
        go_ret3
        first | exact ⟨congrArg _ (v_three e1.symm e2.symm e3.symm), HB2.out.drew⟩ | exact ⟨rfl, HB2.out.drew⟩
    · have hidx := idx2 wr
      have HB2 : Hid (Below w.heap.size w (wr.alloc (.cells #[.string ⟨#[38, 103, 116, 59]⟩, .int .i64 62] 170))) := hbw.out.alloc hws _
      cases hA : Lib.hasPrefix s.data.toList (⟨#[38, 103, 116, 59]⟩ : ByteArray).data.toList
      · have hp1 := hpre s ⟨#[38, 103, 116, 59]⟩ (wr.alloc (.cells #[.string ⟨#[38, 103, 116, 59]⟩, .int .i64 62] 170))
        have hp2 := hpre ⟨#[38, 103, 116, 59]⟩ s (wr.alloc (.cells #[.string ⟨#[38, 103, 116, 59]⟩, .int .i64 62] 170))
        rw [hA] at hp1
        cases hB : Lib.hasPrefix (⟨#[38, 103, 116, 59]⟩ : ByteArray).data.toList s.data.toList
        · rw [hB] at hp2
          have HN : Hid (namedF (nms.drop 3) s.data.toList = (x, y, z)) := by
            have h1 := hn.out
            show namedF (nms.drop 3) s.data.toList = (x, y, z)
            rw [← h1]
            exact ((if_neg (Bool.eq_false_iff.1 hA)).trans (if_neg (Bool.eq_false_iff.1 hB))).symm
          clear hn hA hB hpre
          go_wp2_with fail
          refine hp1.mono ?_
          rintro e w2 ⟨rfl, rfl⟩
          go_wp2_with fail
          refine hp2.mono ?_
          rintro e w3 ⟨rfl, rfl⟩
          go_wp2
          go_roundw
          case rel => exact ⟨3, rfl, by omega, HN, HB2⟩
          case measure => simp [intOf]
        · rw [hB] at hp2
          have hf : (x, y, z) = ((0 : Int), (0 : Int), (4 : Int)) := by
            rw [← hn.out]
            exact (if_neg (Bool.eq_false_iff.1 hA)).trans (if_pos hB)
          simp only [Prod.mk.injEq] at hf
          obtain ⟨e1, e2, e3⟩ := hf
          clear hn hA hB hpre
          go_wp2_with fail
          refine hp1.mono ?_
          rintro e w2 ⟨rfl, rfl⟩
          go_wp2_with fail
          refine hp2.mono ?_
          rintro e w3 ⟨rfl, rfl⟩
          go_wp2
          go_ret3
          first | exact ⟨congrArg _ (v_three e1.symm e2.symm e3.symm), HB2.out⟩ | exact ⟨rfl, HB2.out⟩
      · have hp1 := hpre s ⟨#[38, 103, 116, 59]⟩ (wr.alloc (.cells #[.string ⟨#[38, 103, 116, 59]⟩, .int .i64 62] 170))
        rw [hA] at hp1
        have hf : (x, y, z) = ((62 : Int), (4 : Int), (0 : Int)) := by
          rw [← hn.out]
          exact if_pos hA
        simp only [Prod.mk.injEq] at hf
        obtain ⟨e1, e2, e3⟩ := hf
        clear hn hA hpre
        go_wp2_with fail
        refine hp1.mono ?_
        rintro e w2 ⟨rfl, rfl⟩
        go_wp2
        go_region
        go_wp2
        go_ret3
        first | exact ⟨congrArg _ (v_three e1.symm e2.symm e3.symm), HB2.out.drew⟩ | exact ⟨rfl, HB2.out.drew⟩
    · have hidx := idx3 wr
      have HB2 : Hid (Below w.heap.size w (wr.alloc (.cells #[.string ⟨#[38, 113, 117, 111, 116, 59]⟩, .int .i64 34] 170))) := hbw.out.alloc hws _
      cases hA : Lib.hasPrefix s.data.toList (⟨#[38, 113, 117, 111, 116, 59]⟩ : ByteArray).data.toList
      · have hp1 := hpre s ⟨#[38, 113, 117, 111, 116, 59]⟩ (wr.alloc (.cells #[.string ⟨#[38, 113, 117, 111, 116, 59]⟩, .int .i64 34] 170))
        have hp2 := hpre ⟨#[38, 113, 117, 111, 116, 59]⟩ s (wr.alloc (.cells #[.string ⟨#[38, 113, 117, 111, 116, 59]⟩, .int .i64 34] 170))
        rw [hA] at hp1
        cases hB : Lib.hasPrefix (⟨#[38, 113, 117, 111, 116, 59]⟩ : ByteArray).data.toList s.data.toList
        · rw [hB] at hp2
          have HN : Hid (namedF (nms.drop 4) s.data.toList = (x, y, z)) := by
            have h1 := hn.out
            show namedF (nms.drop 4) s.data.toList = (x, y, z)
            rw [← h1]
            exact ((if_neg (Bool.eq_false_iff.1 hA)).trans (if_neg (Bool.eq_false_iff.1 hB))).symm
          clear hn hA hB hpre
          go_wp2_with fail
          refine hp1.mono ?_
          rintro e w2 ⟨rfl, rfl⟩
          go_wp2_with fail
          refine hp2.mono ?_
          rintro e w3 ⟨rfl, rfl⟩
          go_wp2
          go_roundw
          case rel => exact ⟨4, rfl, by omega, HN, HB2⟩
          case measure => simp [intOf]
        · rw [hB] at hp2
          have hf : (x, y, z) = ((0 : Int), (0 : Int), (4 : Int)) := by
            rw [← hn.out]
            exact (if_neg (Bool.eq_false_iff.1 hA)).trans (if_pos hB)
          simp only [Prod.mk.injEq] at hf
          obtain ⟨e1, e2, e3⟩ := hf
          clear hn hA hB hpre
          go_wp2_with fail
          refine hp1.mono ?_
          rintro e w2 ⟨rfl, rfl⟩
          go_wp2_with fail
          refine hp2.mono ?_
          rintro e w3 ⟨rfl, rfl⟩
          go_wp2
          go_ret3
          first | exact ⟨congrArg _ (v_three e1.symm e2.symm e3.symm), HB2.out⟩ | exact ⟨rfl, HB2.out⟩
      · have hp1 := hpre s ⟨#[38, 113, 117, 111, 116, 59]⟩ (wr.alloc (.cells #[.string ⟨#[38, 113, 117, 111, 116, 59]⟩, .int .i64 34] 170))
        rw [hA] at hp1
        have hf : (x, y, z) = ((34 : Int), (6 : Int), (0 : Int)) := by
          rw [← hn.out]
          exact if_pos hA
        simp only [Prod.mk.injEq] at hf
        obtain ⟨e1, e2, e3⟩ := hf
        clear hn hA hpre
        go_wp2_with fail
        refine hp1.mono ?_
        rintro e w2 ⟨rfl, rfl⟩
        go_wp2
        go_region
        go_wp2
        go_ret3
        first | exact ⟨congrArg _ (v_three e1.symm e2.symm e3.symm), HB2.out.drew⟩ | exact ⟨rfl, HB2.out.drew⟩
    · have hidx := idx4 wr
      have HB2 : Hid (Below w.heap.size w (wr.alloc (.cells #[.string ⟨#[38, 97, 112, 111, 115, 59]⟩, .int .i64 39] 170))) := hbw.out.alloc hws _
      cases hA : Lib.hasPrefix s.data.toList (⟨#[38, 97, 112, 111, 115, 59]⟩ : ByteArray).data.toList
      · have hp1 := hpre s ⟨#[38, 97, 112, 111, 115, 59]⟩ (wr.alloc (.cells #[.string ⟨#[38, 97, 112, 111, 115, 59]⟩, .int .i64 39] 170))
        have hp2 := hpre ⟨#[38, 97, 112, 111, 115, 59]⟩ s (wr.alloc (.cells #[.string ⟨#[38, 97, 112, 111, 115, 59]⟩, .int .i64 39] 170))
        rw [hA] at hp1
        cases hB : Lib.hasPrefix (⟨#[38, 97, 112, 111, 115, 59]⟩ : ByteArray).data.toList s.data.toList
        · rw [hB] at hp2
          have HN : Hid (namedF (nms.drop 5) s.data.toList = (x, y, z)) := by
            have h1 := hn.out
            show namedF (nms.drop 5) s.data.toList = (x, y, z)
            rw [← h1]
            exact ((if_neg (Bool.eq_false_iff.1 hA)).trans (if_neg (Bool.eq_false_iff.1 hB))).symm
          clear hn hA hB hpre
          go_wp2_with fail
          refine hp1.mono ?_
          rintro e w2 ⟨rfl, rfl⟩
          go_wp2_with fail
          refine hp2.mono ?_
          rintro e w3 ⟨rfl, rfl⟩
          go_wp2
          go_roundw
          case rel => exact ⟨5, rfl, by omega, HN, HB2⟩
          case measure => simp [intOf]
        · rw [hB] at hp2
          have hf : (x, y, z) = ((0 : Int), (0 : Int), (4 : Int)) := by
            rw [← hn.out]
            exact (if_neg (Bool.eq_false_iff.1 hA)).trans (if_pos hB)
          simp only [Prod.mk.injEq] at hf
          obtain ⟨e1, e2, e3⟩ := hf
          clear hn hA hB hpre
          go_wp2_with fail
          refine hp1.mono ?_
          rintro e w2 ⟨rfl, rfl⟩
          go_wp2_with fail
          refine hp2.mono ?_
          rintro e w3 ⟨rfl, rfl⟩
          go_wp2
          go_ret3
          first | exact ⟨congrArg _ (v_three e1.symm e2.symm e3.symm), HB2.out⟩ | exact ⟨rfl, HB2.out⟩
      · have hp1 := hpre s ⟨#[38, 97, 112, 111, 115, 59]⟩ (wr.alloc (.cells #[.string ⟨#[38, 97, 112, 111, 115, 59]⟩, .int .i64 39] 170))
        rw [hA] at hp1
        have hf : (x, y, z) = ((39 : Int), (6 : Int), (0 : Int)) := by
          rw [← hn.out]
          exact if_pos hA
        simp only [Prod.mk.injEq] at hf
        obtain ⟨e1, e2, e3⟩ := hf
        clear hn hA hpre
        go_wp2_with fail
        refine hp1.mono ?_
        rintro e w2 ⟨rfl, rfl⟩
        go_wp2
        go_region
        go_wp2
        go_ret3
        first | exact ⟨congrArg _ (v_three e1.symm e2.symm e3.symm), HB2.out.drew⟩ | exact ⟨rfl, HB2.out.drew⟩
    · have hf : (x, y, z) = ((0 : Int), (0 : Int), (20 : Int)) := by rw [← hn.out]; rfl
      simp only [Prod.mk.injEq] at hf
      obtain ⟨e1, e2, e3⟩ := hf
      clear hn hpre
      go_wp2
      go_ret3
      first | exact ⟨congrArg _ (v_three e1.symm e2.symm e3.symm), hbw.out⟩ | exact ⟨rfl, hbw.out⟩

end Go.Proofs.YtmifejkddgcbmaaGreat
