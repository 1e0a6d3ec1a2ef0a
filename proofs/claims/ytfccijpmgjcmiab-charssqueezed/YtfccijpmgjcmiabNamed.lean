/- A reference by name, the program's; a reference; what stands at the beginning. -/
import Derived.Test.YtfccijpmgjcmiabDigit
namespace Go.Proofs.Ytfccijpmgjcmiab
open Go.RowKit
set_option linter.unusedVariables false

theorem idx0 (W : World) : (Instr.index 61 (.agg #[.string ⟨#[38, 97, 109, 112, 59]⟩, .int .i64 38, .string ⟨#[38, 108, 116, 59]⟩, .int .i64 60, .string ⟨#[38, 103, 116, 59]⟩, .int .i64 62, .string ⟨#[38, 113, 117, 111, 116, 59]⟩, .int .i64 34, .string ⟨#[38, 97, 112, 111, 115, 59]⟩, .int .i64 39]) (.int .i64 0)).run Try.prog W = .ok (.agg #[.string ⟨#[38, 97, 109, 112, 59]⟩, .int .i64 38]) W := by kernel_rfl
theorem idx1 (W : World) : (Instr.index 61 (.agg #[.string ⟨#[38, 97, 109, 112, 59]⟩, .int .i64 38, .string ⟨#[38, 108, 116, 59]⟩, .int .i64 60, .string ⟨#[38, 103, 116, 59]⟩, .int .i64 62, .string ⟨#[38, 113, 117, 111, 116, 59]⟩, .int .i64 34, .string ⟨#[38, 97, 112, 111, 115, 59]⟩, .int .i64 39]) (.int .i64 1)).run Try.prog W = .ok (.agg #[.string ⟨#[38, 108, 116, 59]⟩, .int .i64 60]) W := by kernel_rfl
theorem idx2 (W : World) : (Instr.index 61 (.agg #[.string ⟨#[38, 97, 109, 112, 59]⟩, .int .i64 38, .string ⟨#[38, 108, 116, 59]⟩, .int .i64 60, .string ⟨#[38, 103, 116, 59]⟩, .int .i64 62, .string ⟨#[38, 113, 117, 111, 116, 59]⟩, .int .i64 34, .string ⟨#[38, 97, 112, 111, 115, 59]⟩, .int .i64 39]) (.int .i64 2)).run Try.prog W = .ok (.agg #[.string ⟨#[38, 103, 116, 59]⟩, .int .i64 62]) W := by kernel_rfl
theorem idx3 (W : World) : (Instr.index 61 (.agg #[.string ⟨#[38, 97, 109, 112, 59]⟩, .int .i64 38, .string ⟨#[38, 108, 116, 59]⟩, .int .i64 60, .string ⟨#[38, 103, 116, 59]⟩, .int .i64 62, .string ⟨#[38, 113, 117, 111, 116, 59]⟩, .int .i64 34, .string ⟨#[38, 97, 112, 111, 115, 59]⟩, .int .i64 39]) (.int .i64 3)).run Try.prog W = .ok (.agg #[.string ⟨#[38, 113, 117, 111, 116, 59]⟩, .int .i64 34]) W := by kernel_rfl
theorem idx4 (W : World) : (Instr.index 61 (.agg #[.string ⟨#[38, 97, 109, 112, 59]⟩, .int .i64 38, .string ⟨#[38, 108, 116, 59]⟩, .int .i64 60, .string ⟨#[38, 103, 116, 59]⟩, .int .i64 62, .string ⟨#[38, 113, 117, 111, 116, 59]⟩, .int .i64 34, .string ⟨#[38, 97, 112, 111, 115, 59]⟩, .int .i64 39]) (.int .i64 4)).run Try.prog W = .ok (.agg #[.string ⟨#[38, 97, 112, 111, 115, 59]⟩, .int .i64 39]) W := by kernel_rfl

set_option maxRecDepth 100000 in
set_option maxHeartbeats 4000000 in
theorem named_walk (w : World) (s : ByteArray) (x y z : Int) (hxyz : namedF nms s.data.toList = (x, y, z)) :
    Calls Try.prog 29 #[.string s] w fun e w' => e = .returned (.tuple #[.int .i64 x, .int .i64 y, .int .i64 z]) ∧ Below w.heap.size w w' := by
  have HX : Hid (namedF nms s.data.toList = (x, y, z)) := hxyz
  clear hxyz
  have hpre : ∀ (A B : ByteArray) (W : World), Calls Try.prog 27 #[.string A, .string B] W fun e w' => e = .returned (.bool (Lib.hasPrefix A.data.toList B.data.toList)) ∧ w' = W := fun A B W => Try.strings_HasPrefix A B W
  go_enter Try.func29, Try.ntmps29
  go_wp2
  go_loopw [15] (fun v wr => ∃ i : Nat, v = .int .i64 (i : Int) ∧ i ≤ 5 ∧ Hid (namedF (nms.drop i) s.data.toList = (x, y, z)) ∧ Hid (Below w.heap.size w wr)) (fun v _ => 5 - (intOf v).toNat)
  case atStart =>
    refine ⟨0, rfl, by omega, HX, ?_⟩
    show Below w.heap.size w _
    exact below_new w _
  case round =>
    obtain ⟨i, rfl, hi5, hn, hbw⟩ := hrel
    have hws := hbw.out.size
    clear HX
    have h6 : i = 0 ∨ i = 1 ∨ i = 2 ∨ i = 3 ∨ i = 4 ∨ i = 5 := by omega
    rcases h6 with rfl | rfl | rfl | rfl | rfl | rfl
    · have hidx := idx0 wr
      have HB2 : Hid (Below w.heap.size w (wr.alloc (.cells #[.string ⟨#[38, 97, 109, 112, 59]⟩, .int .i64 38] 60))) := hbw.out.alloc hws _
      cases hA : Lib.hasPrefix s.data.toList (⟨#[38, 97, 109, 112, 59]⟩ : ByteArray).data.toList
      · have hp1 := hpre s ⟨#[38, 97, 109, 112, 59]⟩ (wr.alloc (.cells #[.string ⟨#[38, 97, 109, 112, 59]⟩, .int .i64 38] 60))
        have hp2 := hpre ⟨#[38, 97, 109, 112, 59]⟩ s (wr.alloc (.cells #[.string ⟨#[38, 97, 109, 112, 59]⟩, .int .i64 38] 60))
        rw [hA] at hp1
        cases hB : Lib.hasPrefix (⟨#[38, 97, 109, 112, 59]⟩ : ByteArray).data.toList s.data.toList
        · rw [hB] at hp2
          have HN : Hid (namedF (nms.drop 1) s.data.toList = (x, y, z)) := by
            have h1 := hn.out
            show namedF (nms.drop 1) s.data.toList = (x, y, z)
            rw [← h1]
            exact ((if_neg (Bool.eq_false_iff.1 hA)).trans (if_neg (Bool.eq_false_iff.1 hB))).symm
          clear hn hA hB hpre
          go_wp2_with fail
          refine hp1.mono ?_
          rintro e w2 ⟨rfl, rfl⟩
          go_wp2_with fail
          refine hp2.mono ?_
          rintro e w3 ⟨rfl, rfl⟩
          go_wp2
          go_roundw
          case rel => exact ⟨1, rfl, by omega, HN, HB2⟩
          case measure => simp [intOf]
        · rw [hB] at hp2
          have hf : (x, y, z) = ((0 : Int), (0 : Int), (4 : Int)) := by
            rw [← hn.out]
            exact (if_neg (Bool.eq_false_iff.1 hA)).trans (if_pos hB)
          simp only [Prod.mk.injEq] at hf
          obtain ⟨e1, e2, e3⟩ := hf
          clear hn hA hB hpre
          go_wp2_with fail
          refine hp1.mono ?_
          rintro e w2 ⟨rfl, rfl⟩
          go_wp2_with fail
          refine hp2.mono ?_
          rintro e w3 ⟨rfl, rfl⟩
          go_wp2
          go_ret3
          first | exact ⟨congrArg _ (v_three e1.symm e2.symm e3.symm), HB2.out⟩ | exact ⟨rfl, HB2.out⟩
      · have hp1 := hpre s ⟨#[38, 97, 109, 112, 59]⟩ (wr.alloc (.cells #[.string ⟨#[38, 97, 109, 112, 59]⟩, .int .i64 38] 60))
        rw [hA] at hp1
        have hf : (x, y, z) = ((38 : Int), (5 : Int), (0 : Int)) := by
          rw [← hn.out]
          exact if_pos hA
        simp only [Prod.mk.injEq] at hf
        obtain ⟨e1, e2, e3⟩ := hf
        clear hn hA hpre
        go_wp2_with fail
        refine hp1.mono ?_
        rintro e w2 ⟨rfl, rfl⟩
        go_wp2
        go_region
        go_wp2
        go_ret3
        first | exact ⟨congrArg _ (v_three e1.symm e2.symm e3.symm), HB2.out.drew⟩ | exact ⟨rfl, HB2.out.drew⟩
    · have hidx := idx1 wr
      have HB2 : Hid (Below w.heap.size w (wr.alloc (.cells #[.string ⟨#[38, 108, 116, 59]⟩, .int .i64 60] 60))) := hbw.out.alloc hws _
      cases hA : Lib.hasPrefix s.data.toList (⟨#[38, 108, 116, 59]⟩ : ByteArray).data.toList
      · have hp1 := hpre s ⟨#[38, 108, 116, 59]⟩ (wr.alloc (.cells #[.string ⟨#[38, 108, 116, 59]⟩, .int .i64 60] 60))
        have hp2 := hpre ⟨#[38, 108, 116, 59]⟩ s (wr.alloc (.cells #[.string ⟨#[38, 108, 116, 59]⟩, .int .i64 60] 60))
        rw [hA] at hp1
        cases hB : Lib.hasPrefix (⟨#[38, 108, 116, 59]⟩ : ByteArray).data.toList s.data.toList
        · rw [hB] at hp2
          have HN : Hid (namedF (nms.drop 2) s.data.toList = (x, y, z)) := by
            have h1 := hn.out
            show namedF (nms.drop 2) s.data.toList = (x, y, z)
            rw [← h1]
            exact ((if_neg (Bool.eq_false_iff.1 hA)).trans (if_neg (Bool.eq_false_iff.1 hB))).symm
          clear hn hA hB hpre
          go_wp2_with fail
          refine hp1.mono ?_
          rintro e w2 ⟨rfl, rfl⟩
          go_wp2_with fail
          refine hp2.mono ?_
          rintro e w3 ⟨rfl, rfl⟩
          go_wp2
          go_roundw
          case rel => exact ⟨2, rfl, by omega, HN, HB2⟩
          case measure => simp [intOf]
        · rw [hB] at hp2
          have hf : (x, y, z) = ((0 : Int), (0 : Int), (4 : Int)) := by
            rw [← hn.out]
            exact (if_neg (Bool.eq_false_iff.1 hA)).trans (if_pos hB)
          simp only [Prod.mk.injEq] at hf
          obtain ⟨e1, e2, e3⟩ := hf
          clear hn hA hB hpre
          go_wp2_with fail
          refine hp1.mono ?_
          rintro e w2 ⟨rfl, rfl⟩
          go_wp2_with fail
          refine hp2.mono ?_
          rintro e w3 ⟨rfl, rfl⟩
          go_wp2
          go_ret3
          first | exact ⟨congrArg _ (v_three e1.symm e2.symm e3.symm), HB2.out⟩ | exact ⟨rfl, HB2.out⟩
      · have hp1 := hpre s ⟨#[38, 108, 116, 59]⟩ (wr.alloc (.cells #[.string ⟨#[38, 108, 116, 59]⟩, .int .i64 60] 60))
        rw [hA] at hp1
        have hf : (x, y, z) = ((60 : Int), (4 : Int), (0 : Int)) := by
          rw [← hn.out]
          exact if_pos hA
        simp only [Prod.mk.injEq] at hf
        obtain ⟨e1, e2, e3⟩ := hf
        clear hn hA hpre
        go_wp2_with fail
        refine hp1.mono ?_
        rintro e w2 ⟨rfl, rfl⟩
        go_wp2
        go_region
        go_wp2
        go_ret3
        first | exact ⟨congrArg _ (v_three e1.symm e2.symm e3.symm), HB2.out.drew⟩ | exact ⟨rfl, HB2.out.drew⟩
    · have hidx := idx2 wr
      have HB2 : Hid (Below w.heap.size w (wr.alloc (.cells #[.string ⟨#[38, 103, 116, 59]⟩, .int .i64 62] 60))) := hbw.out.alloc hws _
      cases hA : Lib.hasPrefix s.data.toList (⟨#[38, 103, 116, 59]⟩ : ByteArray).data.toList
      · have hp1 := hpre s ⟨#[38, 103, 116, 59]⟩ (wr.alloc (.cells #[.string ⟨#[38, 103, 116, 59]⟩, .int .i64 62] 60))
        have hp2 := hpre ⟨#[38, 103, 116, 59]⟩ s (wr.alloc (.cells #[.string ⟨#[38, 103, 116, 59]⟩, .int .i64 62] 60))
        rw [hA] at hp1
        cases hB : Lib.hasPrefix (⟨#[38, 103, 116, 59]⟩ : ByteArray).data.toList s.data.toList
        · rw [hB] at hp2
          have HN : Hid (namedF (nms.drop 3) s.data.toList = (x, y, z)) := by
            have h1 := hn.out
            show namedF (nms.drop 3) s.data.toList = (x, y, z)
            rw [← h1]
            exact ((if_neg (Bool.eq_false_iff.1 hA)).trans (if_neg (Bool.eq_false_iff.1 hB))).symm
          clear hn hA hB hpre
          go_wp2_with fail
          refine hp1.mono ?_
          rintro e w2 ⟨rfl, rfl⟩
          go_wp2_with fail
          refine hp2.mono ?_
          rintro e w3 ⟨rfl, rfl⟩
          go_wp2
          go_roundw
          case rel => exact ⟨3, rfl, by omega, HN, HB2⟩
          case measure => simp [intOf]
        · rw [hB] at hp2
          have hf : (x, y, z) = ((0 : Int), (0 : Int), (4 : Int)) := by
            rw [← hn.out]
            exact (if_neg (Bool.eq_false_iff.1 hA)).trans (if_pos hB)
          simp only [Prod.mk.injEq] at hf
          obtain ⟨e1, e2, e3⟩ := hf
          clear hn hA hB hpre
          go_wp2_with fail
          refine hp1.mono ?_
          rintro e w2 ⟨rfl, rfl⟩
          go_wp2_with fail
          refine hp2.mono ?_
          rintro e w3 ⟨rfl, rfl⟩
          go_wp2
          go_ret3
          first | exact ⟨congrArg _ (v_three e1.symm e2.symm e3.symm), HB2.out⟩ | exact ⟨rfl, HB2.out⟩
      · have hp1 := hpre s ⟨#[38, 103, 116, 59]⟩ (wr.alloc (.cells #[.string ⟨#[38, 103, 116, 59]⟩, .int .i64 62] 60))
        rw [hA] at hp1
        have hf : (x, y, z) = ((62 : Int), (4 : Int), (0 : Int)) := by
          rw [← hn.out]
          exact if_pos hA
        simp only [Prod.mk.injEq] at hf
        obtain ⟨e1, e2, e3⟩ := hf
        clear hn hA hpre
        go_wp2_with fail
        refine hp1.mono ?_
        rintro e w2 ⟨rfl, rfl⟩
        go_wp2
        go_region
        go_wp2
        go_ret3
        first | exact ⟨congrArg _ (v_three e1.symm e2.symm e3.symm), HB2.out.drew⟩ | exact ⟨rfl, HB2.out.drew⟩
    · have hidx := idx3 wr
      have HB2 : Hid (Below w.heap.size w (wr.alloc (.cells #[.string ⟨#[38, 113, 117, 111, 116, 59]⟩, .int .i64 34] 60))) := hbw.out.alloc hws _
      cases hA : Lib.hasPrefix s.data.toList (⟨#[38, 113, 117, 111, 116, 59]⟩ : ByteArray).data.toList
      · have hp1 := hpre s ⟨#[38, 113, 117, 111, 116, 59]⟩ (wr.alloc (.cells #[.string ⟨#[38, 113, 117, 111, 116, 59]⟩, .int .i64 34] 60))
        have hp2 := hpre ⟨#[38, 113, 117, 111, 116, 59]⟩ s (wr.alloc (.cells #[.string ⟨#[38, 113, 117, 111, 116, 59]⟩, .int .i64 34] 60))
        rw [hA] at hp1
        cases hB : Lib.hasPrefix (⟨#[38, 113, 117, 111, 116, 59]⟩ : ByteArray).data.toList s.data.toList
        · rw [hB] at hp2
          have HN : Hid (namedF (nms.drop 4) s.data.toList = (x, y, z)) := by
            have h1 := hn.out
            show namedF (nms.drop 4) s.data.toList = (x, y, z)
            rw [← h1]
            exact ((if_neg (Bool.eq_false_iff.1 hA)).trans (if_neg (Bool.eq_false_iff.1 hB))).symm
          clear hn hA hB hpre
          go_wp2_with fail
          refine hp1.mono ?_
          rintro e w2 ⟨rfl, rfl⟩
          go_wp2_with fail
          refine hp2.mono ?_
          rintro e w3 ⟨rfl, rfl⟩
          go_wp2
          go_roundw
          case rel => exact ⟨4, rfl, by omega, HN, HB2⟩
          case measure => simp [intOf]
        · rw [hB] at hp2
          have hf : (x, y, z) = ((0 : Int), (0 : Int), (4 : Int)) := by
            rw [← hn.out]
            exact (if_neg (Bool.eq_false_iff.1 hA)).trans (if_pos hB)
          simp only [Prod.mk.injEq] at hf
          obtain ⟨e1, e2, e3⟩ := hf
          clear hn hA hB hpre
          go_wp2_with fail
          refine hp1.mono ?_
          rintro e w2 ⟨rfl, rfl⟩
          go_wp2_with fail
          refine hp2.mono ?_
          rintro e w3 ⟨rfl, rfl⟩
          go_wp2
          go_ret3
          first | exact ⟨congrArg _ (v_three e1.symm e2.symm e3.symm), HB2.out⟩ | exact ⟨rfl, HB2.out⟩
      · have hp1 := hpre s ⟨#[38, 113, 117, 111, 116, 59]⟩ (wr.alloc (.cells #[.string ⟨#[38, 113, 117, 111, 116, 59]⟩, .int .i64 34] 60))
        rw [hA] at hp1
        have hf : (x, y, z) = ((34 : Int), (6 : Int), (0 : Int)) := by
          rw [← hn.out]
          exact if_pos hA
        simp only [Prod.mk.injEq] at hf
        obtain ⟨e1, e2, e3⟩ := hf
        clear hn hA hpre
        go_wp2_with fail
        refine hp1.mono ?_
        rintro e w2 ⟨rfl, rfl⟩
        go_wp2
        go_region
        go_wp2
        go_ret3
        first | exact ⟨congrArg _ (v_three e1.symm e2.symm e3.symm), HB2.out.drew⟩ | exact ⟨rfl, HB2.out.drew⟩
    · have hidx := idx4 wr
      have HB2 : Hid (Below w.heap.size w (wr.alloc (.cells #[.string ⟨#[38, 97, 112, 111, 115, 59]⟩, .int .i64 39] 60))) := hbw.out.alloc hws _
      cases hA : Lib.hasPrefix s.data.toList (⟨#[38, 97, 112, 111, 115, 59]⟩ : ByteArray).data.toList
      · have hp1 := hpre s ⟨#[38, 97, 112, 111, 115, 59]⟩ (wr.alloc (.cells #[.string ⟨#[38, 97, 112, 111, 115, 59]⟩, .int .i64 39] 60))
        have hp2 := hpre ⟨#[38, 97, 112, 111, 115, 59]⟩ s (wr.alloc (.cells #[.string ⟨#[38, 97, 112, 111, 115, 59]⟩, .int .i64 39] 60))
        rw [hA] at hp1
        cases hB : Lib.hasPrefix (⟨#[38, 97, 112, 111, 115, 59]⟩ : ByteArray).data.toList s.data.toList
        · rw [hB] at hp2
          have HN : Hid (namedF (nms.drop 5) s.data.toList = (x, y, z)) := by
            have h1 := hn.out
            show namedF (nms.drop 5) s.data.toList = (x, y, z)
            rw [← h1]
            exact ((if_neg (Bool.eq_false_iff.1 hA)).trans (if_neg (Bool.eq_false_iff.1 hB))).symm
          clear hn hA hB hpre
          go_wp2_with fail
          refine hp1.mono ?_
          rintro e w2 ⟨rfl, rfl⟩
          go_wp2_with fail
          refine hp2.mono ?_
          rintro e w3 ⟨rfl, rfl⟩
          go_wp2
          go_roundw
          case rel => exact ⟨5, rfl, by omega, HN, HB2⟩
          case measure => simp [intOf]
        · rw [hB] at hp2
          have hf : (x, y, z) = ((0 : Int), (0 : Int), (4 : Int)) := by
            rw [← hn.out]
            exact (if_neg (Bool.eq_false_iff.1 hA)).trans (if_pos hB)
          simp only [Prod.mk.injEq] at hf
          obtain ⟨e1, e2, e3⟩ := hf
          clear hn hA hB hpre
          go_wp2_with fail
          refine hp1.mono ?_
          rintro e w2 ⟨rfl, rfl⟩
          go_wp2_with fail
          refine hp2.mono ?_
          rintro e w3 ⟨rfl, rfl⟩
          go_wp2
          go_ret3
          first | exact ⟨congrArg _ (v_three e1.symm e2.symm e3.symm), HB2.out⟩ | exact ⟨rfl, HB2.out⟩
      · have hp1 := hpre s ⟨#[38, 97, 112, 111, 115, 59]⟩ (wr.alloc (.cells #[.string ⟨#[38, 97, 112, 111, 115, 59]⟩, .int .i64 39] 60))
        rw [hA] at hp1
        have hf : (x, y, z) = ((39 : Int), (6 : Int), (0 : Int)) := by
          rw [← hn.out]
          exact if_pos hA
        simp only [Prod.mk.injEq] at hf
        obtain ⟨e1, e2, e3⟩ := hf
        clear hn hA hpre
        go_wp2_with fail
        refine hp1.mono ?_
        rintro e w2 ⟨rfl, rfl⟩
        go_wp2
        go_region
        go_wp2
        go_ret3
        first | exact ⟨congrArg _ (v_three e1.symm e2.symm e3.symm), HB2.out.drew⟩ | exact ⟨rfl, HB2.out.drew⟩
    · have hf : (x, y, z) = ((0 : Int), (0 : Int), (20 : Int)) := by rw [← hn.out]; rfl
      simp only [Prod.mk.injEq] at hf
      obtain ⟨e1, e2, e3⟩ := hf
      clear hn hpre
      go_wp2
      go_ret3
      first | exact ⟨congrArg _ (v_three e1.symm e2.symm e3.symm), hbw.out⟩ | exact ⟨rfl, hbw.out⟩

end Go.Proofs.Ytfccijpmgjcmiab
