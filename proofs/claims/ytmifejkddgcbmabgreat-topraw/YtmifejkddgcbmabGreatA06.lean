/- A reference by name, the program's; a reference; what stands at the beginning. -/
import Derived.Test.YtmifejkddgcbmabGreatA05
import Derived.Laws.BytesArg
import Derived.Lib.AppendStr
import Derived.Laws.AppendOwn
import Derived.OwnWalk
namespace Go.Proofs.YtmifejkddgcbmabGreat
open Go.RowKit
set_option linter.unusedVariables false
set_option linter.unusedSimpArgs false

theorem idx0 (W : World) : (Instr.index 161 (.agg #[.string ⟨#[38, 97, 109, 112, 59]⟩, .int .i64 38, .string ⟨#[38, 108, 116, 59]⟩, .int .i64 60, .string ⟨#[38, 103, 116, 59]⟩, .int .i64 62, .string ⟨#[38, 113, 117, 111, 116, 59]⟩, .int .i64 34, .string ⟨#[38, 97, 112, 111, 115, 59]⟩, .int .i64 39]) (.int .i64 0)).run Tryz.prog W = .ok (.agg #[.string ⟨#[38, 97, 109, 112, 59]⟩, .int .i64 38]) W := by kernel_rfl
theorem idx1 (W : World) : (Instr.index 161 (.agg #[.string ⟨#[38, 97, 109, 112, 59]⟩, .int .i64 38, .string ⟨#[38, 108, 116, 59]⟩, .int .i64 60, .string ⟨#[38, 103, 116, 59]⟩, .int .i64 62, .string ⟨#[38, 113, 117, 111, 116, 59]⟩, .int .i64 34, .string ⟨#[38, 97, 112, 111, 115, 59]⟩, .int .i64 39]) (.int .i64 1)).run Tryz.prog W = .ok (.agg #[.string ⟨#[38, 108, 116, 59]⟩, .int .i64 60]) W := by kernel_rfl
theorem idx2 (W : World) : (Instr.index 161 (.agg #[.string ⟨#[38, 97, 109, 112, 59]⟩, .int .i64 38, .string ⟨#[38, 108, 116, 59]⟩, .int .i64 60, .string ⟨#[38, 103, 116, 59]⟩, .int .i64 62, .string ⟨#[38, 113, 117, 111, 116, 59]⟩, .int .i64 34, .string ⟨#[38, 97, 112, 111, 115, 59]⟩, .int .i64 39]) (.int .i64 2)).run Tryz.prog W = .ok (.agg #[.string ⟨#[38, 103, 116, 59]⟩, .int .i64 62]) W := by kernel_rfl
theorem idx3 (W : World) : (Instr.index 161 (.agg #[.string ⟨#[38, 97, 109, 112, 59]⟩, .int .i64 38, .string ⟨#[38, 108, 116, 59]⟩, .int .i64 60, .string ⟨#[38, 103, 116, 59]⟩, .int .i64 62, .string ⟨#[38, 113, 117, 111, 116, 59]⟩, .int .i64 34, .string ⟨#[38, 97, 112, 111, 115, 59]⟩, .int .i64 39]) (.int .i64 3)).run Tryz.prog W = .ok (.agg #[.string ⟨#[38, 113, 117, 111, 116, 59]⟩, .int .i64 34]) W := by kernel_rfl
theorem idx4 (W : World) : (Instr.index 161 (.agg #[.string ⟨#[38, 97, 109, 112, 59]⟩, .int .i64 38, .string ⟨#[38, 108, 116, 59]⟩, .int .i64 60, .string ⟨#[38, 103, 116, 59]⟩, .int .i64 62, .string ⟨#[38, 113, 117, 111, 116, 59]⟩, .int .i64 34, .string ⟨#[38, 97, 112, 111, 115, 59]⟩, .int .i64 39]) (.int .i64 4)).run Tryz.prog W = .ok (.agg #[.string ⟨#[38, 97, 112, 111, 115, 59]⟩, .int .i64 39]) W := by kernel_rfl

set_option maxRecDepth 100000 in
set_option maxHeartbeats 4000000 in
theorem named_walk (w : World) (s : ByteArray) (x y z : Int) (hxyz : namedF nms s.data.toList = (x, y, z)) :
    Calls Tryz.prog 154 #[.string s] w fun e w' => e = .returned (.tuple #[.int .i64 x, .int .i64 y, .int .i64 z]) ∧ Below w.heap.size w w' := by
  have HX : Hid (namedF nms s.data.toList = (x, y, z)) := hxyz
  clear hxyz
  have hpre : ∀ (A B : ByteArray) (W : World), Calls Tryz.prog 67 #[.string A, .string B] W fun e w' => e = .returned (.bool (Lib.hasPrefix A.data.toList B.data.toList)) ∧ w' = W := fun A B W => Tryz.strings_HasPrefix A B W
  go_enter Tryz.func154, Tryz.ntmps154
  go_wp2
  go_loopw [15] (fun v wr => ∃ i : Nat, v = .int .i64 (i : Int) ∧ i ≤ 5 ∧ Hid (namedF (nms.drop i) s.data.toList = (x, y, z)) ∧ Hid (Below w.heap.size w wr)) (fun v _ => 5 - (intOf v).toNat)
  case atStart =>
    refine ⟨0, rfl, by omega, HX, ?_⟩
    show Below w.heap.size w _
    exact below_new w _
  case round =>
    obtain ⟨i, rfl, hi5, hn, hbw⟩ := hrel
    have hws := hbw.out.size
    clear HX
    have h6 : i = 0 ∨ i = 1 ∨ i = 2 ∨ i = 3 ∨ i = 4 ∨ i = 5 := by omega
    rcases h6 with rfl | rfl | rfl | rfl | rfl | rfl
    · have hidx := idx0 wr
      have HB2 : Hid (Below w.heap.size w (wr.alloc (.cells #[.string ⟨#[38, 97, 109, 112, 59]⟩, .int .i64 38] 160))) := hbw.out.alloc hws _
      cases hA : Lib.hasPrefix s.data.toList (⟨#[38, 97, 109, 112, 59]⟩ : ByteArray).data.toList
      · have hp1 := hpre s ⟨#[38, 97, 109, 112, 59]⟩ (wr.alloc (.cells #[.string ⟨#[38, 97, 109, 112, 59]⟩, .int .i64 38] 160))
        have hp2 := hpre ⟨#[38, 97, 109, 112, 59]⟩ s (wr.alloc (.cells #[.string ⟨#[38, 97, 109, 112, 59]⟩, .int .i64 38] 160))
        rw [hA] at hp1
        cases hB : Lib.hasPrefix (⟨#[38, 97, 109, 112, 59]⟩ : ByteArray).data.toList s.data.toList
        · rw [hB] at hp2
          have HN : Hid (namedF (nms.drop 1) s.data.toList = (x, y, z)) := by
            have h1 := hn.out
            show namedF (nms.drop 1) s.data.toList = (x, y, z)
            rw [← h1]
            exact ((if_neg (Bool.eq_false_iff.1 hA)).trans (if_neg (Bool.eq_false_iff.1 hB))).symm
          clear hn hA hB hpre
          go_wp2_with fail
          refine hp1.mono ?_
          rintro e w2 ⟨rfl, rfl⟩
          go_wp2_with fail
          refine hp2.mono ?_
          rintro e w3 ⟨rfl, rfl⟩
          go_wp2
          go_roundw
          case rel => exact ⟨1, rfl, by omega, HN, HB2⟩
          case measure => simp [intOf]
        · rw [hB] at hp2
          have hf : (x, y, z) = ((0 : Int), (0 : Int), (4 : Int)) := by
            rw [← hn.out]
            exact (if_neg (Bool.eq_false_iff.1 hA)).trans (if_pos hB)
          simp only [Prod.mk.injEq] at hf
          obtain ⟨e1, e2, e3⟩ := hf
          clear hn hA hB hpre
          go_wp2_with fail
          refine hp1.mono ?_
          rintro e w2 ⟨rfl, rfl⟩
          go_wp2_with fail
          refine hp2.mono ?_
          rintro e w3 ⟨rfl, rfl⟩
          go_wp2
          go_ret3
          first | exact ⟨congrArg _ (v_three e1.symm e2.symm e3.symm), HB2.out⟩ | exact ⟨rfl, HB2.out⟩
      · have hp1 := hpre s ⟨#[38, 97, 109, 112, 59]⟩ (wr.alloc (.cells #[.string ⟨#[38, 97, 109, 112, 59]⟩, .int .i64 38] 160))
        rw [hA] at hp1
        have hf : (x, y, z) = ((38 : Int), (5 : Int), (0 : Int)) := by
          rw [← hn.out]
          exact if_pos hA
        simp only [Prod.mk.injEq] at hf
        obtain ⟨e1, e2, e3⟩ := hf
        clear hn hA hpre
        go_wp2_with fail
        refine hp1.mono ?_
        rintro e w2 ⟨rfl, rfl⟩
        go_wp2
        go_region
        go_wp2
        go_ret3
        first | exact ⟨congrArg _ (v_three e1.symm e2.symm e3.symm), HB2.out.drew⟩ | exact ⟨rfl, HB2.out.drew⟩
    · have hidx := idx1 wr
      have HB2 : Hid (Below w.heap.size w (wr.alloc (.cells #[.string ⟨#[38, 108, 116, 59]⟩, .int .i64 60] 160))) := hbw.out.alloc hws _
      cases hA : Lib.hasPrefix s.data.toList (⟨#[38, 108, 116, 59]⟩ : ByteArray).data.toList
      · have hp1 := hpre s ⟨#[38, 108, 116, 59]⟩ (wr.alloc (.cells #[.string ⟨#[38, 108, 116, 59]⟩, .int .i64 60] 160))
        have hp2 := hpre ⟨#[38, 108, 116, 59]⟩ s (wr.alloc (.cells #[.string ⟨#[38, 108, 116, 59]⟩, .int .i64 60] 160))
        rw [hA] at hp1
        cases hB : Lib.hasPrefix (⟨#[38, 108, 116, 59]⟩ : ByteArray).data.toList s.data.toList
        · rw [hB] at hp2
          have HN : Hid (namedF (nms.drop 2) s.data.toList = (x, y, z)) := by
            have h1 := hn.out
            show namedF (nms.drop 2) s.data.toList = (x, y, z)
            rw [← h1]
            exact ((if_neg (Bool.eq_false_iff.1 hA)).trans (if_neg (Bool.eq_false_iff.1 hB))).symm
          clear hn hA hB hpre
          go_wp2_with fail
          refine hp1.mono ?_
          rintro e w2 ⟨rfl, rfl⟩
          go_wp2_with fail
          refine hp2.mono ?_
          rintro e w3 ⟨rfl, rfl⟩
          go_wp2
          go_roundw
          case rel => exact ⟨2, rfl, by omega, HN, HB2⟩
          case measure => simp [intOf]
        · rw [hB] at hp2
          have hf : (x, y, z) = ((0 : Int), (0 : Int), (4 : Int)) := by
            rw [← hn.out]
            exact (if_neg (Bool.eq_false_iff.1 hA)).trans (if_pos hB)
          simp only [Prod.mk.injEq] at hf
          obtain ⟨e1, e2, e3⟩ := hf
          clear hn hA hB hpre
          go_wp2_with fail
          refine hp1.mono ?_
          rintro e w2 ⟨rfl, rfl⟩
          go_wp2_with fail
          refine hp2.mono ?_
          rintro e w3 ⟨rfl, rfl⟩
          go_wp2
          go_ret3
          first | exact ⟨congrArg _ (v_three e1.symm e2.symm e3.symm), HB2.out⟩ | exact ⟨rfl, HB2.out⟩
      · have hp1 := hpre s ⟨#[38, 108, 116, 59]⟩ (wr.alloc (.cells #[.string ⟨#[38, 108, 116, 59]⟩, .int .i64 60] 160))
        rw [hA] at hp1
        have hf : (x, y, z) = ((60 : Int), (4 : Int), (0 : Int)) := by
          rw [← hn.out]
          exact if_pos hA
        simp only [Prod.mk.injEq] at hf
        obtain ⟨e1, e2, e3⟩ := hf
        clear hn hA hpre
        go_wp2_with fail
        refine hp1.mono ?_
        rintro e w2 ⟨rfl, rfl⟩
        go_wp2
        go_region
        go_wp2
        go_ret3
        first | exact ⟨congrArg _ (v_three e1.symm e2.symm e3.symm), HB2.out.drew⟩ | exact ⟨rfl, HB2.out.drew⟩
    · have hidx := idx2 wr
      have HB2 : Hid (Below w.heap.size w (wr.alloc (.cells #[.string ⟨#[38, 103, 116, 59]⟩, .int .i64 62] 160))) := hbw.out.alloc hws _
      cases hA : Lib.hasPrefix s.data.toList (⟨#[38, 103, 116, 59]⟩ : ByteArray).data.toList
      · have hp1 := hpre s ⟨#[38, 103, 116, 59]⟩ (wr.alloc (.cells #[.string ⟨#[38, 103, 116, 59]⟩, .int .i64 62] 160))
        have hp2 := hpre ⟨#[38, 103, 116, 59]⟩ s (wr.alloc (.cells #[.string ⟨#[38, 103, 116, 59]⟩, .int .i64 62] 160))
        rw [hA] at hp1
        cases hB : Lib.hasPrefix (⟨#[38, 103, 116, 59]⟩ : ByteArray).data.toList s.data.toList
        · rw [hB] at hp2
          have HN : Hid (namedF (nms.drop 3) s.data.toList = (x, y, z)) := by
            have h1 := hn.out
            show namedF (nms.drop 3) s.data.toList = (x, y, z)
            rw [← h1]
            exact ((if_neg (Bool.eq_false_iff.1 hA)).trans (if_neg (Bool.eq_false_iff.1 hB))).symm
          clear hn hA hB hpre
          go_wp2_with fail
          refine hp1.mono ?_
          rintro e w2 ⟨rfl, rfl⟩
          go_wp2_with fail
          refine hp2.mono ?_
          rintro e w3 ⟨rfl, rfl⟩
          go_wp2
          go_roundw
          case rel => exact ⟨3, rfl, by omega, HN, HB2⟩
          case measure => simp [intOf]
        · rw [hB] at hp2
          have hf : (x, y, z) = ((0 : Int), (0 : Int), (4 : Int)) := by
            rw [← hn.out]
            exact (if_neg (Bool.eq_false_iff.1 hA)).trans (if_pos hB)
          simp only [Prod.mk.injEq] at hf
          obtain ⟨e1, e2, e3⟩ := hf
          clear hn hA hB hpre
          go_wp2_with fail
          refine hp1.mono ?_
          rintro e w2 ⟨rfl, rfl⟩
          go_wp2_with fail
          refine hp2.mono ?_
          rintro e w3 ⟨rfl, rfl⟩
          go_wp2
          go_ret3
          first | exact ⟨congrArg _ (v_three e1.symm e2.symm e3.symm), HB2.out⟩ | exact ⟨rfl, HB2.out⟩
      · have hp1 := hpre s ⟨#[38, 103, 116, 59]⟩ (wr.alloc (.cells #[.string ⟨#[38, 103, 116, 59]⟩, .int .i64 62] 160))
        rw [hA] at hp1
        have hf : (x, y, z) = ((62 : Int), (4 : Int), (0 : Int)) := by
          rw [← hn.out]
          exact if_pos hA
        simp only [Prod.mk.injEq] at hf
        obtain ⟨e1, e2, e3⟩ := hf
        clear hn hA hpre
        go_wp2_with fail
        refine hp1.mono ?_
        rintro e w2 ⟨rfl, rfl⟩
        go_wp2
        go_region
        go_wp2
        go_ret3
        first | exact ⟨congrArg _ (v_three e1.symm e2.symm e3.symm), HB2.out.drew⟩ | exact ⟨rfl, HB2.out.drew⟩
    · have hidx := idx3 wr
      have HB2 : Hid (Below w.heap.size w (wr.alloc (.cells #[.string ⟨#[38, 113, 117, 111, 116, 59]⟩, .int .i64 34] 160))) := hbw.out.alloc hws _
      cases hA : Lib.hasPrefix s.data.toList (⟨#[38, 113, 117, 111, 116, 59]⟩ : ByteArray).data.toList
      · have hp1 := hpre s ⟨#[38, 113, 117, 111, 116, 59]⟩ (wr.alloc (.cells #[.string ⟨#[38, 113, 117, 111, 116, 59]⟩, .int .i64 34] 160))
        have hp2 := hpre ⟨#[38, 113, 117, 111, 116, 59]⟩ s (wr.alloc (.cells #[.string ⟨#[38, 113, 117, 111, 116, 59]⟩, .int .i64 34] 160))
        rw [hA] at hp1
        cases hB : Lib.hasPrefix (⟨#[38, 113, 117, 111, 116, 59]⟩ : ByteArray).data.toList s.data.toList
        · rw [hB] at hp2
          have HN : Hid (namedF (nms.drop 4) s.data.toList = (x, y, z)) := by
            have h1 := hn.out
            show namedF (nms.drop 4) s.data.toList = (x, y, z)
            rw [← h1]
            exact ((if_neg (Bool.eq_false_iff.1 hA)).trans (if_neg (Bool.eq_false_iff.1 hB))).symm
          clear hn hA hB hpre
          go_wp2_with fail
          refine hp1.mono ?_
          rintro e w2 ⟨rfl, rfl⟩
          go_wp2_with fail
          refine hp2.mono ?_
          rintro e w3 ⟨rfl, rfl⟩
          go_wp2
          go_roundw
          case rel => exact ⟨4, rfl, by omega, HN, HB2⟩
          case measure => simp [intOf]
        · rw [hB] at hp2
          have hf : (x, y, z) = ((0 : Int), (0 : Int), (4 : Int)) := by
            rw [← hn.out]
            exact (if_neg (Bool.eq_false_iff.1 hA)).trans (if_pos hB)
          simp only [Prod.mk.injEq] at hf
          obtain ⟨e1, e2, e3⟩ := hf
          clear hn hA hB hpre
          go_wp2_with fail
          refine hp1.mono ?_
          rintro e w2 ⟨rfl, rfl⟩
          go_wp2_with fail
          refine hp2.mono ?_
          rintro e w3 ⟨rfl, rfl⟩
          go_wp2
          go_ret3
          first | exact ⟨congrArg _ (v_three e1.symm e2.symm e3.symm), HB2.out⟩ | exact ⟨rfl, HB2.out⟩
      · have hp1 := hpre s ⟨#[38, 113, 117, 111, 116, 59]⟩ (wr.alloc (.cells #[.string ⟨#[38, 113, 117, 111, 116, 59]⟩, .int .i64 34] 160))
        rw [hA] at hp1
        have hf : (x, y, z) = ((34 : Int), (6 : Int), (0 : Int)) := by
          rw [← hn.out]
          exact if_pos hA
        simp only [Prod.mk.injEq] at hf
        obtain ⟨e1, e2, e3⟩ := hf
        clear hn hA hpre
        go_wp2_with fail
        refine hp1.mono ?_
        rintro e w2 ⟨rfl, rfl⟩
        go_wp2
        go_region
        go_wp2
        go_ret3
        first | exact ⟨congrArg _ (v_three e1.symm e2.symm e3.symm), HB2.out.drew⟩ | exact ⟨rfl, HB2.out.drew⟩
    · have hidx := idx4 wr
      have HB2 : Hid (Below w.heap.size w (wr.alloc (.cells #[.string ⟨#[38, 97, 112, 111, 115, 59]⟩, .int .i64 39] 160))) := hbw.out.alloc hws _
      cases hA : Lib.hasPrefix s.data.toList (⟨#[38, 97, 112, 111, 115, 59]⟩ : ByteArray).data.toList
      · have hp1 := hpre s ⟨#[38, 97, 112, 111, 115, 59]⟩ (wr.alloc (.cells #[.string ⟨#[38, 97, 112, 111, 115, 59]⟩, .int .i64 39] 160))
        have hp2 := hpre ⟨#[38, 97, 112, 111, 115, 59]⟩ s (wr.alloc (.cells #[.string ⟨#[38, 97, 112, 111, 115, 59]⟩, .int .i64 39] 160))
        rw [hA] at hp1
        cases hB : Lib.hasPrefix (⟨#[38, 97, 112, 111, 115, 59]⟩ : ByteArray).data.toList s.data.toList
        · rw [hB] at hp2
          have HN : Hid (namedF (nms.drop 5) s.data.toList = (x, y, z)) := by
            have h1 := hn.out
            show namedF (nms.drop 5) s.data.toList = (x, y, z)
            rw [← h1]
            exact ((if_neg (Bool.eq_false_iff.1 hA)).trans (if_neg (Bool.eq_false_iff.1 hB))).symm
          clear hn hA hB hpre
          go_wp2_with fail
          refine hp1.mono ?_
          rintro e w2 ⟨rfl, rfl⟩
          go_wp2_with fail
          refine hp2.mono ?_
          rintro e w3 ⟨rfl, rfl⟩
          go_wp2
          go_roundw
          case rel => exact ⟨5, rfl, by omega, HN, HB2⟩
          case measure => simp [intOf]
        · rw [hB] at hp2
          have hf : (x, y, z) = ((0 : Int), (0 : Int), (4 : Int)) := by
            rw [← hn.out]
            exact (if_neg (Bool.eq_false_iff.1 hA)).trans (if_pos hB)
          simp only [Prod.mk.injEq] at hf
          obtain ⟨e1, e2, e3⟩ := hf
          clear hn hA hB hpre
          go_wp2_with fail
          refine hp1.mono ?_
          rintro e w2 ⟨rfl, rfl⟩
          go_wp2_with fail
          refine hp2.mono ?_
          rintro e w3 ⟨rfl, rfl⟩
          go_wp2
          go_ret3
          first | exact ⟨congrArg _ (v_three e1.symm e2.symm e3.symm), HB2.out⟩ | exact ⟨rfl, HB2.out⟩
      · have hp1 := hpre s ⟨#[38, 97, 112, 111, 115, 59]⟩ (wr.alloc (.cells #[.string ⟨#[38, 97, 112, 111, 115, 59]⟩, .int .i64 39] 160))
        rw [hA] at hp1
        have hf : (x, y, z) = ((39 : Int), (6 : Int), (0 : Int)) := by
          rw [← hn.out]
          exact if_pos hA
        simp only [Prod.mk.injEq] at hf
        obtain ⟨e1, e2, e3⟩ := hf
        clear hn hA hpre
        go_wp2_with fail
        refine hp1.mono ?_
        rintro e w2 ⟨rfl, rfl⟩
        go_wp2
        go_region
        go_wp2
        go_ret3
        first | exact ⟨congrArg _ (v_three e1.symm e2.symm e3.symm), HB2.out.drew⟩ | exact ⟨rfl, HB2.out.drew⟩
    · have hf : (x, y, z) = ((0 : Int), (0 : Int), (20 : Int)) := by rw [← hn.out]; rfl
      simp only [Prod.mk.injEq] at hf
      obtain ⟨e1, e2, e3⟩ := hf
      clear hn hpre
      go_wp2
      go_ret3
      first | exact ⟨congrArg _ (v_three e1.symm e2.symm e3.symm), hbw.out⟩ | exact ⟨rfl, hbw.out⟩

end Go.Proofs.YtmifejkddgcbmabGreat

/- The program's reference and next. -/
namespace Go.Proofs.YtmifejkddgcbmabGreat
open Go.RowKit
set_option linter.unusedVariables false
set_option linter.unusedSimpArgs false

set_option maxRecDepth 100000 in
set_option maxHeartbeats 1000000 in
theorem reference_walk (w : World) (s : ByteArray) (hsz : s.size < 1152921504606846976) (x y z : Int) (hxyz : refP s.data.toList = (x, y, z)) :
    Calls Tryz.prog 145 #[.string s] w fun e w' => e = .returned (.tuple #[.int .i64 x, .int .i64 y, .int .i64 z]) ∧ Below w.heap.size w w' := by
  have hp1 := Tryz.strings_HasPrefix s ⟨#[38, 35, 120]⟩ w
  have hp2 := Tryz.strings_HasPrefix s ⟨#[38, 35]⟩ w
  unfold refP at hxyz
  cases hA : Lib.hasPrefix s.data.toList (⟨#[38, 35, 120]⟩ : ByteArray).data.toList
  · rw [hA] at hp1
    rw [if_neg (Bool.eq_false_iff.1 (show ([38, 35, 120] : List UInt8).isPrefixOf s.data.toList = false from hA))] at hxyz
    cases hB : Lib.hasPrefix s.data.toList (⟨#[38, 35]⟩ : ByteArray).data.toList
    · rw [hB] at hp2
      rw [if_neg (Bool.eq_false_iff.1 (show ([38, 35] : List UInt8).isPrefixOf s.data.toList = false from hB))] at hxyz
      have hnm := named_walk w s x y z hxyz
      clear hA hB hxyz
      go_enter Tryz.func145, Tryz.ntmps145
      go_wp2_with fail
      refine hp1.mono ?_
      rintro e w1 ⟨rfl, rfl⟩
      go_wp2_with fail
      refine hp2.mono ?_
      rintro e w2 ⟨rfl, rfl⟩
      go_wp2_with fail
      refine hnm.mono ?_
      rintro e w3 ⟨rfl, hb⟩
      go_wp2
      go_ret3
      exact ⟨rfl, hb⟩
    · rw [hB] at hp2
      rw [if_pos (show ([38, 35] : List UInt8).isPrefixOf s.data.toList = true from hB)] at hxyz
      have hl : 2 ≤ s.size := by
        have := isPre hB
        rw [size_list] at this
        exact this
      have hnm := numbered_walk w s 2 10 7 (by omega) hl hsz x y z hxyz
      clear hA hB hxyz
      go_enter Tryz.func145, Tryz.ntmps145
      go_wp2_with fail
      refine hp1.mono ?_
      rintro e w1 ⟨rfl, rfl⟩
      go_wp2_with fail
      refine hp2.mono ?_
      rintro e w2 ⟨rfl, rfl⟩
      go_wp2_with fail
      refine hnm.mono ?_
      rintro e w3 ⟨rfl, rfl⟩
      go_wp2
      go_ret3
      exact ⟨rfl, Below.refl _ _⟩
  · rw [hA] at hp1
    rw [if_pos (show ([38, 35, 120] : List UInt8).isPrefixOf s.data.toList = true from hA)] at hxyz
    have hl : 3 ≤ s.size := by
      have := isPre hA
      rw [size_list] at this
      exact this
    have hnm := numbered_walk w s 3 16 6 (by omega) hl hsz x y z hxyz
    clear hA hxyz hp2
    go_enter Tryz.func145, Tryz.ntmps145
    go_wp2_with fail
    refine hp1.mono ?_
    rintro e w1 ⟨rfl, rfl⟩
    go_wp2_with fail
    refine hnm.mono ?_
    rintro e w3 ⟨rfl, rfl⟩
    go_wp2
    go_ret3
    exact ⟨rfl, Below.refl _ _⟩

set_option maxRecDepth 100000 in
set_option maxHeartbeats 1000000 in
theorem next_char (w : World) (s : ByteArray) (h0 : 0 < s.size) (hc : (s[0]'h0).toNat ≠ 38) :
    Calls Tryz.prog 129 #[.string s] w fun e w' => e = .returned (.tuple #[.int .i64 (fans s.data.toList).1, .int .i64 (fans s.data.toList).2.1, .int .i64 (fans s.data.toList).2.2]) ∧ Below w.heap.size w w' := by
  have hf := first_any w s
  have hne : (((s[0]'h0).toNat : Int) != 38) = true := bne_iff_ne.2 (by omega)
  generalize fans s.data.toList = p at *
  clear hc
  go_enter Tryz.func129, Tryz.ntmps129
  go_wp2_with fail
  refine hf.mono ?_
  rintro e w1 ⟨rfl, hb⟩
  go_wp2
  go_ret3
  exact ⟨rfl, hb⟩

set_option maxRecDepth 100000 in
set_option maxHeartbeats 1000000 in
theorem next_ref (w : World) (s : ByteArray) (h0 : 0 < s.size) (hsz : s.size < 1152921504606846976) (hc : (s[0]'h0).toNat = 38) (x y z : Int) (hr : refP s.data.toList = (x, y, z)) (x' y' z' : Int) (hr' : chkC (x, y, z) = (x', y', z')) :
    Calls Tryz.prog 129 #[.string s] w fun e w' => e = .returned (.tuple #[.int .i64 x', .int .i64 y', .int .i64 z']) ∧ Below w.heap.size w w' := by
  have hrf := reference_walk w s hsz x y z hr
  have hch := fun W => char_any W x
  have hne : (((s[0]'h0).toNat : Int) != 38) = false := by rw [hc]; rfl
  clear hc hr
  by_cases hz : z = 0
  · subst hz
    cases hcb : charB x
    · rw [chkC, if_pos ⟨rfl, hcb⟩] at hr'
      simp only [Prod.mk.injEq] at hr'
      obtain ⟨e1, e2, e3⟩ := hr'
      simp only [hcb] at hch
      clear hcb
      have e1' := e1.symm
      have e2' := e2.symm
      have e3' := e3.symm
      clear e1 e2 e3
      go_enter Tryz.func129, Tryz.ntmps129
      go_wp2_with fail
      refine hrf.mono ?_
      rintro e w1 ⟨rfl, hb⟩
      go_wp2_with fail
      refine (hch w1).mono ?_
      rintro e w2 ⟨rfl, rfl⟩
      go_wp2
      go_ret3
      first | exact ⟨congrArg _ (v_three e1'.symm e2'.symm e3'.symm), hb⟩ | exact ⟨rfl, hb⟩
    · rw [chkC, if_neg (by simp [hcb])] at hr'
      simp only [Prod.mk.injEq] at hr'
      obtain ⟨rfl, rfl, rfl⟩ := hr'
      simp only [hcb] at hch
      clear hcb
      go_enter Tryz.func129, Tryz.ntmps129
      go_wp2_with fail
      refine hrf.mono ?_
      rintro e w1 ⟨rfl, hb⟩
      go_wp2_with fail
      refine (hch w1).mono ?_
      rintro e w2 ⟨rfl, rfl⟩
      go_wp2
      go_ret3
      exact ⟨rfl, hb⟩
  · rw [chkC, if_neg (by simp [hz])] at hr'
    simp only [Prod.mk.injEq] at hr'
    obtain ⟨rfl, rfl, rfl⟩ := hr'
    have hz' : (z == 0) = false := beq_eq_false_iff_ne.2 hz
    go_enter Tryz.func129, Tryz.ntmps129
    go_wp2_with fail
    refine hrf.mono ?_
    rintro e w1 ⟨rfl, hb⟩
    go_wp2
    go_ret3
    exact ⟨rfl, hb⟩

theorem next_any (w : World) (s : ByteArray) (h0 : 0 < s.size) (hsz : s.size < 1152921504606846976) :
    Calls Tryz.prog 129 #[.string s] w fun e w' => e = .returned (.tuple #[.int .i64 (nextP s.data.toList).1, .int .i64 (nextP s.data.toList).2.1, .int .i64 (nextP s.data.toList).2.2]) ∧ Below w.heap.size w w' := by
  have hd := drop_get h0
  rw [List.drop_zero] at hd
  by_cases hc : (s[0]'h0).toNat = 38
  · have e : nextP s.data.toList = chkC (refP s.data.toList) := by
      rw [hd]
      simp [nextP, hc]
    rw [e]
    exact next_ref w s h0 hsz hc _ _ _ rfl _ _ _ rfl
  · have e : nextP s.data.toList = fans s.data.toList := by
      rw [hd]
      simp [nextP, hc]
    rw [e]
    exact next_char w s h0 hc

end Go.Proofs.YtmifejkddgcbmabGreat

/- A row of bytes of the call's own, as a text. -/
namespace Go.Proofs.YtmifejkddgcbmabGreat
open Go.RowKit
set_option linter.unusedVariables false
set_option linter.unusedSimpArgs false

theorem owns_below {w w' : World} {base : Nat} {e : TypeId} {size : Nat} {v : Value} {n : Nat} {xs : List Value} (h : w.ownsRow base e size v n xs) (hb : Below w.heap.size w w') : w'.ownsRow base e size v n xs := by
  refine ⟨h.1, ?_⟩
  rcases h.2 with h1 | ⟨g, cap, cur, hv, hg, hh, rest⟩
  · exact Or.inl h1
  · exact Or.inr ⟨g, cap, cur, hv, hg, by rw [hb.block g (Array.getElem?_eq_some_iff.1 hh).1]; exact hh, rest⟩

theorem owns_slice {w : World} {base : Nat} {e : TypeId} {v : Value} {n : Nat} {xs : List Value} (h : w.ownsRow base e 1 v n xs) : ∃ a cap, v = .slice a n cap := by
  rcases h.2 with ⟨h1, h2⟩ | ⟨g, cap, cur, hv, _⟩
  · exact ⟨none, 0, by rw [h1, h2]⟩
  · exact ⟨_, _, hv⟩

theorem info9 : (Tryz.prog.info? 9).map (fun i => (i.zero, i.size, i.bytes)) = some (some (.string ⟨#[]⟩), 1, 16) := by kernel_rfl
theorem info5 : (Tryz.prog.info? 5).map (fun i => (i.zero, i.size, i.bytes)) = some (some (.int .u8 0), 1, 1) := by kernel_rfl

/-- A row of bytes of the call's own, as a text. -/
theorem conv_own {w : World} {B n : Nat} {v : Value} {l : List UInt8} (h : w.ownsRow B 5 1 v n (Lib.byteCells l)) : (convert 47 9 v).run Tryz.prog w = .ok (.string ⟨l.toArray⟩) w := by
  have hn : n = l.length := by
    have := h.1
    rw [Lib.byteCells_length] at this
    omega
  rcases h.2 with ⟨rfl, h0⟩ | ⟨g, cap, cur, rfl, hg, hh, hrest⟩
  · have : l = [] := List.length_eq_zero_iff.1 (by omega)
    subst this
    exact run_convert_bytes_nil w 47 5 Tryz.underlying47 Tryz.underlying5 0 0 9 Tryz.underlying9
  · subst hn
    refine run_convert_bytes_back w 47 9 5 ⟨g, 0, none⟩ cap l Tryz.underlying47 Tryz.underlying5 Tryz.underlying9 ?_
    intro j hj
    refine h.cells (g := g) rfl j _ ?_
    simp [Lib.byteCells, hj]

theorem v_str {a b : ByteArray} (h : a = b) : Value.string a = .string b := by rw [h]
theorem tans_ok {l : List UInt8} (h : (tans l).2 = 0) : l.length ≤ 16384 ∧ l = bytes (scan l).1 ∧ (∀ r ∈ (scan l).1, Ch r) := by
  unfold tans at h
  split at h
  · simp at h
  · rename_i h1
    unfold bans at h
    split at h
    · rename_i h2
      have h3 := scan_spec l
      refine ⟨by omega, ?_, h3.2.1⟩
      rw [h2, List.append_nil] at h3
      exact h3.1
    · simp at h
end Go.Proofs.YtmifejkddgcbmabGreat
