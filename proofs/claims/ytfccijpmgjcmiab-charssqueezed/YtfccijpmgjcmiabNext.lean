/- The program's reference and next. -/
import Derived.Test.YtfccijpmgjcmiabNamed
namespace Go.Proofs.Ytfccijpmgjcmiab
open Go.RowKit
set_option linter.unusedVariables false

set_option maxRecDepth 100000 in
set_option maxHeartbeats 1000000 in
theorem reference_walk (w : World) (s : ByteArray) (hsz : s.size < 1152921504606846976) (x y z : Int) (hxyz : refP s.data.toList = (x, y, z)) :
    Calls Try.prog 24 #[.string s] w fun e w' => e = .returned (.tuple #[.int .i64 x, .int .i64 y, .int .i64 z]) ∧ Below w.heap.size w w' := by
  have hp1 := Try.strings_HasPrefix s ⟨#[38, 35, 120]⟩ w
  have hp2 := Try.strings_HasPrefix s ⟨#[38, 35]⟩ w
  unfold refP at hxyz
  cases hA : Lib.hasPrefix s.data.toList (⟨#[38, 35, 120]⟩ : ByteArray).data.toList
  · rw [hA] at hp1
    rw [if_neg (Bool.eq_false_iff.1 (show ([38, 35, 120] : List UInt8).isPrefixOf s.data.toList = false from hA))] at hxyz
    cases hB : Lib.hasPrefix s.data.toList (⟨#[38, 35]⟩ : ByteArray).data.toList
    · rw [hB] at hp2
      rw [if_neg (Bool.eq_false_iff.1 (show ([38, 35] : List UInt8).isPrefixOf s.data.toList = false from hB))] at hxyz
      have hnm := named_walk w s x y z hxyz
      clear hA hB hxyz
      go_enter Try.func24, Try.ntmps24
      go_wp2_with fail
      refine hp1.mono ?_
      rintro e w1 ⟨rfl, rfl⟩
      go_wp2_with fail
      refine hp2.mono ?_
      rintro e w2 ⟨rfl, rfl⟩
      go_wp2_with fail
      refine hnm.mono ?_
      rintro e w3 ⟨rfl, hb⟩
      go_wp2
      go_ret3
      exact ⟨rfl, hb⟩
    · rw [hB] at hp2
      rw [if_pos (show ([38, 35] : List UInt8).isPrefixOf s.data.toList = true from hB)] at hxyz
      have hl : 2 ≤ s.size := by
        have := isPre hB
        rw [size_list] at this
        exact this
      have hnm := numbered_walk w s 2 10 7 (by omega) hl hsz x y z hxyz
      clear hA hB hxyz
      go_enter Try.func24, Try.ntmps24
      go_wp2_with fail
      refine hp1.mono ?_
      rintro e w1 ⟨rfl, rfl⟩
      go_wp2_with fail
      refine hp2.mono ?_
      rintro e w2 ⟨rfl, rfl⟩
      go_wp2_with fail
      refine hnm.mono ?_
      rintro e w3 ⟨rfl, rfl⟩
      go_wp2
      go_ret3
      exact ⟨rfl, Below.refl _ _⟩
  · rw [hA] at hp1
    rw [if_pos (show ([38, 35, 120] : List UInt8).isPrefixOf s.data.toList = true from hA)] at hxyz
    have hl : 3 ≤ s.size := by
      have := isPre hA
      rw [size_list] at this
      exact this
    have hnm := numbered_walk w s 3 16 6 (by omega) hl hsz x y z hxyz
    clear hA hxyz hp2
    go_enter Try.func24, Try.ntmps24
    go_wp2_with fail
    refine hp1.mono ?_
    rintro e w1 ⟨rfl, rfl⟩
    go_wp2_with fail
    refine hnm.mono ?_
    rintro e w3 ⟨rfl, rfl⟩
    go_wp2
    go_ret3
    exact ⟨rfl, Below.refl _ _⟩

set_option maxRecDepth 100000 in
set_option maxHeartbeats 1000000 in
theorem next_char (w : World) (s : ByteArray) (h0 : 0 < s.size) (hc : (s[0]'h0).toNat ≠ 38) :
    Calls Try.prog 21 #[.string s] w fun e w' => e = .returned (.tuple #[.int .i64 (fans s.data.toList).1, .int .i64 (fans s.data.toList).2.1, .int .i64 (fans s.data.toList).2.2]) ∧ Below w.heap.size w w' := by
  have hf := first_any w s
  have hne : (((s[0]'h0).toNat : Int) != 38) = true := bne_iff_ne.2 (by omega)
  generalize fans s.data.toList = p at *
  clear hc
  go_enter Try.func21, Try.ntmps21
  go_wp2_with fail
  refine hf.mono ?_
  rintro e w1 ⟨rfl, hb⟩
  go_wp2
  go_ret3
  exact ⟨rfl, hb⟩

set_option maxRecDepth 100000 in
set_option maxHeartbeats 1000000 in
theorem next_ref (w : World) (s : ByteArray) (h0 : 0 < s.size) (hsz : s.size < 1152921504606846976) (hc : (s[0]'h0).toNat = 38) (x y z : Int) (hr : refP s.data.toList = (x, y, z)) (x' y' z' : Int) (hr' : chk (x, y, z) = (x', y', z')) :
    Calls Try.prog 21 #[.string s] w fun e w' => e = .returned (.tuple #[.int .i64 x', .int .i64 y', .int .i64 z']) ∧ Below w.heap.size w w' := by
  have hrf := reference_walk w s hsz x y z hr
  have hch := fun W => char_any W x
  have hne : (((s[0]'h0).toNat : Int) != 38) = false := by rw [hc]; rfl
  clear hc hr
  by_cases hz : z = 0
  · subst hz
    cases hcb : charB x
    · rw [chk, if_pos ⟨rfl, hcb⟩] at hr'
      simp only [Prod.mk.injEq] at hr'
      obtain ⟨e1, e2, e3⟩ := hr'
      simp only [hcb] at hch
      clear hcb
      have e1' := e1.symm
      have e2' := e2.symm
      have e3' := e3.symm
      clear e1 e2 e3
      go_enter Try.func21, Try.ntmps21
      go_wp2_with fail
      refine hrf.mono ?_
      rintro e w1 ⟨rfl, hb⟩
      go_wp2_with fail
      refine (hch w1).mono ?_
      rintro e w2 ⟨rfl, rfl⟩
      go_wp2
      go_ret3
      first | exact ⟨congrArg _ (v_three e1'.symm e2'.symm e3'.symm), hb⟩ | exact ⟨rfl, hb⟩
    · rw [chk, if_neg (by simp [hcb])] at hr'
      simp only [Prod.mk.injEq] at hr'
      obtain ⟨rfl, rfl, rfl⟩ := hr'
      simp only [hcb] at hch
      clear hcb
      go_enter Try.func21, Try.ntmps21
      go_wp2_with fail
      refine hrf.mono ?_
      rintro e w1 ⟨rfl, hb⟩
      go_wp2_with fail
      refine (hch w1).mono ?_
      rintro e w2 ⟨rfl, rfl⟩
      go_wp2
      go_ret3
      exact ⟨rfl, hb⟩
  · rw [chk, if_neg (by simp [hz])] at hr'
    simp only [Prod.mk.injEq] at hr'
    obtain ⟨rfl, rfl, rfl⟩ := hr'
    have hz' : (z == 0) = false := beq_eq_false_iff_ne.2 hz
    go_enter Try.func21, Try.ntmps21
    go_wp2_with fail
    refine hrf.mono ?_
    rintro e w1 ⟨rfl, hb⟩
    go_wp2
    go_ret3
    exact ⟨rfl, hb⟩

theorem next_any (w : World) (s : ByteArray) (h0 : 0 < s.size) (hsz : s.size < 1152921504606846976) :
    Calls Try.prog 21 #[.string s] w fun e w' => e = .returned (.tuple #[.int .i64 (nextP s.data.toList).1, .int .i64 (nextP s.data.toList).2.1, .int .i64 (nextP s.data.toList).2.2]) ∧ Below w.heap.size w w' := by
  have hd := drop_get h0
  rw [List.drop_zero] at hd
  by_cases hc : (s[0]'h0).toNat = 38
  · have e : nextP s.data.toList = chk (refP s.data.toList) := by
      rw [hd]
      simp [nextP, hc]
    rw [e]
    exact next_ref w s h0 hsz hc _ _ _ rfl _ _ _ rfl
  · have e : nextP s.data.toList = fans s.data.toList := by
      rw [hd]
      simp [nextP, hc]
    rw [e]
    exact next_char w s h0 hc

end Go.Proofs.Ytfccijpmgjcmiab
