/- CharsSqueezed's walk. -/
import Derived.Test.YtfccijpmgjcmiabSqm
namespace Go.Proofs.Ytfccijpmgjcmiab
open Go.RowKit
set_option linter.unusedVariables false

theorem cat_list (a b : ByteArray) : (a ++ b).data.toList = a.data.toList ++ b.data.toList := by
  rw [ByteArray.data_append, Array.toList_append]

set_option maxRecDepth 100000 in
set_option maxHeartbeats 2000000 in
theorem squeezed_bad (w : World) (s : ByteArray) (h : (tans s.data.toList).2 ≠ 0) :
    Calls Try.prog 3 #[.string s] w fun e w' => e = .returned (.bool true) ∧ Below w.heap.size w w' := by
  have h1 := lives_any w
  have h2 := fun W => squeeze_any W s
  have he : sans s.data.toList = ([], (tans s.data.toList).2) := by rw [sans, if_neg h]
  rw [he] at h2
  generalize (tans s.data.toList).2 = p at *
  have hp : (p != 0) = true := bne_iff_ne.2 h
  clear he h
  go_enter Try.func3, Try.ntmps3
  go_wp2_with fail
  refine h1.mono ?_
  rintro e w1 ⟨rfl, k1⟩
  go_wp2_with fail
  refine (h2 w1).mono ?_
  rintro e w2 ⟨rfl, k2⟩
  go_wp2
  go_ret
  exact ⟨rfl, k1.trans (k2.mono k1.size)⟩

set_option maxRecDepth 100000 in
set_option maxHeartbeats 8000000 in
theorem squeezed_walk (w : World) (s X : ByteArray) (hsz : s.size < 1152921504606846976) (hX16 : X.size ≤ 16384) (hq : Sqd X.data.toList) (B : Bool)
    (h2 : ∀ W : World, Calls Try.prog 5 #[.string s] W fun e w' => e = .returned (.tuple #[.string X, .int .i64 0]) ∧ Below W.heap.size W w')
    (h3 : ∀ W : World, Calls Try.prog 5 #[.string X] W fun e w' => e = .returned (.tuple #[.string X, .int .i64 0]) ∧ Below W.heap.size W w')
    (Z : ByteArray) (z : Int) (h4 : ∀ W : World, Calls Try.prog 5 #[.string ((⟨#[32]⟩ : ByteArray) ++ X ++ (⟨#[10]⟩ : ByteArray))] W fun e w' => e = .returned (.tuple #[.string Z, .int .i64 z]) ∧ Below W.heap.size W w')
    (hz : X.size + 2 ≤ 16384 → z = 0 ∧ Z = X)
    (h5 : ∀ W : World, Calls Try.prog 6 #[.string s] W fun e w' => e = .returned (.bool B) ∧ Below W.heap.size W w')
    (hB : X.toList.isEmpty = B) :
    Calls Try.prog 3 #[.string s] w fun e w' => e = .returned (.bool true) ∧ Below w.heap.size w w' := by
  have h1 := lives_any w
  have HQ : Hid (Sqd X.data.toList) := hq
  have hl := size_list X
  have HST : Hid (∀ W W' : World, Hid (Below w.heap.size w W) → Below W.heap.size W W' → Hid (Below w.heap.size w W')) := fun W W' h k => h.out.trans (k.mono h.out.size)
  have s1 : (⟨#[32]⟩ : ByteArray).size = 1 := rfl
  have s2 : (⟨#[10]⟩ : ByteArray).size = 1 := rfl
  have s3 : ((⟨#[32]⟩ : ByteArray) ++ X).size = X.size + 1 := by rw [ByteArray.size_append, s1]; omega
  have HL : Hid (∀ W : World, Hid (Below w.heap.size w W) → True) := fun _ _ => trivial
  generalize hC1 : (⟨#[32]⟩ : ByteArray) ++ X = C1 at *
  generalize hC2 : C1 ++ (⟨#[10]⟩ : ByteArray) = C2 at *
  clear hq HL
  have hloop : X.size + 2 ≤ 16384 ∨ 16384 < X.size + 2 := by omega
  have HZ : Hid (X.size + 2 ≤ 16384 → z = 0 ∧ Z = X) := hz
  clear hz
  by_cases hlen : X.size + 2 ≤ 16384
  · obtain ⟨rfl, rfl⟩ := HZ.out hlen
    clear hloop
    have hi1 : (Z.size : Int) + 2 ≤ 16384 := by omega
    go_enter Try.func3, Try.ntmps3
    go_wp2_with fail
    refine h1.mono ?_
    rintro e w1 ⟨rfl, k1⟩
    have K1 : Hid (Below w.heap.size w w1) := k1
    clear k1
    go_wp2_with fail
    refine (h2 w1).mono ?_
    rintro e w2 ⟨rfl, k2⟩
    have K2 := HST.out _ _ K1 k2
    clear k2 K1
    go_wp2_with fail
    refine (h3 w2).mono ?_
    rintro e w3 ⟨rfl, k3⟩
    have K3 := HST.out _ _ K2 k3
    clear k3 K2
    go_wp2_with fail
    refine (h4 w3).mono ?_
    rintro e w4 ⟨rfl, k4⟩
    have K4 := HST.out _ _ K3 k4
    clear k4 K3 h1 h2 h3 h4
    have h5' := h5 w4
    clear h5
    go_wp2
    go_loop [9] (fun v => ∃ i : Nat, v = .int .i64 (i : Int) ∧ i ≤ Z.size) (fun v => Z.size - (intOf v).toNat)
    case atStart => exact ⟨0, rfl, by omega⟩
    case round =>
      obtain ⟨i, rfl, hi⟩ := hrel
      by_cases hlt : i < Z.size
      · obtain ⟨g1, g2⟩ := get_list hlt
        obtain ⟨⟨n1, n2, n3⟩, n4⟩ := HQ.out i (by omega)
        rw [g2] at n1 n2 n3 n4
        have HN4 : Hid ((Z[i]'hlt).toNat = 32 → 0 < i ∧ ∃ h : i + 1 < Z.size, (Z[i + 1]'h).toNat ≠ 32) := by
          intro h32
          obtain ⟨m1, m2, m3⟩ := n4 h32
          have hin : i + 1 < Z.size := by omega
          obtain ⟨q1, q2⟩ := get_list hin
          exact ⟨m1, hin, by rw [← q2]; exact m3⟩
        have b1 : (((Z[i]'hlt).toNat : Int) == 9) = false := beq_eq_false_iff_ne.2 (by omega)
        have b2 : (((Z[i]'hlt).toNat : Int) == 10) = false := beq_eq_false_iff_ne.2 (by omega)
        have b3 : (((Z[i]'hlt).toNat : Int) == 13) = false := beq_eq_false_iff_ne.2 (by omega)
        clear n1 n2 n3 n4 g2
        by_cases h32 : (Z[i]'hlt).toNat = 32
        · obtain ⟨m1, m2, m3⟩ := HN4.out h32
          have b4 : (((Z[i]'hlt).toNat : Int) == 32) = true := beq_iff_eq.2 (by omega)
          have b5 : ((i : Int) == 0) = false := beq_eq_false_iff_ne.2 (by omega)
          have b6 : ((i : Int) == (Z.size : Int) - 1) = false := beq_eq_false_iff_ne.2 (by omega)
          have b7 : (((Z[i + 1]'m2).toNat : Int) == 32) = false := beq_eq_false_iff_ne.2 (by omega)
          clear h32 m3 HN4
          go_wp2
          go_round
          case rel => exact ⟨i + 1, by go_num, by omega⟩
          case measure => simp [intOf]; omega
        · have b4 : (((Z[i]'hlt).toNat : Int) == 32) = false := beq_eq_false_iff_ne.2 (by omega)
          clear h32 HN4
          go_wp2
          go_round
          case rel => exact ⟨i + 1, by go_num, by omega⟩
          case measure => simp [intOf]; omega
      · go_wp2_with fail
        refine h5'.mono ?_
        rintro e w5 ⟨rfl, k5⟩
        have K5 := HST.out _ _ K4 k5
        clear k5 K4
        go_wp2
        go_ret
        exact ⟨rfl, K5.out⟩
  · have hi1 : 16384 < (X.size : Int) + 2 := by omega
    clear hloop HZ hlen
    go_enter Try.func3, Try.ntmps3
    go_wp2_with fail
    refine h1.mono ?_
    rintro e w1 ⟨rfl, k1⟩
    have K1 : Hid (Below w.heap.size w w1) := k1
    clear k1
    go_wp2_with fail
    refine (h2 w1).mono ?_
    rintro e w2 ⟨rfl, k2⟩
    have K2 := HST.out _ _ K1 k2
    clear k2 K1
    go_wp2_with fail
    refine (h3 w2).mono ?_
    rintro e w3 ⟨rfl, k3⟩
    have K3 := HST.out _ _ K2 k3
    clear k3 K2
    go_wp2_with fail
    refine (h4 w3).mono ?_
    rintro e w4 ⟨rfl, k4⟩
    have K4 := HST.out _ _ K3 k4
    clear k4 K3 h1 h2 h3 h4
    have h5' := h5 w4
    clear h5
    go_wp2
    go_loop [9] (fun v => ∃ i : Nat, v = .int .i64 (i : Int) ∧ i ≤ X.size) (fun v => X.size - (intOf v).toNat)
    case atStart => exact ⟨0, rfl, by omega⟩
    case round =>
      obtain ⟨i, rfl, hi⟩ := hrel
      by_cases hlt : i < X.size
      · obtain ⟨g1, g2⟩ := get_list hlt
        obtain ⟨⟨n1, n2, n3⟩, n4⟩ := HQ.out i (by omega)
        rw [g2] at n1 n2 n3 n4
        have HN4 : Hid ((X[i]'hlt).toNat = 32 → 0 < i ∧ ∃ h : i + 1 < X.size, (X[i + 1]'h).toNat ≠ 32) := by
          intro h32
          obtain ⟨m1, m2, m3⟩ := n4 h32
          have hin : i + 1 < X.size := by omega
          obtain ⟨q1, q2⟩ := get_list hin
          exact ⟨m1, hin, by rw [← q2]; exact m3⟩
        have b1 : (((X[i]'hlt).toNat : Int) == 9) = false := beq_eq_false_iff_ne.2 (by omega)
        have b2 : (((X[i]'hlt).toNat : Int) == 10) = false := beq_eq_false_iff_ne.2 (by omega)
        have b3 : (((X[i]'hlt).toNat : Int) == 13) = false := beq_eq_false_iff_ne.2 (by omega)
        clear n1 n2 n3 n4 g2
        by_cases h32 : (X[i]'hlt).toNat = 32
        · obtain ⟨m1, m2, m3⟩ := HN4.out h32
          have b4 : (((X[i]'hlt).toNat : Int) == 32) = true := beq_iff_eq.2 (by omega)
          have b5 : ((i : Int) == 0) = false := beq_eq_false_iff_ne.2 (by omega)
          have b6 : ((i : Int) == (X.size : Int) - 1) = false := beq_eq_false_iff_ne.2 (by omega)
          have b7 : (((X[i + 1]'m2).toNat : Int) == 32) = false := beq_eq_false_iff_ne.2 (by omega)
          clear h32 m3 HN4
          go_wp2
          go_round
          case rel => exact ⟨i + 1, by go_num, by omega⟩
          case measure => simp [intOf]; omega
        · have b4 : (((X[i]'hlt).toNat : Int) == 32) = false := beq_eq_false_iff_ne.2 (by omega)
          clear h32 HN4
          go_wp2
          go_round
          case rel => exact ⟨i + 1, by go_num, by omega⟩
          case measure => simp [intOf]; omega
      · go_wp2_with fail
        refine h5'.mono ?_
        rintro e w5 ⟨rfl, k5⟩
        have K5 := HST.out _ _ K4 k5
        clear k5 K4
        go_wp2
        go_ret
        exact ⟨rfl, K5.out⟩

theorem squeezed_any (w : World) (s : ByteArray) (hsz : s.size < 1152921504606846976) :
    Calls Try.prog 3 #[.string s] w fun e w' => e = .returned (.bool true) ∧ Below w.heap.size w w' := by
  by_cases h : (tans s.data.toList).2 = 0
  · have hls := (tans_ok h).1
    obtain ⟨g1, g2, g3⟩ := sq_good s.data.toList
    obtain ⟨k1, k2⟩ := sans_ok h
    have hd : (⟨(sq s.data.toList).1.toArray⟩ : ByteArray).data.toList = (sq s.data.toList).1 := rfl
    have hXs := size_list (⟨(sq s.data.toList).1.toArray⟩ : ByteArray)
    rw [hd] at hXs
    have hcat : ((⟨#[32]⟩ : ByteArray) ++ (⟨(sq s.data.toList).1.toArray⟩ : ByteArray) ++ (⟨#[10]⟩ : ByteArray)).data.toList = [32] ++ (sq s.data.toList).1 ++ [10] := by
      rw [cat_list, cat_list]
    refine squeezed_walk w s ⟨(sq s.data.toList).1.toArray⟩ hsz (by omega) (by rw [hd]; exact g1) (blankL s.data.toList) (fun W => ?_) (fun W => ?_) _ _ (fun W => squeeze_any W _) ?_ (fun W => blankl_any W s hsz) ?_
    · have := squeeze_any W s
      rw [sans, if_pos h] at this
      exact this
    · have := squeeze_any W ⟨(sq s.data.toList).1.toArray⟩
      rw [hd, k1] at this
      exact this
    · intro hlen
      rw [hcat, k2 (by omega)]
      exact ⟨rfl, rfl⟩
    · rw [Lib.toList_data, hd, Bool.eq_iff_iff, List.isEmpty_iff]
      exact g3
  · exact squeezed_bad w s h

end Go.Proofs.Ytfccijpmgjcmiab
