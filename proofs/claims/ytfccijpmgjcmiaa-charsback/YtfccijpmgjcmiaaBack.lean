/- CharsBack's walk. -/
import Derived.Test.YtfccijpmgjcmiaaBackm
namespace Go.Proofs.Ytfccijpmgjcmiaa
open Go.RowKit
set_option linter.unusedVariables false

set_option maxRecDepth 100000 in
set_option maxHeartbeats 2000000 in
theorem back_bad (w : World) (s : ByteArray) (q : Bool) (h : (tans s.data.toList).2 ≠ 0) :
    Calls Try.prog 6 #[.string s, .bool q] w fun e w' => e = .returned (.bool true) ∧ Below w.heap.size w w' := by
  have h1 := lives_any w
  have h2 := fun W => escape_any W s q
  have h3 := fun W => text_any W s
  have he : eans q s.data.toList = ([], (tans s.data.toList).1, (tans s.data.toList).2) := by rw [eans, if_neg h]
  rw [he] at h2
  generalize tans s.data.toList = p at *
  obtain ⟨p1, p2⟩ := p
  simp only at h2 h3
  have hp2 : (p2 != 0) = true := bne_iff_ne.2 h
  have HST : Hid (∀ W W' : World, Hid (Below w.heap.size w W) → Below W.heap.size W W' → Hid (Below w.heap.size w W')) := fun W W' h k => h.out.trans (k.mono h.out.size)
  clear he h
  go_enter Try.func6, Try.ntmps6
  go_wp2_with fail
  refine h1.mono ?_
  rintro e w1 ⟨rfl, k1⟩
  have K1 : Hid (Below w.heap.size w w1) := k1
  clear k1
  go_wp2_with fail
  refine (h2 w1).mono ?_
  rintro e w2 ⟨rfl, k2⟩
  have K2 := HST.out _ _ K1 k2
  clear k2 K1
  go_wp2_with fail
  refine (h3 w2).mono ?_
  rintro e w3 ⟨rfl, k3⟩
  have K3 := HST.out _ _ K2 k3
  clear k3 K2
  go_wp2
  go_ret
  exact ⟨rfl, K3.out⟩

set_option maxRecDepth 100000 in
set_option maxHeartbeats 4000000 in
theorem back_walk (w : World) (s : ByteArray) (q : Bool) (h : (tans s.data.toList).2 = 0) :
    Calls Try.prog 6 #[.string s, .bool q] w fun e w' => e = .returned (.bool true) ∧ Below w.heap.size w w' := by
  have h1 := lives_any w
  have h2 := fun W => escape_any W s q
  have h3 := fun W => text_any W s
  have he : eans q s.data.toList = (escL q s.data.toList, 0, 0) := by rw [eans, if_pos h]
  rw [he] at h2
  rw [h] at h3
  have hsz : s.size ≤ 16384 := by
    have := (tans_ok h).1
    rw [size_list] at this
    exact this
  have hxs : (⟨(escL q s.data.toList).toArray⟩ : ByteArray).size ≤ 98304 := by
    have h5 := escL_length q s.data.toList
    rw [size_list] at h5
    have h6 := size_list (⟨(escL q s.data.toList).toArray⟩ : ByteArray)
    have h7 : (⟨(escL q s.data.toList).toArray⟩ : ByteArray).data.toList = escL q s.data.toList := rfl
    rw [h7] at h6
    omega
  have h4 := fun W => unescape_any W ⟨(escL q s.data.toList).toArray⟩ (by omega)
  have hue : uans (⟨(escL q s.data.toList).toArray⟩ : ByteArray).data.toList = (s.data.toList, 0, 0) := back_eq q h
  rw [hue] at h4
  have hss : (⟨s.data.toList.toArray⟩ : ByteArray) = s := (str_of rfl).symm
  simp only [hss] at h4
  have HN : Hid (∀ (i : Nat) (hi : i < (⟨(escL q s.data.toList).toArray⟩ : ByteArray).size), ((⟨(escL q s.data.toList).toArray⟩ : ByteArray)[i]'hi).toNat ≠ 60 ∧ ((⟨(escL q s.data.toList).toArray⟩ : ByteArray)[i]'hi).toNat ≠ 62 ∧ ((⟨(escL q s.data.toList).toArray⟩ : ByteArray)[i]'hi).toNat ≠ 13 ∧ (q = true → ((⟨(escL q s.data.toList).toArray⟩ : ByteArray)[i]'hi).toNat ≠ 34 ∧ ((⟨(escL q s.data.toList).toArray⟩ : ByteArray)[i]'hi).toNat ≠ 9 ∧ ((⟨(escL q s.data.toList).toArray⟩ : ByteArray)[i]'hi).toNat ≠ 10)) := by
    intro i hi
    obtain ⟨g1, g2⟩ := get_list hi
    exact esc_none q s.data.toList _ (by rw [← g2]; exact List.getElem_mem _)
  generalize (tans s.data.toList).1 = p at *
  generalize (⟨(escL q s.data.toList).toArray⟩ : ByteArray) = X at *
  have HST : Hid (∀ W W' : World, Hid (Below w.heap.size w W) → Below W.heap.size W W' → Hid (Below w.heap.size w W')) := fun W W' h k => h.out.trans (k.mono h.out.size)
  clear he h hue hss
  go_enter Try.func6, Try.ntmps6
  go_wp2_with fail
  refine h1.mono ?_
  rintro e w1 ⟨rfl, k1⟩
  have K1 : Hid (Below w.heap.size w w1) := k1
  clear k1
  go_wp2_with fail
  refine (h2 w1).mono ?_
  rintro e w2 ⟨rfl, k2⟩
  have K2 := HST.out _ _ K1 k2
  clear k2 K1
  go_wp2_with fail
  refine (h3 w2).mono ?_
  rintro e w3 ⟨rfl, k3⟩
  have K3 := HST.out _ _ K2 k3
  clear k3 K2
  go_wp2_with fail
  refine (h4 w3).mono ?_
  rintro e w4 ⟨rfl, k4⟩
  have K4 := HST.out _ _ K3 k4
  clear k4 K3 h1 h2 h3 h4
  go_wp2
  go_loop [13] (fun v => ∃ i : Nat, v = .int .i64 (i : Int) ∧ i ≤ X.size) (fun v => X.size - (intOf v).toNat)
  case atStart => exact ⟨0, rfl, by omega⟩
  case round =>
    obtain ⟨i, rfl, hi⟩ := hrel
    by_cases hlt : i < X.size
    · obtain ⟨n1, n2, n3, n4⟩ := HN.out i hlt
      generalize hb : (X[i]'hlt).toNat = b at *
      have b1 : ((b : Int) == 60) = false := beq_eq_false_iff_ne.2 (by omega)
      have b2 : ((b : Int) == 62) = false := beq_eq_false_iff_ne.2 (by omega)
      have b3 : ((b : Int) == 13) = false := beq_eq_false_iff_ne.2 (by omega)
      clear n1 n2 n3
      cases q
      · clear n4
        go_wp2
        go_round
        case rel => exact ⟨i + 1, by go_num, by omega⟩
        case measure => simp [intOf]; omega
      · obtain ⟨n5, n6, n7⟩ := n4 rfl
        have b5 : ((b : Int) == 34) = false := beq_eq_false_iff_ne.2 (by omega)
        have b6 : ((b : Int) == 9) = false := beq_eq_false_iff_ne.2 (by omega)
        have b7 : ((b : Int) == 10) = false := beq_eq_false_iff_ne.2 (by omega)
        clear n4 n5 n6 n7
        go_wp2
        go_round
        case rel => exact ⟨i + 1, by go_num, by omega⟩
        case measure => simp [intOf]; omega
    · go_wp2
      go_ret
      exact ⟨rfl, K4.out⟩

theorem back_any (w : World) (s : ByteArray) (q : Bool) :
    Calls Try.prog 6 #[.string s, .bool q] w fun e w' => e = .returned (.bool true) ∧ Below w.heap.size w w' := by
  by_cases h : (tans s.data.toList).2 = 0
  · exact back_walk w s q h
  · exact back_bad w s q h

end Go.Proofs.Ytfccijpmgjcmiaa
