/- CharsForm's walk. -/
import Derived.Test.YtfccijpmgjcmiaaLives
namespace Go.Proofs.Ytfccijpmgjcmiaa
open Go.RowKit
set_option linter.unusedVariables false

theorem enc_utf8 {r : Nat} (h : Ch r) : Utf8.encode (r : Int) = ⟨(enc r).toArray⟩ := by
  unfold Ch at h
  have hv : Utf8.valid (r : Int) = true := by
    simp only [Utf8.valid, Bool.or_eq_true, Bool.and_eq_true, decide_eq_true_eq]
    omega
  unfold Utf8.encode
  simp only [hv, if_true, Int.toNat_natCast]
  rcases Nat.lt_or_ge r 128 with h1 | h1
  · rw [if_pos h1, enc, if_pos h1]
  rcases Nat.lt_or_ge r 2048 with h2 | h2
  · rw [if_neg (by omega), if_pos h2, enc, if_neg (by omega), if_pos h2]
  rcases Nat.lt_or_ge r 65536 with h3 | h3
  · rw [if_neg (by omega), if_neg (by omega), if_pos h3, enc, if_neg (by omega), if_neg (by omega), if_pos h3]
  · rw [if_neg (by omega), if_neg (by omega), if_neg (by omega), enc, if_neg (by omega), if_neg (by omega), if_neg (by omega)]

set_option maxRecDepth 100000 in
set_option maxHeartbeats 2000000 in
theorem form_long (w : World) (s : ByteArray) (h : 16384 < s.size) :
    Calls Try.prog 7 #[.string s] w fun e w' => e = .returned (.bool true) ∧ Below w.heap.size w w' := by
  have h1 := lives_any w
  have h3 := fun W => text_any W s
  have ht : tans s.data.toList = (0, 2) := by rw [tans, if_pos (by rw [size_list]; exact h)]
  rw [ht] at h3
  clear ht
  go_enter Try.func7, Try.ntmps7
  go_wp2_with fail
  refine h1.mono ?_
  rintro e w1 ⟨rfl, k1⟩
  go_wp2_with fail
  refine (h3 w1).mono ?_
  rintro e w2 ⟨rfl, k2⟩
  go_wp2
  go_ret
  exact ⟨rfl, k1.trans (k2.mono k1.size)⟩

set_option maxRecDepth 100000 in
set_option maxHeartbeats 4000000 in
theorem form_walk (w : World) (s : ByteArray) (h : s.size ≤ 16384) (x y : Int) (hxy : bans s.data.toList = (x, y)) :
    Calls Try.prog 7 #[.string s] w fun e w' => e = .returned (.bool true) ∧ Below w.heap.size w w' := by
  have h1 := lives_any w
  have h3 := fun W => text_any W s
  have hl := size_list s
  have ht : tans s.data.toList = (x, y) := by rw [tans, if_neg (by rw [hl]; omega), hxy]
  have hlen := fun W => len_any W s
  rw [ht] at h3
  have HX : Hid (bans s.data.toList = (x, y)) := hxy
  have HL : Hid (y = 0 → lans s.data.toList = (((scan s.data.toList).1.length : Int), 0)) := by
    intro hy
    rw [lans, if_pos (by rw [ht]; exact hy)]
  have hy2 : (y == 2) = false := by
    have := HX.out
    unfold bans at this
    split at this
    · simp only [Prod.mk.injEq] at this
      rw [← this.2]; rfl
    · simp only [Prod.mk.injEq] at this
      rw [← this.2]; rfl
  clear ht hxy
  go_enter Try.func7, Try.ntmps7
  go_wp2_with fail
  refine h1.mono ?_
  rintro e w1 ⟨rfl, k1⟩
  go_wp2_with fail
  refine (h3 w1).mono ?_
  rintro e W ⟨rfl, k2⟩
  have HBW : Hid (Below w.heap.size w W) := k1.trans (k2.mono k1.size)
  have hWs := HBW.out.size
  clear k1 k2 h1 h3
  go_wp2
  go_loopw [5, 6] (fun v5 v6 wr => ∃ (a b : List Nat), Hid ((scan s.data.toList).1 = a ++ b) ∧ v5 = .int .i64 ((bytes a).length : Int) ∧ v6 = .int .i64 (a.length : Int) ∧ (bytes a).length ≤ s.size ∧ a.length ≤ s.size ∧ Hid (Below w.heap.size w wr)) (fun v _ _ => s.size - (intOf v).toNat)
  case atStart => exact ⟨[], (scan s.data.toList).1, rfl, rfl, rfl, by simp [bytes_nil], by simp, HBW⟩
  case round =>
    obtain ⟨a, b, hab, rfl, rfl, hle0, hal0, hbw⟩ := hrel
    have hws := hbw.out.size
    by_cases hp : (bytes a).length < s.size
    · have hfi := first_any wr (s.extract (bytes a).length s.size)
      have hex : (s.extract (bytes a).length s.size).data.toList = s.data.toList.drop (bytes a).length := by
        rw [Lib.extract_data, List.take_of_length_le]
        rw [List.length_drop, hl]
        exact Nat.le_refl _
      have hdl : (s.data.toList.drop (bytes a).length).length = s.size - (bytes a).length := by rw [List.length_drop, hl]
      rw [hex] at hfi
      have hst := scan_step hab.out (by rw [hl]; exact hp)
      rcases hst with ⟨r, b', rfl, hr, hf, hsc, hlen2, hle⟩ | ⟨rfl, hf, hne, hans⟩
      · rw [fans_of hf] at hfi
        have hch := fun W => char_any W (r : Int)
        rw [charB_of hr] at hch
        have hR0 : (0 : Int) ≤ (r : Int) := by omega
        have hR : (r : Int) ≤ 1114111 := by unfold Ch at hr; omega
        have henc : Utf8.encode (r : Int) = ⟨(enc r).toArray⟩ := enc_utf8 hr
        have hext : s.extract (bytes a).length ((bytes a).length + (enc r).length) = ⟨(enc r).toArray⟩ := by
          apply str_of
          obtain ⟨_, _, t, ht⟩ := first_some hf
          rw [Lib.extract_data, ht, Nat.add_sub_cancel_left, List.take_left]
        have HSC : Hid ((scan s.data.toList).1 = (a ++ [r]) ++ b') := hsc
        have HLN : Hid ((bytes (a ++ [r])).length = (bytes a).length + (enc r).length) := hlen2
        have hpl := enc_pos r
        rw [hl] at hle
        have hal : a.length + 1 ≤ s.size := by
          have h5 := bytes_length_ge (a ++ [r])
          rw [hlen2] at h5
          simp only [List.length_append, List.length_cons, List.length_nil] at h5
          omega
        clear hab hf hsc hex hlen2 HX hr
        generalize (⟨(enc r).toArray⟩ : ByteArray) = S at *
        generalize (enc r).length = m at *
        generalize (bytes a).length = q at *
        generalize (r : Int) = ri at *
        go_wp2_with fail
        refine hfi.mono ?_
        rintro e W2 ⟨rfl, hb2⟩
        have HB2 : Hid (Below w.heap.size w W2) := hbw.out.trans (hb2.mono hws)
        clear hb2
        go_wp2_with fail
        refine (hch W2).mono ?_
        rintro e W3 ⟨rfl, rfl⟩
        go_wp2
        go_roundw
        case rel => exact ⟨a ++ [r], b', HSC, congrArg _ (by have := HLN.out; omega), congrArg _ (by simp), by have := HLN.out; omega, by simp; omega, HB2⟩
        case measure => simp [intOf]; omega
      · rw [fans_no (by omega) hf] at hfi
        have hxy : x = ((bytes a).length : Int) ∧ y = 7 := by
          have := HX.out
          rw [hans] at this
          simp only [Prod.mk.injEq] at this
          omega
        obtain ⟨hx1, hy1⟩ := hxy
        clear hab hf HX hans hne hex HL hy2
        generalize (bytes a).length = q at *
        go_wp2_with fail
        refine hfi.mono ?_
        rintro e W2 ⟨rfl, hb2⟩
        go_wp2
        go_ret
        exact ⟨rfl, hbw.out.trans (hb2.mono hws)⟩
    · obtain ⟨he1, he2, he3⟩ := scan_end hab.out (by rw [hl]; exact hp)
      have hxy : x = 0 ∧ y = 0 := by
        have := HX.out
        rw [he3] at this
        simp only [Prod.mk.injEq] at this
        omega
      obtain ⟨hx1, hy1⟩ := hxy
      have hln := hlen wr
      rw [HL.out hy1] at hln
      have hrs : (scan s.data.toList).1.length = a.length := by rw [hab.out, he1, List.append_nil]
      rw [hrs] at hln
      clear hab HX he1 he2 he3 HL hrs hlen
      go_wp2_with fail
      refine hln.mono ?_
      rintro e W2 ⟨rfl, hb2⟩
      go_wp2
      go_ret
      exact ⟨rfl, hbw.out.trans (hb2.mono hws)⟩

theorem form_any (w : World) (s : ByteArray) :
    Calls Try.prog 7 #[.string s] w fun e w' => e = .returned (.bool true) ∧ Below w.heap.size w w' := by
  by_cases h : 16384 < s.size
  · exact form_long w s h
  · exact form_walk w s (by omega) _ _ rfl

end Go.Proofs.Ytfccijpmgjcmiaa
