/- The program's Unescape. -/
import Derived.Test.YtfccijpmgjcmiabNext
import Derived.Test.YtfccijpmgjcmiabEscape
namespace Go.Proofs.Ytfccijpmgjcmiab
open Go.RowKit
set_option linter.unusedVariables false

theorem rune_cells {r : Nat} (h : Ch r) : Lib.runeCells (r : Int) = Lib.byteCells (enc r) := by rw [← Lib.byteCells_encodeRune, enc_rune h]

/-- One step of the reading. -/
theorem unF_step {k pos : Nat} {l acc : List UInt8} {R n : Nat} (hl : l ≠ []) (h : nextP l = ((R : Int), (n : Int), 0)) :
    unF (k + 1) l acc pos = if 16384 < acc.length + size R then ([], (pos : Int), 2) else unF k (l.drop n) (acc ++ enc R) (pos + n) := by
  rw [unF, if_neg hl, if_neg (by rw [h]; simp), h]
  simp only [Int.toNat_natCast]
theorem unF_bad {k pos : Nat} {l acc : List UInt8} (hl : l ≠ []) (h : (nextP l).2.2 ≠ 0) : unF (k + 1) l acc pos = ([], (pos : Int), (nextP l).2.2) := by
  rw [unF, if_neg hl, if_pos h]
theorem unF_end (k pos : Nat) (acc : List UInt8) : unF k [] acc pos = (acc, 0, 0) := by
  cases k with
  | zero => rfl
  | succ k => rw [unF, if_pos rfl]

set_option maxRecDepth 100000 in
set_option maxHeartbeats 2000000 in
theorem unescape_walk (w : World) (s : ByteArray) (hsz : s.size < 1152921504606846976) (X : ByteArray) (x y : Int) (hX : X = ⟨(uans s.data.toList).1.toArray⟩) (hx : (uans s.data.toList).2.1 = x) (hy : (uans s.data.toList).2.2 = y) :
    Calls Try.prog 9 #[.string s] w fun e w' => e = .returned (.tuple #[.string X, .int .i64 x, .int .i64 y]) ∧ Below w.heap.size w w' := by
  have hl := size_list s
  have HA : Hid (X = ⟨(uans s.data.toList).1.toArray⟩ ∧ (uans s.data.toList).2.1 = x ∧ (uans s.data.toList).2.2 = y) := ⟨hX, hx, hy⟩
  clear hX hx hy
  go_enter Try.func9, Try.ntmps9
  go_wp2
  go_loopw [5, 6] (fun v5 v6 wr => ∃ (k pos : Nat) (acc : List UInt8), v6 = .int .i64 (pos : Int) ∧ pos ≤ s.size ∧ acc.length ≤ 16384 ∧ wr.ownsRow w.heap.size 5 1 v5 acc.length (Lib.byteCells acc) ∧ Hid (Below w.heap.size w wr) ∧ Hid (unF k (s.data.toList.drop pos) acc pos = uans s.data.toList) ∧ Hid (s.size - pos ≤ k)) (fun _ v6 _ => s.size - (intOf v6).toNat)
  case atStart => exact ⟨s.data.toList.length, 0, [], rfl, by omega, by simp, ⟨rfl, Or.inl ⟨rfl, rfl⟩⟩, Below.refl _ _, rfl, by show _ ≤ _; omega⟩
  case round =>
    obtain ⟨k, pos, acc, rfl, hpos, hacc, hown, hbw, hun, hk⟩ := hrel
    have hws := hbw.out.size
    obtain ⟨ba, bcap, rfl⟩ := owns_slice hown
    by_cases hlt : pos < s.size
    · have hex : (s.extract pos s.size).data.toList = s.data.toList.drop pos := by
        rw [Lib.extract_data, List.take_of_length_le]
        rw [List.length_drop, hl]
        exact Nat.le_refl _
      have hexs : (s.extract pos s.size).size = s.size - pos := by rw [← size_list, hex, List.length_drop, hl]
      have hnx := next_any wr (s.extract pos s.size) (by omega) (by omega)
      rw [hex] at hnx
      have hne : s.data.toList.drop pos ≠ [] := by
        intro h
        have := congrArg List.length h
        rw [List.length_drop, hl] at this
        simp at this
        omega
      obtain ⟨k', rfl⟩ : ∃ k', k = k' + 1 := ⟨k - 1, by have := hk.out; omega⟩
      have HOW : Hid (wr.ownsRow w.heap.size 5 1 (.slice ba acc.length bcap) acc.length (Lib.byteCells acc)) := hown
      by_cases hz : (nextP (s.data.toList.drop pos)).2.2 = 0
      · obtain ⟨R, n, hp, hch, hn1, hn2⟩ := nextP_ok hz
        rw [List.length_drop, hl] at hn2
        have hu := hun.out
        rw [unF_step hne hp] at hu
        have hR : R ≤ 1114111 := by unfold Ch at hch; omega
        rw [hp] at hnx
        have hsz2 := fun W => size_any W R
        have hsp := size_pos R
        have HRC : Hid (Lib.runeCells (R : Int) = Lib.byteCells (enc R)) := rune_cells hch
        have HEL : Hid ((enc R).length = size R) := enc_length R
        generalize hzz : size R = sz at *
        by_cases hlong : 16384 < acc.length + sz
        · rw [if_pos hlong] at hu
          obtain ⟨a1, a2, a3⟩ := HA.out
          rw [← hu] at a1 a2 a3
          have a2' := a2.symm
          have a3' := a3.symm
          clear hown hun hu hne hp hz HA hk a2 a3 hch
          go_wp2_with fail
          refine hnx.mono ?_
          rintro e w2 ⟨rfl, hb2⟩
          go_wp2_with fail
          refine (hsz2 w2).mono ?_
          rintro e w3 ⟨rfl, rfl⟩
          go_wp2
          go_ret3
          first | exact ⟨congrArg _ (v_sii a1.symm a2'.symm a3'.symm), hbw.out.trans (hb2.mono hws)⟩ | exact ⟨rfl, hbw.out.trans (hb2.mono hws)⟩
        · rw [if_neg hlong] at hu
          have hacc2 : acc.length + sz ≤ 16384 := by omega
          have HU : Hid (unF k' (s.data.toList.drop (pos + n)) (acc ++ enc R) (pos + n) = uans s.data.toList) := by
            show _ = _
            rw [← hu, List.drop_drop]
          have HK : Hid (s.size - (pos + n) ≤ k') := by
            have := hk.out
            show _ ≤ _
            omega
          clear hown hun hu hne hp hz HA hk hlong hch
          go_wp2_with fail
          refine hnx.mono ?_
          rintro e w2 ⟨rfl, hb2⟩
          have hs2 := hb2.size
          have HO2 := owns_below HOW.out hb2
          have HB2 : Hid (Below w.heap.size w w2) := hbw.out.trans (hb2.mono hws)
          have hap := Try.utf8_AppendRune_plain w.heap.size _ acc.length (Lib.byteCells acc) (R : Int) (by omega) (by omega) w2 HO2 (by omega) (by omega)
          clear hb2
          go_wp2_with fail
          refine (hsz2 w2).mono ?_
          rintro e w3 ⟨rfl, rfl⟩
          go_wp2_with fail
          refine hap.mono ?_
          rintro e w4 ⟨v', rfl, hown4, o, hg4⟩
          rw [HRC.out, ← Lib.byteCells_append, Lib.byteCells_length, ← List.length_append] at hown4
          have HO4 : Hid (w4.ownsRow w.heap.size 5 1 v' (acc ++ enc R).length (Lib.byteCells (acc ++ enc R))) := hown4
          have HB4 : Hid (Below w.heap.size w w4) := (HB2.out.alloc (by omega) o).grown hg4 (by simp; omega) (fun j hj => (HO2.lt j hj).1)
          clear hown4 hg4 hap
          go_wp2
          go_roundw
          case rel => exact ⟨k', pos + n, acc ++ enc R, by go_num, by omega, by rw [List.length_append, HEL.out]; omega, HO4.out, HB4, HU, HK⟩
          case measure => simp [intOf]; omega
      · have hu := hun.out
        rw [unF_bad hne hz] at hu
        obtain ⟨a1, a2, a3⟩ := HA.out
        rw [← hu] at a1 a2 a3
        have a2' := a2.symm
        have a3' := a3.symm
        have hz1 : ((nextP (s.data.toList.drop pos)).2.2 == 0) = false := beq_eq_false_iff_ne.2 hz
        have hz2 : ((nextP (s.data.toList.drop pos)).2.2 != 0) = true := bne_iff_ne.2 hz
        generalize nextP (s.data.toList.drop pos) = p at *
        clear hown hun hu hne hz HA hk a2 a3
        go_wp2_with fail
        refine hnx.mono ?_
        rintro e w2 ⟨rfl, hb2⟩
        go_wp2
        go_ret3
        first | exact ⟨congrArg _ (v_sii a1.symm a2'.symm a3'.symm), hbw.out.trans (hb2.mono hws)⟩ | exact ⟨rfl, hbw.out.trans (hb2.mono hws)⟩
    · have hu := hun.out
      rw [List.drop_of_length_le (by omega), unF_end] at hu
      obtain ⟨a1, a2, a3⟩ := HA.out
      rw [← hu] at a1 a2 a3
      have hconv := conv_own hown
      have a2' := a2.symm
      have a3' := a3.symm
      rw [← a1] at hconv
      clear hown hun hu HA hk a2 a3 a1
      go_wp2
      go_ret3
      first | exact ⟨congrArg _ (v_sii rfl a2'.symm a3'.symm), hbw.out⟩ | exact ⟨rfl, hbw.out⟩

theorem unescape_any (w : World) (s : ByteArray) (hsz : s.size < 1152921504606846976) :
    Calls Try.prog 9 #[.string s] w fun e w' => e = .returned (.tuple #[.string ⟨(uans s.data.toList).1.toArray⟩, .int .i64 (uans s.data.toList).2.1, .int .i64 (uans s.data.toList).2.2]) ∧ Below w.heap.size w w' :=
  unescape_walk w s hsz _ _ _ rfl rfl rfl

end Go.Proofs.Ytfccijpmgjcmiab
