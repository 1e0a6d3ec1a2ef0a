/- The document's Next and Unescape; CharsUnescapes' walk. -/
import Derived.Test.YtfccijpmgjcmiaaRref
import Derived.Test.YtfccijpmgjcmiaaUnesc
namespace Go.Proofs.Ytfccijpmgjcmiaa
open Go.RowKit
set_option linter.unusedVariables false

/-- What Next answers: the bytes, how many bytes it has there, what is wrong. -/
def nbytes (l : List UInt8) : ByteArray := if (nextP l).2.2 = 0 then ⟨(enc (nextP l).1.toNat).toArray⟩ else ⟨#[]⟩
def nlen (l : List UInt8) : Int := if (nextP l).2.2 = 0 then (nextP l).2.1 else 0

theorem ext_end (s : ByteArray) (pos : Nat) (h : pos ≤ s.size) : (s.extract pos s.size).data.toList = s.data.toList.drop pos ∧ (s.extract pos s.size).size = s.size - pos := by
  have hl := size_list s
  have hex : (s.extract pos s.size).data.toList = s.data.toList.drop pos := by
    rw [Lib.extract_data, List.take_of_length_le]
    rw [List.length_drop, hl]
    exact Nat.le_refl _
  exact ⟨hex, by rw [← size_list, hex, List.length_drop, hl]⟩

set_option maxRecDepth 100000 in
set_option maxHeartbeats 1000000 in
theorem rnext_amp_bad (w : World) (s : ByteArray) (pos : Nat) (h : pos < s.size) (hsz : s.size < 1152921504606846976) (hc : (s[pos]'h).toNat = 38) (x y z : Int) (hz : z ≠ 0)
    (hr : Calls Try.prog 56 #[.string (s.extract pos s.size)] w fun e w' => e = .returned (.tuple #[.int .i64 x, .int .i64 y, .int .i64 z]) ∧ Below w.heap.size w w') :
    Calls Try.prog 49 #[.string s, .int .i64 (pos : Int)] w fun e w' => e = .returned (.tuple #[.string ⟨#[]⟩, .int .i64 0, .int .i64 z]) ∧ Below w.heap.size w w' := by
  have hc' : (((s[pos]'h).toNat : Int) == 38) = true := by rw [hc]; rfl
  have hz' : (z != 0) = true := bne_iff_ne.2 hz
  clear hc
  go_enter Try.func49, Try.ntmps49
  go_wp2_with fail
  refine hr.mono ?_
  rintro e w1 ⟨rfl, hb⟩
  go_wp2
  go_ret3
  exact ⟨rfl, hb⟩

set_option maxRecDepth 100000 in
set_option maxHeartbeats 1000000 in
theorem rnext_amp_ok (w : World) (s : ByteArray) (pos : Nat) (h : pos < s.size) (hsz : s.size < 1152921504606846976) (hc : (s[pos]'h).toNat = 38) (x y : Int) (X : ByteArray)
    (hr : Calls Try.prog 56 #[.string (s.extract pos s.size)] w fun e w' => e = .returned (.tuple #[.int .i64 x, .int .i64 y, .int .i64 0]) ∧ Below w.heap.size w w')
    (hb : ∀ W, Calls Try.prog 51 #[.int .i64 x] W fun e w' => e = .returned (.string X) ∧ Below W.heap.size W w') :
    Calls Try.prog 49 #[.string s, .int .i64 (pos : Int)] w fun e w' => e = .returned (.tuple #[.string X, .int .i64 y, .int .i64 0]) ∧ Below w.heap.size w w' := by
  have hc' : (((s[pos]'h).toNat : Int) == 38) = true := by rw [hc]; rfl
  clear hc
  go_enter Try.func49, Try.ntmps49
  go_wp2_with fail
  refine hr.mono ?_
  rintro e w1 ⟨rfl, hb1⟩
  go_wp2_with fail
  refine (hb w1).mono ?_
  rintro e w2 ⟨rfl, hb2⟩
  go_wp2
  go_ret3
  exact ⟨rfl, hb1.trans (hb2.mono hb1.size)⟩

set_option maxRecDepth 100000 in
set_option maxHeartbeats 1000000 in
theorem rnext_bad (w : World) (s : ByteArray) (pos : Nat) (h : pos < s.size) (hsz : s.size < 1152921504606846976) (hc : (s[pos]'h).toNat ≠ 38)
    (hr : Calls Try.prog 32 #[.string s, .int .i64 (pos : Int)] w fun e w' => e = .returned (.tuple #[.int .i64 0, .int .i64 0]) ∧ Below w.heap.size w w') :
    Calls Try.prog 49 #[.string s, .int .i64 (pos : Int)] w fun e w' => e = .returned (.tuple #[.string ⟨#[]⟩, .int .i64 0, .int .i64 7]) ∧ Below w.heap.size w w' := by
  have hc' : (((s[pos]'h).toNat : Int) == 38) = false := beq_eq_false_iff_ne.2 (by omega)
  clear hc
  go_enter Try.func49, Try.ntmps49
  go_wp2_with fail
  refine hr.mono ?_
  rintro e w1 ⟨rfl, hb⟩
  go_wp2
  go_ret3
  exact ⟨rfl, hb⟩

set_option maxRecDepth 100000 in
set_option maxHeartbeats 1000000 in
theorem rnext_ok (w : World) (s : ByteArray) (pos : Nat) (h : pos < s.size) (hsz : s.size < 1152921504606846976) (hc : (s[pos]'h).toNat ≠ 38) (r n : Nat) (hn : 1 ≤ n) (hn2 : pos + n ≤ s.size) (X : ByteArray) (hX : s.extract pos (pos + n) = X)
    (hr : Calls Try.prog 32 #[.string s, .int .i64 (pos : Int)] w fun e w' => e = .returned (.tuple #[.int .i64 (r : Int), .int .i64 (n : Int)]) ∧ Below w.heap.size w w') :
    Calls Try.prog 49 #[.string s, .int .i64 (pos : Int)] w fun e w' => e = .returned (.tuple #[.string X, .int .i64 (n : Int), .int .i64 0]) ∧ Below w.heap.size w w' := by
  have hc' : (((s[pos]'h).toNat : Int) == 38) = false := beq_eq_false_iff_ne.2 (by omega)
  have hn' : ((n : Int) == 0) = false := beq_eq_false_iff_ne.2 (by omega)
  clear hc
  go_enter Try.func49, Try.ntmps49
  go_wp2_with fail
  refine hr.mono ?_
  rintro e w1 ⟨rfl, hb⟩
  go_wp2
  go_ret3
  first | exact ⟨congrArg _ (v_sii hX rfl rfl), hb⟩ | exact ⟨rfl, hb⟩

theorem rnext_any (w : World) (s : ByteArray) (pos : Nat) (h : pos < s.size) (hsz : s.size < 1152921504606846976) :
    Calls Try.prog 49 #[.string s, .int .i64 (pos : Int)] w fun e w' => e = .returned (.tuple #[.string (nbytes (s.data.toList.drop pos)), .int .i64 (nlen (s.data.toList.drop pos)), .int .i64 (nextP (s.data.toList.drop pos)).2.2]) ∧ Below w.heap.size w w' := by
  obtain ⟨hex, hexs⟩ := ext_end s pos (Nat.le_of_lt h)
  have hd := drop_get h
  by_cases hc : (s[pos]'h).toNat = 38
  · have h0 : 0 < (s.extract pos s.size).size := by omega
    have hd' := drop_get h0
    rw [List.drop_zero, hex, hd] at hd'
    have hc0 : ((s.extract pos s.size)[0]'h0).toNat = 38 := by
      rw [← (List.cons.inj hd').1]
      exact hc
    have hr := rref_any w (s.extract pos s.size) h0 (by omega) hc0
    rw [hex] at hr
    have e : nextP (s.data.toList.drop pos) = chk (refP (s.data.toList.drop pos)) := by
      rw [hd]
      simp [nextP, hc]
    rw [← e] at hr
    by_cases hz : (nextP (s.data.toList.drop pos)).2.2 = 0
    · obtain ⟨R, n, hp, hch, hn1, hn2⟩ := nextP_ok hz
      have hR : R ≤ 1114111 := by unfold Ch at hch; omega
      rw [nbytes, nlen, if_pos hz, if_pos hz]
      rw [hp] at hr ⊢
      exact rnext_amp_ok w s pos h hsz hc _ _ _ hr (fun W => rbytes_any W R hR)
    · rw [nbytes, nlen, if_neg hz, if_neg hz]
      exact rnext_amp_bad w s pos h hsz hc _ _ _ hz hr
  · have e : nextP (s.data.toList.drop pos) = fans (s.data.toList.drop pos) := by
      rw [hd]
      simp [nextP, hc]
    have hat := at_any w s pos h hsz
    have hlen : (s.data.toList.drop pos).length = s.size - pos := by rw [List.length_drop, size_list]
    cases hf : first (s.data.toList.drop pos) with
    | none =>
      have haa : aans (s.data.toList.drop pos) = (0, 0) := by simp [aans, hf]
      rw [haa] at hat
      have he : nextP (s.data.toList.drop pos) = (0, 0, 7) := by rw [e, fans_no (by omega) hf]
      rw [nbytes, nlen, he, if_neg (by simp), if_neg (by simp)]
      exact rnext_bad w s pos h hsz hc hat
    | some p =>
      obtain ⟨r, n⟩ := p
      obtain ⟨h1, h2, u, h3⟩ := first_some hf
      have haa : aans (s.data.toList.drop pos) = ((r : Int), (n : Int)) := by simp [aans, hf]
      rw [haa] at hat
      have he : nextP (s.data.toList.drop pos) = ((r : Int), (n : Int), 0) := by rw [e, fans_of hf]
      have hp := enc_pos r
      have hl2 := congrArg List.length h3
      rw [hlen, List.length_append] at hl2
      rw [nbytes, nlen, he, if_pos rfl, if_pos rfl]
      refine rnext_ok w s pos h hsz hc r n (by omega) (by omega) _ ?_ hat
      apply str_of
      rw [Lib.extract_data, h3, Nat.add_sub_cancel_left, h2, List.take_left]
      simp

set_option maxRecDepth 100000 in
set_option maxHeartbeats 2000000 in
theorem runescape_walk (w : World) (s : ByteArray) (hsz : s.size < 1152921504606846976) (X : ByteArray) (x y : Int) (hX : X = ⟨(uans s.data.toList).1.toArray⟩) (hx : (uans s.data.toList).2.1 = x) (hy : (uans s.data.toList).2.2 = y) :
    Calls Try.prog 28 #[.string s] w fun e w' => e = .returned (.tuple #[.string X, .int .i64 x, .int .i64 y]) ∧ Below w.heap.size w w' := by
  have hl := size_list s
  have HA : Hid (X = ⟨(uans s.data.toList).1.toArray⟩ ∧ (uans s.data.toList).2.1 = x ∧ (uans s.data.toList).2.2 = y) := ⟨hX, hx, hy⟩
  obtain ⟨i0, hi, hz0, hz1, hz2⟩ := info_parts info5
  clear hX hx hy
  go_enter Try.func28, Try.ntmps28
  go_wp2
  go_loopw [5, 6] (fun v5 v6 wr => ∃ (k pos : Nat) (acc : List UInt8), v6 = .int .i64 (pos : Int) ∧ pos ≤ s.size ∧ acc.length ≤ 16384 ∧ wr.ownsRow w.heap.size 5 1 v5 acc.length (Lib.byteCells acc) ∧ Hid (Below w.heap.size w wr) ∧ Hid (unF k (s.data.toList.drop pos) acc pos = uans s.data.toList) ∧ Hid (s.size - pos ≤ k)) (fun _ v6 _ => s.size - (intOf v6).toNat)
  case atStart => exact ⟨s.data.toList.length, 0, [], rfl, by omega, by simp, ⟨rfl, Or.inl ⟨rfl, rfl⟩⟩, Below.refl _ _, rfl, by show _ ≤ _; omega⟩
  case round =>
    obtain ⟨k, pos, acc, rfl, hpos, hacc, hown, hbw, hun, hk⟩ := hrel
    have hws := hbw.out.size
    obtain ⟨ba, bcap, rfl⟩ := owns_slice hown
    by_cases hlt : pos < s.size
    · have hnx := rnext_any wr s pos hlt hsz
      have hne : s.data.toList.drop pos ≠ [] := by
        intro h
        have := congrArg List.length h
        rw [List.length_drop, hl] at this
        simp at this
        omega
      obtain ⟨k', rfl⟩ : ∃ k', k = k' + 1 := ⟨k - 1, by have := hk.out; omega⟩
      have HOW : Hid (wr.ownsRow w.heap.size 5 1 (.slice ba acc.length bcap) acc.length (Lib.byteCells acc)) := hown
      by_cases hz : (nextP (s.data.toList.drop pos)).2.2 = 0
      · obtain ⟨R, n, hp, hch, hn1, hn2⟩ := nextP_ok hz
        rw [List.length_drop, hl] at hn2
        have hu := hun.out
        rw [unF_step hne hp] at hu
        rw [nbytes, nlen, hp, if_pos rfl, if_pos rfl] at hnx
        simp only [Int.toNat_natCast] at hnx
        have hsp := size_pos R
        have HEL : Hid ((enc R).length = size R) := enc_length R
        have hSs : (⟨(enc R).toArray⟩ : ByteArray).size = size R := by rw [← enc_length, ← size_list]
        have HSD : Hid ((⟨(enc R).toArray⟩ : ByteArray).data.toList = enc R) := rfl
        generalize (⟨(enc R).toArray⟩ : ByteArray) = S at *
        generalize hzz : size R = sz at *
        by_cases hlong : 16384 < acc.length + sz
        · rw [if_pos hlong] at hu
          obtain ⟨a1, a2, a3⟩ := HA.out
          rw [← hu] at a1 a2 a3
          have a2' := a2.symm
          have a3' := a3.symm
          clear hown hun hu hne hp hz HA hk a2 a3 hch
          go_wp2_with fail
          refine hnx.mono ?_
          rintro e w2 ⟨rfl, hb2⟩
          go_wp2
          go_ret3
          first | exact ⟨congrArg _ (v_sii a1.symm a2'.symm a3'.symm), hbw.out.trans (hb2.mono hws)⟩ | exact ⟨rfl, hbw.out.trans (hb2.mono hws)⟩
        · rw [if_neg hlong] at hu
          have hacc2 : acc.length + sz ≤ 16384 := by omega
          have HU : Hid (unF k' (s.data.toList.drop (pos + n)) (acc ++ enc R) (pos + n) = uans s.data.toList) := by
            show _ = _
            rw [← hu, List.drop_drop]
          have HK : Hid (s.size - (pos + n) ≤ k') := by
            have := hk.out
            show _ ≤ _
            omega
          have HSZ : Hid (S.size = sz) := hSs
          clear hown hun hu hne hp hz HA hk hlong hch
          go_wp2_with fail
          refine hnx.mono ?_
          rintro e w2 ⟨rfl, hb2⟩
          have hs2 := hb2.size
          have HO2 := owns_below HOW.out hb2
          have HB2 : Hid (Below w.heap.size w w2) := hbw.out.trans (hb2.mono hws)
          clear hb2
          go_wp2_with (at_builtin; refine Lib.wpList_append_own_string _ rfl _ _ 42 9 rfl w.heap.size 5 i0 Try.underlying42 Try.underlying9 hi hz0 hz1 hz2 _ _ _ rfl HO2 S rfl ?c3 ?c4 ?c5 ?_)
          case c3 => unfold maxLen; omega
          case c4 => omega
          case c5 => omega
          intro v' w4 hown4 hg4 _
          have HO4 : Hid (w4.ownsRow w.heap.size 5 1 v' (acc ++ enc R).length (Lib.byteCells (acc ++ enc R))) := by
            show w4.ownsRow _ _ _ _ _ _
            rw [List.length_append, HEL.out, Lib.byteCells_append]
            have h1 := HSZ.out
            have h2 := HSD.out
            rw [← h2]
            first | exact hown4 | (rw [← h1]; exact hown4)
          have HB4 : Hid (Below w.heap.size w w4) := HB2.out.grown hg4 (by omega) (fun j hj => (HO2.lt j hj).1)
          clear hown4 hg4
          go_wp2
          go_roundw
          case rel => exact ⟨k', pos + n, acc ++ enc R, by go_num, by omega, by rw [List.length_append, HEL.out]; omega, HO4.out, HB4, HU, HK⟩
          case measure => simp [intOf]; omega
      · have hu := hun.out
        rw [unF_bad hne hz] at hu
        obtain ⟨a1, a2, a3⟩ := HA.out
        rw [← hu] at a1 a2 a3
        have a2' := a2.symm
        have a3' := a3.symm
        rw [nbytes, nlen, if_neg hz, if_neg hz] at hnx
        have hz1 : ((nextP (s.data.toList.drop pos)).2.2 == 0) = false := beq_eq_false_iff_ne.2 hz
        have hz2 : ((nextP (s.data.toList.drop pos)).2.2 != 0) = true := bne_iff_ne.2 hz
        generalize nextP (s.data.toList.drop pos) = p at *
        clear hown hun hu hne hz HA hk a2 a3
        go_wp2_with fail
        refine hnx.mono ?_
        rintro e w2 ⟨rfl, hb2⟩
        go_wp2
        go_ret3
        first | exact ⟨congrArg _ (v_sii a1.symm a2'.symm a3'.symm), hbw.out.trans (hb2.mono hws)⟩ | exact ⟨rfl, hbw.out.trans (hb2.mono hws)⟩
    · have hu := hun.out
      rw [List.drop_of_length_le (by omega), unF_end] at hu
      obtain ⟨a1, a2, a3⟩ := HA.out
      rw [← hu] at a1 a2 a3
      have hconv := conv_own hown
      have a2' := a2.symm
      have a3' := a3.symm
      rw [← a1] at hconv
      clear hown hun hu HA hk a2 a3 a1
      go_wp2
      go_ret3
      first | exact ⟨congrArg _ (v_sii rfl a2'.symm a3'.symm), hbw.out⟩ | exact ⟨rfl, hbw.out⟩

set_option maxRecDepth 100000 in
set_option maxHeartbeats 1000000 in
theorem unescapes_walk (w : World) (s : ByteArray) (hsz : s.size < 1152921504606846976) :
    Calls Try.prog 5 #[.string s] w fun e w' => e = .returned (.bool true) ∧ Below w.heap.size w w' := by
  have h1 := unescape_any w s hsz
  have h2 := fun W => runescape_walk W s hsz _ _ _ rfl rfl rfl
  generalize (⟨(uans s.data.toList).1.toArray⟩ : ByteArray) = X at *
  generalize (uans s.data.toList).2.1 = x at *
  generalize (uans s.data.toList).2.2 = y at *
  go_enter Try.func5, Try.ntmps5
  go_wp2_with fail
  refine h1.mono ?_
  rintro e w1 ⟨rfl, hb1⟩
  go_wp2_with fail
  refine (h2 w1).mono ?_
  rintro e w2 ⟨rfl, hb2⟩
  go_wp2
  go_ret
  exact ⟨rfl, hb1.trans (hb2.mono hb1.size)⟩

end Go.Proofs.Ytfccijpmgjcmiaa
