/- A list of bytes cut into the characters with which it begins and a rest with which no character begins; Go's own decoding tells the same characters. -/
import Derived.Test.YtoabgmpcdnikeaaGreatDoorPlain
import Derived.Laws.RangeAny
namespace Go.Proofs.YtoabgmpcdnikeaaGreatDoor
set_option linter.unusedVariables false

def bytes (rs : List Nat) : List UInt8 := rs.flatMap enc
def scanF : Nat → List UInt8 → List Nat × List UInt8
  | 0, l => ([], l)
  | k + 1, l => match first l with
    | none => ([], l)
    | some (r, n) => (r :: (scanF k (l.drop n)).1, (scanF k (l.drop n)).2)
def scan (l : List UInt8) : List Nat × List UInt8 := scanF l.length l

theorem bytes_nil : bytes [] = [] := rfl
theorem bytes_cons (r : Nat) (rs : List Nat) : bytes (r :: rs) = enc r ++ bytes rs := by simp [bytes]
theorem bytes_append (a b : List Nat) : bytes (a ++ b) = bytes a ++ bytes b := by simp [bytes]
theorem enc_pos (r : Nat) : 1 ≤ (enc r).length := by rw [enc_length]; exact (size_pos r).1
theorem bytes_length_ge (rs : List Nat) : rs.length ≤ (bytes rs).length := by
  induction rs with
  | nil => simp
  | cons r rs ih => rw [bytes_cons, List.length_append]; have := enc_pos r; simp; omega

theorem first_nil : first [] = none := rfl

theorem scanF_spec (k : Nat) : ∀ l : List UInt8, l.length ≤ k → l = bytes (scanF k l).1 ++ (scanF k l).2 ∧ (∀ r ∈ (scanF k l).1, Ch r) ∧ first (scanF k l).2 = none := by
  induction k with
  | zero =>
    intro l hl
    have : l = [] := List.length_eq_zero_iff.1 (by omega)
    subst this
    simp [scanF, bytes_nil, first_nil]
  | succ k ih =>
    intro l hl
    cases hf : first l with
    | none => simp [scanF, hf, bytes_nil]
    | some p =>
      obtain ⟨r, n⟩ := p
      obtain ⟨hc, hn, t, ht⟩ := first_some hf
      have hp := enc_pos r
      have hd : l.drop n = t := by rw [ht, hn]; simp
      have hlt : t.length ≤ k := by rw [ht] at hl; simp at hl; omega
      obtain ⟨h1, h2, h3⟩ := ih t hlt
      simp only [scanF, hf, hd]
      refine ⟨?_, ?_, h3⟩
      · rw [bytes_cons, List.append_assoc, ← h1]; exact ht
      · intro x hx
        rcases List.mem_cons.1 hx with rfl | hx
        · exact hc
        · exact h2 x hx
theorem scan_spec (l : List UInt8) : l = bytes (scan l).1 ++ (scan l).2 ∧ (∀ r ∈ (scan l).1, Ch r) ∧ first (scan l).2 = none := scanF_spec _ l (Nat.le_refl _)

theorem scanF_of (rest : List UInt8) (hr : first rest = none) (rs : List Nat) : ∀ k, (bytes rs ++ rest).length ≤ k → (∀ r ∈ rs, Ch r) → scanF k (bytes rs ++ rest) = (rs, rest) := by
  induction rs with
  | nil =>
    intro k _ _
    cases k with
    | zero => rfl
    | succ k => simp [scanF, bytes_nil, hr]
  | cons r rs ih =>
    intro k hk hc
    have hp := enc_pos r
    have hf := first_enc (hc r (by simp)) (bytes rs ++ rest)
    rw [bytes_cons, List.append_assoc] at hk ⊢
    rw [List.length_append] at hk
    cases k with
    | zero => omega
    | succ k =>
      simp only [scanF, hf]
      rw [show (enc r ++ (bytes rs ++ rest)).drop (enc r).length = bytes rs ++ rest by simp, ih k (by omega) (fun x hx => hc x (by simp [hx]))]
theorem scan_of {rs : List Nat} {rest : List UInt8} (hc : ∀ r ∈ rs, Ch r) (hr : first rest = none) : scan (bytes rs ++ rest) = (rs, rest) := scanF_of rest hr rs _ (Nat.le_refl _) hc

/-! ### Go's own decoding -/

theorem get_of {s : ByteArray} {pos : Nat} {p t : List UInt8} (h : s.data.toList.drop pos = p ++ t) (k : Nat) (hk : k < p.length) : pos + k < s.size ∧ s.get! (pos + k) = p[k] := by
  have hl : s.data.toList.length = s.size := by simp
  have h1 : (s.data.toList.drop pos)[k]? = some p[k] := by rw [h, List.getElem?_append_left hk, List.getElem?_eq_getElem hk]
  rw [List.getElem?_drop] at h1
  obtain ⟨h2, h3⟩ := List.getElem?_eq_some_iff.1 h1
  refine ⟨by omega, ?_⟩
  rw [← h3]
  have h4 : pos + k < s.size := by omega
  have h5 := get_at s (pos + k) h4
  rw [Nat.add_zero] at h5
  rw [h5]
  simp [ByteArray.getElem_eq_getElem_data]

theorem decode_enc {s : ByteArray} {pos r : Nat} {t : List UInt8} (hc : Ch r) (h : s.data.toList.drop pos = enc r ++ t) : Utf8.decode s pos = (r, (enc r).length) := by
  have hh := hc
  unfold Ch at hh
  have hg := fun k hk => get_of h k hk
  rw [enc_length]
  rcases Nat.lt_or_ge r 128 with h1 | h1
  · have e1 : enc r = [r.toUInt8] := by simp [enc, h1]
    have e3 : size r = 1 := by simp [size, h1]
    have e4 : (r.toUInt8).toNat = r := u8n (by omega)
    simp only [e1] at hg
    have g0 := (hg 0 (by simp)).2
    simp only [List.getElem_cons_zero] at g0
    unfold Utf8.decode
    simp only [g0, e4]
    rw [if_pos h1, e3]
  rcases Nat.lt_or_ge r 2048 with h2 | h2
  · have e1 : enc r = [(192 + r / 64).toUInt8, (128 + r % 64).toUInt8] := by simp [enc, h2, Nat.not_lt.2 h1]
    have e3 : size r = 2 := by simp [size, h2, Nat.not_lt.2 h1]
    have e4 : ((192 + r / 64).toUInt8).toNat = 192 + r / 64 := u8n (by omega)
    have e5 : ((128 + r % 64).toUInt8).toNat = 128 + r % 64 := u8n (by omega)
    simp only [e1] at hg
    have g0 := (hg 0 (by simp)).2
    have g1 := (hg 1 (by simp)).2
    have s1 := (hg 1 (by simp)).1
    simp only [List.getElem_cons_zero, List.getElem_cons_succ] at g0 g1
    unfold Utf8.decode
    simp only [g0, g1, e4, e5]
    rw [if_neg (by omega), if_pos (by simp only [Bool.and_eq_true, beq_iff_eq, decide_eq_true_eq]; omega), if_pos (by omega), e3]
    congr 1
    omega
  rcases Nat.lt_or_ge r 65536 with h3 | h3
  · have e1 : enc r = [(224 + r / 4096).toUInt8, (128 + r / 64 % 64).toUInt8, (128 + r % 64).toUInt8] := by simp [enc, h3, Nat.not_lt.2 h1, Nat.not_lt.2 h2]
    have e3 : size r = 3 := by simp [size, h3, Nat.not_lt.2 h1, Nat.not_lt.2 h2]
    have e4 : ((224 + r / 4096).toUInt8).toNat = 224 + r / 4096 := u8n (by omega)
    have e5 : ((128 + r % 64).toUInt8).toNat = 128 + r % 64 := u8n (by omega)
    have e7 : ((128 + r / 64 % 64).toUInt8).toNat = 128 + r / 64 % 64 := u8n (by omega)
    simp only [e1] at hg
    have g0 := (hg 0 (by simp)).2
    have g1 := (hg 1 (by simp)).2
    have g2 := (hg 2 (by simp)).2
    have s2 := (hg 2 (by simp)).1
    simp only [List.getElem_cons_zero, List.getElem_cons_succ] at g0 g1 g2
    unfold Utf8.decode
    simp only [g0, g1, g2, e4, e5, e7]
    have hv : (224 + r / 4096) % 16 * 4096 + (128 + r / 64 % 64) % 64 * 64 + (128 + r % 64) % 64 = r := by omega
    simp only [hv]
    rw [if_neg (by omega), if_neg (by simp only [Bool.and_eq_true, beq_iff_eq, decide_eq_true_eq]; omega), if_pos (by simp only [Bool.and_eq_true, beq_iff_eq, decide_eq_true_eq]; omega),
      if_pos (by simp only [Utf8.valid, Bool.and_eq_true, Bool.or_eq_true, decide_eq_true_eq]; omega), e3]
  · have e1 : enc r = [(240 + r / 262144).toUInt8, (128 + r / 4096 % 64).toUInt8, (128 + r / 64 % 64).toUInt8, (128 + r % 64).toUInt8] := by simp [enc, Nat.not_lt.2 h3, Nat.not_lt.2 h1, Nat.not_lt.2 h2]
    have e3 : size r = 4 := by simp [size, Nat.not_lt.2 h3, Nat.not_lt.2 h1, Nat.not_lt.2 h2]
    have e4 : ((240 + r / 262144).toUInt8).toNat = 240 + r / 262144 := u8n (by omega)
    have e5 : ((128 + r % 64).toUInt8).toNat = 128 + r % 64 := u8n (by omega)
    have e7 : ((128 + r / 64 % 64).toUInt8).toNat = 128 + r / 64 % 64 := u8n (by omega)
    have e8 : ((128 + r / 4096 % 64).toUInt8).toNat = 128 + r / 4096 % 64 := u8n (by omega)
    simp only [e1] at hg
    have g0 := (hg 0 (by simp)).2
    have g1 := (hg 1 (by simp)).2
    have g2 := (hg 2 (by simp)).2
    have g3 := (hg 3 (by simp)).2
    have s3 := (hg 3 (by simp)).1
    simp only [List.getElem_cons_zero, List.getElem_cons_succ] at g0 g1 g2 g3
    unfold Utf8.decode
    simp only [g0, g1, g2, g3, e4, e5, e7, e8]
    have hv : (240 + r / 262144) % 8 * 262144 + (128 + r / 4096 % 64) % 64 * 4096 + (128 + r / 64 % 64) % 64 * 64 + (128 + r % 64) % 64 = r := by omega
    simp only [hv]
    rw [if_neg (by omega), if_neg (by simp only [Bool.and_eq_true, beq_iff_eq, decide_eq_true_eq]; omega), if_neg (by simp only [Bool.and_eq_true, beq_iff_eq, decide_eq_true_eq]; omega),
      if_pos (by simp only [Bool.and_eq_true, beq_iff_eq, decide_eq_true_eq]; omega), if_pos (by simp only [Utf8.valid, Bool.and_eq_true, Bool.or_eq_true, decide_eq_true_eq]; omega), e3]

/-- A character's bytes are those of Go's own writers. -/
theorem enc_rune {r : Nat} (h : Ch r) : Lib.encodeRune (r : Int) = enc r := by
  unfold Ch at h
  rcases Nat.lt_or_ge r 128 with h1 | h1
  · rw [Lib.encodeRune, Lib.encodeRuneZ_one (by omega) (by omega)]
    simp [enc, h1]
  rcases Nat.lt_or_ge r 2048 with h2 | h2
  · rw [Lib.encodeRune, Lib.encodeRuneZ_two (by omega) (by omega)]
    simp only [enc, if_neg (Nat.not_lt.2 h1), if_pos h2, List.map_cons, List.map_nil]
    congr 2 <;> omega
  rcases Nat.lt_or_ge r 65536 with h3 | h3
  · rw [Lib.encodeRune, Lib.encodeRuneZ_three (by omega)]
    simp only [enc, if_neg (Nat.not_lt.2 h1), if_neg (Nat.not_lt.2 h2), if_pos h3, List.map_cons, List.map_nil]
    rfl
  · rw [Lib.encodeRune, Lib.encodeRuneZ_four (by omega) (by omega)]
    simp only [enc, if_neg (Nat.not_lt.2 h1), if_neg (Nat.not_lt.2 h2), if_neg (Nat.not_lt.2 h3), List.map_cons, List.map_nil]
    rfl

end Go.Proofs.YtoabgmpcdnikeaaGreatDoor
