/- The document's characters in plain words: a character's bytes, the character with which a list of bytes begins, a list of bytes cut into characters. -/
import Derived.WalkKit
import Derived.Lib.RuneBytes
namespace Go.Proofs.YtoabgmpcdnikeaaGreatDoor
set_option linter.unusedVariables false

/-- A character that can be. -/
abbrev Ch (r : Nat) : Prop := r = 9 ∨ r = 10 ∨ r = 13 ∨ (32 ≤ r ∧ r ≤ 55295) ∨ (57344 ≤ r ∧ r ≤ 65533) ∨ (65536 ≤ r ∧ r ≤ 1114111)
def charB (r : Int) : Bool := decide (r = 9 ∨ r = 10 ∨ r = 13 ∨ (32 ≤ r ∧ r ≤ 55295) ∨ (57344 ≤ r ∧ r ≤ 65533) ∨ (65536 ≤ r ∧ r ≤ 1114111))
theorem charB_nat (r : Nat) : charB (r : Int) = decide (Ch r) := by
  unfold charB Ch
  apply decide_eq_decide.2
  omega
theorem charB_of {r : Nat} (h : Ch r) : charB (r : Int) = true := by rw [charB_nat]; simpa using h

def cont (b : UInt8) : Bool := decide (128 ≤ b.toNat ∧ b.toNat < 192)
def lead (b : Nat) : Nat × Nat :=
  if b < 128 then (b, 1) else if b < 192 then (0, 0) else if b < 224 then (b % 32, 2) else if b < 240 then (b % 16, 3) else if b < 248 then (b % 8, 4) else (0, 0)
def size (r : Nat) : Nat := if r < 128 then 1 else if r < 2048 then 2 else if r < 65536 then 3 else 4
def val (r0 : Nat) (c : List UInt8) : Nat := c.foldl (fun r b => r * 64 + b.toNat % 64) r0
def first (l : List UInt8) : Option (Nat × Nat) :=
  match l with
  | [] => none
  | b :: t =>
    if (lead b.toNat).2 = 0 ∨ l.length < (lead b.toNat).2 then none
    else if (t.take ((lead b.toNat).2 - 1)).all cont = true then
      (if (lead b.toNat).2 = size (val (lead b.toNat).1 (t.take ((lead b.toNat).2 - 1))) ∧ Ch (val (lead b.toNat).1 (t.take ((lead b.toNat).2 - 1))) then some (val (lead b.toNat).1 (t.take ((lead b.toNat).2 - 1)), (lead b.toNat).2) else none)
    else none

/-- A character's bytes. -/
def enc (r : Nat) : List UInt8 :=
  if r < 128 then [r.toUInt8]
  else if r < 2048 then [(192 + r / 64).toUInt8, (128 + r % 64).toUInt8]
  else if r < 65536 then [(224 + r / 4096).toUInt8, (128 + r / 64 % 64).toUInt8, (128 + r % 64).toUInt8]
  else [(240 + r / 262144).toUInt8, (128 + r / 4096 % 64).toUInt8, (128 + r / 64 % 64).toUInt8, (128 + r % 64).toUInt8]

theorem enc_length (r : Nat) : (enc r).length = size r := by
  unfold enc size
  split
  · rfl
  · split
    · rfl
    · split <;> rfl
theorem size_pos (r : Nat) : 1 ≤ size r ∧ size r ≤ 4 := by
  unfold size
  split
  · omega
  · split
    · omega
    · split <;> omega
theorem size_is (r : Nat) : (r < 128 ∧ size r = 1) ∨ (128 ≤ r ∧ r < 2048 ∧ size r = 2) ∨ (2048 ≤ r ∧ r < 65536 ∧ size r = 3) ∨ (65536 ≤ r ∧ size r = 4) := by
  unfold size
  split
  · omega
  · split
    · omega
    · split <;> omega
theorem u8n {x : Nat} (h : x < 256) : (x.toUInt8).toNat = x := by
  simp [Nat.toUInt8, UInt8.toNat_ofNat']
  omega
theorem u8eq {b : UInt8} {x : Nat} (h : b.toNat = x) : b = x.toUInt8 := by
  apply UInt8.toNat_inj.1
  rw [u8n (by have := b.toNat_lt; omega), h]

theorem first_enc {r : Nat} (h : Ch r) (l : List UInt8) : first (enc r ++ l) = some (r, (enc r).length) := by
  have hh := h
  unfold Ch at hh
  rw [enc_length]
  rcases Nat.lt_or_ge r 128 with h1 | h1
  · have e1 : enc r = [r.toUInt8] := by simp [enc, h1]
    have e2 : lead r = (r, 1) := by simp [lead, h1]
    have e3 : size r = 1 := by simp [size, h1]
    have e4 : (r.toUInt8).toNat = r := u8n (by omega)
    simp [e1, first, e4, e2, e3, val, h]
  rcases Nat.lt_or_ge r 2048 with h2 | h2
  · have e1 : enc r = [(192 + r / 64).toUInt8, (128 + r % 64).toUInt8] := by simp [enc, h2, Nat.not_lt.2 h1]
    have e3 : size r = 2 := by simp [size, h2, Nat.not_lt.2 h1]
    have e4 : ((192 + r / 64).toUInt8).toNat = 192 + r / 64 := u8n (by omega)
    have e5 : ((128 + r % 64).toUInt8).toNat = 128 + r % 64 := u8n (by omega)
    have e2 : lead (192 + r / 64) = ((192 + r / 64) % 32, 2) := by
      unfold lead; rw [if_neg (by omega), if_neg (by omega), if_pos (by omega)]
    have e6 : (192 + r / 64) % 32 * 64 + (128 + r % 64) % 64 = r := by omega
    have c1 : cont (128 + r % 64).toUInt8 = true := by simp only [cont, e5, decide_eq_true_eq]; omega
    simp only [e1, first, List.cons_append, List.nil_append, e4, e2, val, List.length_cons, Nat.add_one_sub_one, List.take_succ_cons, List.take_zero, List.all_cons, List.all_nil, c1, Bool.and_self, if_true, List.foldl_cons, List.foldl_nil, e5, e6, e3, h, true_and]
    rw [if_neg (by omega)]
  rcases Nat.lt_or_ge r 65536 with h3 | h3
  · have e1 : enc r = [(224 + r / 4096).toUInt8, (128 + r / 64 % 64).toUInt8, (128 + r % 64).toUInt8] := by simp [enc, h3, Nat.not_lt.2 h1, Nat.not_lt.2 h2]
    have e3 : size r = 3 := by simp [size, h3, Nat.not_lt.2 h1, Nat.not_lt.2 h2]
    have e4 : ((224 + r / 4096).toUInt8).toNat = 224 + r / 4096 := u8n (by omega)
    have e5 : ((128 + r % 64).toUInt8).toNat = 128 + r % 64 := u8n (by omega)
    have e7 : ((128 + r / 64 % 64).toUInt8).toNat = 128 + r / 64 % 64 := u8n (by omega)
    have e2 : lead (224 + r / 4096) = ((224 + r / 4096) % 16, 3) := by
      unfold lead; rw [if_neg (by omega), if_neg (by omega), if_neg (by omega), if_pos (by omega)]
    have e6 : ((224 + r / 4096) % 16 * 64 + (128 + r / 64 % 64) % 64) * 64 + (128 + r % 64) % 64 = r := by omega
    have c1 : cont (128 + r % 64).toUInt8 = true := by simp only [cont, e5, decide_eq_true_eq]; omega
    have c2 : cont (128 + r / 64 % 64).toUInt8 = true := by simp only [cont, e7, decide_eq_true_eq]; omega
    simp only [e1, first, List.cons_append, List.nil_append, e4, e2, val, List.length_cons, Nat.add_one_sub_one, List.take_succ_cons, List.take_zero, List.all_cons, List.all_nil, c1, c2, Bool.and_self, if_true, List.foldl_cons, List.foldl_nil, e5, e7, e6, e3, h, true_and]
    rw [if_neg (by omega)]
  · have e1 : enc r = [(240 + r / 262144).toUInt8, (128 + r / 4096 % 64).toUInt8, (128 + r / 64 % 64).toUInt8, (128 + r % 64).toUInt8] := by simp [enc, Nat.not_lt.2 h3, Nat.not_lt.2 h1, Nat.not_lt.2 h2]
    have e3 : size r = 4 := by simp [size, Nat.not_lt.2 h3, Nat.not_lt.2 h1, Nat.not_lt.2 h2]
    have e4 : ((240 + r / 262144).toUInt8).toNat = 240 + r / 262144 := u8n (by omega)
    have e5 : ((128 + r % 64).toUInt8).toNat = 128 + r % 64 := u8n (by omega)
    have e7 : ((128 + r / 64 % 64).toUInt8).toNat = 128 + r / 64 % 64 := u8n (by omega)
    have e8 : ((128 + r / 4096 % 64).toUInt8).toNat = 128 + r / 4096 % 64 := u8n (by omega)
    have e2 : lead (240 + r / 262144) = ((240 + r / 262144) % 8, 4) := by
      unfold lead; rw [if_neg (by omega), if_neg (by omega), if_neg (by omega), if_neg (by omega), if_pos (by omega)]
    have e6 : (((240 + r / 262144) % 8 * 64 + (128 + r / 4096 % 64) % 64) * 64 + (128 + r / 64 % 64) % 64) * 64 + (128 + r % 64) % 64 = r := by omega
    have c1 : cont (128 + r % 64).toUInt8 = true := by simp only [cont, e5, decide_eq_true_eq]; omega
    have c2 : cont (128 + r / 64 % 64).toUInt8 = true := by simp only [cont, e7, decide_eq_true_eq]; omega
    have c3 : cont (128 + r / 4096 % 64).toUInt8 = true := by simp only [cont, e8, decide_eq_true_eq]; omega
    simp only [e1, first, List.cons_append, List.nil_append, e4, e2, val, List.length_cons, Nat.add_one_sub_one, List.take_succ_cons, List.take_zero, List.all_cons, List.all_nil, c1, c2, c3, Bool.and_self, if_true, List.foldl_cons, List.foldl_nil, e5, e7, e8, e6, e3, h, true_and]
    rw [if_neg (by omega)]

theorem cont_iff {b : UInt8} : cont b = true ↔ 128 ≤ b.toNat ∧ b.toNat < 192 := by simp [cont]

theorem first_some {l : List UInt8} {r n : Nat} (h : first l = some (r, n)) : Ch r ∧ n = (enc r).length ∧ ∃ t, l = enc r ++ t := by
  rw [enc_length]
  cases l with
  | nil => simp [first] at h
  | cons b t =>
    have hb := b.toNat_lt
    simp only [first] at h
    split at h
    · simp at h
    rename_i h0
    split at h
    · rename_i hc
      split at h
      · rename_i hs
        simp only [Option.some.injEq, Prod.mk.injEq] at h
        obtain ⟨hr, hn⟩ := h
        rw [hr] at hs
        have hsn : n = size r := by omega
        refine ⟨hs.2, hsn, ?_⟩
        have hch := hs.2
        unfold lead at h0 hc hr hn
        split at h0
        · rename_i g1
          simp only [g1, if_true] at hr hn
          simp only [Nat.sub_self, List.take_zero, val, List.foldl_nil] at hr
          subst hr
          exact ⟨t, by simp [enc, g1, Nat.toUInt8]⟩
        rename_i g1
        split at h0
        · simp at h0
        rename_i g2
        split at h0
        · rename_i g3
          simp only [g1, g2, g3, if_true, if_false] at hr hn hc
          have hsz : size r = 2 := by omega
          cases t with
          | nil => simp at h0
          | cons b1 t =>
            have hb1 := b1.toNat_lt
            simp [val, cont_iff] at hr hc
            have hr1 : 128 ≤ r ∧ r < 2048 := by have := size_is r; omega
            refine ⟨t, ?_⟩
            simp only [enc, if_neg (show ¬ r < 128 by omega), if_pos hr1.2, List.cons_append, List.nil_append]
            rw [← u8eq (b := b) (by omega), ← u8eq (b := b1) (by omega)]
        rename_i g3
        split at h0
        · rename_i g4
          simp only [g1, g2, g3, g4, if_true, if_false] at hr hn hc
          have hsz : size r = 3 := by omega
          match t with
          | [] => simp at h0
          | [_] => simp at h0
          | b1 :: b2 :: t =>
            have hb1 := b1.toNat_lt
            have hb2 := b2.toNat_lt
            simp [val, cont_iff] at hr hc
            have hr1 : 2048 ≤ r ∧ r < 65536 := by have := size_is r; omega
            refine ⟨t, ?_⟩
            simp only [enc, if_neg (show ¬ r < 128 by omega), if_neg (show ¬ r < 2048 by omega), if_pos hr1.2, List.cons_append, List.nil_append]
            rw [← u8eq (b := b) (by omega), ← u8eq (b := b1) (by omega), ← u8eq (b := b2) (by omega)]
        rename_i g4
        split at h0
        · rename_i g5
          simp only [g1, g2, g3, g4, g5, if_true, if_false] at hr hn hc
          have hsz : size r = 4 := by omega
          match t with
          | [] => simp at h0
          | [_] => simp at h0
          | [_, _] => simp at h0
          | b1 :: b2 :: b3 :: t =>
            have hb1 := b1.toNat_lt
            have hb2 := b2.toNat_lt
            have hb3 := b3.toNat_lt
            simp [val, cont_iff] at hr hc
            have hr1 : 65536 ≤ r := by have := size_is r; omega
            refine ⟨t, ?_⟩
            simp only [enc, if_neg (show ¬ r < 128 by omega), if_neg (show ¬ r < 2048 by omega), if_neg (show ¬ r < 65536 by omega), List.cons_append, List.nil_append]
            rw [← u8eq (b := b) (by omega), ← u8eq (b := b1) (by omega), ← u8eq (b := b2) (by omega), ← u8eq (b := b3) (by omega)]
        · simp at h0
      · simp at h
    · simp at h

end Go.Proofs.YtoabgmpcdnikeaaGreatDoor
