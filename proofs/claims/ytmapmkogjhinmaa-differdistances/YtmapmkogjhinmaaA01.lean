/- The document's characters in plain words: a character's bytes, the character with which a list of bytes begins, a list of bytes cut into characters. -/
import Derived.WalkKit
import Derived.Lib.RuneBytes
import Derived.Laws.RangeAny
import Derived.Test.YtmapmkogjhinmaaProg
import Derived.WalkSpells
import Derived.WalkLawsBesides
import Derived.Deep.QuietTactic
import Derived.BigQuiet
import Derived.Lib.ConvBytes
import Derived.Lib.Strings
import Derived.Laws.IdiomStrings
namespace Go.Proofs.Ytmapmkogjhinmaa
open Go.RowKit
set_option maxRecDepth 100000
set_option maxHeartbeats 2000000
set_option linter.unusedVariables false
set_option linter.unusedSimpArgs false
abbrev Ch (r : Nat) : Prop := r = 9 \/ r = 10 \/ r = 13 \/ (32 <= r /\ r <= 55295) \/ (57344 <= r /\ r <= 65533) \/ (65536 <= r /\ r <= 1114111)
def charB (r : Int) : Bool := decide (r = 9 \/ r = 10 \/ r = 13 \/ (32 <= r /\ r <= 55295) \/ (57344 <= r /\ r <= 65533) \/ (65536 <= r /\ r <= 1114111))
theorem charB_nat (r : Nat) : charB (r : Int) = decide (Ch r) := by
 unfold charB Ch
 apply decide_eq_decide.2
 omega
def cont (b : UInt8) : Bool := decide (128 <= b.toNat /\ b.toNat < 192)
def lead (b : Nat) : Nat × Nat :=
 if b < 128 then (b, 1) else if b < 192 then (0, 0) else if b < 224 then (b % 32, 2) else if b < 240 then (b % 16, 3) else if b < 248 then (b % 8, 4) else (0, 0)
def size (r : Nat) : Nat := if r < 128 then 1 else if r < 2048 then 2 else if r < 65536 then 3 else 4
def val (r0 : Nat) (c : List UInt8) : Nat := c.foldl (fun r b => r * 64 + b.toNat % 64) r0
def first (l : List UInt8) : Option (Nat × Nat) :=
 match l with
 | [] => none
 | b :: t =>
  if (lead b.toNat).2 = 0 \/ l.length < (lead b.toNat).2 then none
  else if (t.take ((lead b.toNat).2 - 1)).all cont = true then
   (if (lead b.toNat).2 = size (val (lead b.toNat).1 (t.take ((lead b.toNat).2 - 1))) /\ Ch (val (lead b.toNat).1 (t.take ((lead b.toNat).2 - 1))) then some (val (lead b.toNat).1 (t.take ((lead b.toNat).2 - 1)), (lead b.toNat).2) else none)
  else none
def enc (r : Nat) : List UInt8 :=
 if r < 128 then [r.toUInt8]
 else if r < 2048 then [(192 + r / 64).toUInt8, (128 + r % 64).toUInt8]
 else if r < 65536 then [(224 + r / 4096).toUInt8, (128 + r / 64 % 64).toUInt8, (128 + r % 64).toUInt8]
 else [(240 + r / 262144).toUInt8, (128 + r / 4096 % 64).toUInt8, (128 + r / 64 % 64).toUInt8, (128 + r % 64).toUInt8]
theorem enc_length (r : Nat) : (enc r).length = size r := by
 unfold enc size
 split
 ·rfl
 ·split
  ·rfl
  ·split <;> rfl
theorem size_pos (r : Nat) : 1 <= size r /\ size r <= 4 := by
 unfold size
 split
 ·omega
 ·split
  ·omega
  ·split <;> omega
theorem size_is (r : Nat) : (r < 128 /\ size r = 1) \/ (128 <= r /\ r < 2048 /\ size r = 2) \/ (2048 <= r /\ r < 65536 /\ size r = 3) \/ (65536 <= r /\ size r = 4) := by
 unfold size
 split
 ·omega
 ·split
  ·omega
  ·split <;> omega
theorem u8n {x : Nat} (h : x < 256) : (x.toUInt8).toNat = x := by
 simp [Nat.toUInt8, UInt8.toNat_ofNat']
 omega
theorem u8eq {b : UInt8} {x : Nat} (h : b.toNat = x) : b = x.toUInt8 := by
 apply UInt8.toNat_inj.1
 rw [u8n (by have := b.toNat_lt; omega), h]
theorem first_enc {r : Nat} (h : Ch r) (l : List UInt8) : first (enc r ++ l) = some (r, (enc r).length) := by
 have hh := h
 unfold Ch at hh
 rw [enc_length]
 rcases Nat.lt_or_ge r 128 with h1 | h1
 ·have e1 : enc r = [r.toUInt8] := by simp [enc, h1]
  have e2 : lead r = (r, 1) := by simp [lead, h1]
  have e3 : size r = 1 := by simp [size, h1]
  have e4 : (r.toUInt8).toNat = r := u8n (by omega)
  simp [e1, first, e4, e2, e3, val, h]
 rcases Nat.lt_or_ge r 2048 with h2 | h2
 ·have e1 : enc r = [(192 + r / 64).toUInt8, (128 + r % 64).toUInt8] := by simp [enc, h2, Nat.not_lt.2 h1]
  have e3 : size r = 2 := by simp [size, h2, Nat.not_lt.2 h1]
  have e4 : ((192 + r / 64).toUInt8).toNat = 192 + r / 64 := u8n (by omega)
  have e5 : ((128 + r % 64).toUInt8).toNat = 128 + r % 64 := u8n (by omega)
  have e2 : lead (192 + r / 64) = ((192 + r / 64) % 32, 2) := by
   unfold lead; rw [if_neg (by omega), if_neg (by omega), if_pos (by omega)]
  have e6 : (192 + r / 64) % 32 * 64 + (128 + r % 64) % 64 = r := by omega
  have c1 : cont (128 + r % 64).toUInt8 = true := by simp only [cont, e5, decide_eq_true_eq]; omega
  simp only [e1, first, List.cons_append, List.nil_append, e4, e2, val, List.length_cons, Nat.add_one_sub_one, List.take_succ_cons, List.take_zero, List.all_cons, List.all_nil, c1, Bool.and_self, if_true, List.foldl_cons, List.foldl_nil, e5, e6, e3, h, true_and]
  rw [if_neg (by omega)]
 rcases Nat.lt_or_ge r 65536 with h3 | h3
 ·have e1 : enc r = [(224 + r / 4096).toUInt8, (128 + r / 64 % 64).toUInt8, (128 + r % 64).toUInt8] := by simp [enc, h3, Nat.not_lt.2 h1, Nat.not_lt.2 h2]
  have e3 : size r = 3 := by simp [size, h3, Nat.not_lt.2 h1, Nat.not_lt.2 h2]
  have e4 : ((224 + r / 4096).toUInt8).toNat = 224 + r / 4096 := u8n (by omega)
  have e5 : ((128 + r % 64).toUInt8).toNat = 128 + r % 64 := u8n (by omega)
  have e7 : ((128 + r / 64 % 64).toUInt8).toNat = 128 + r / 64 % 64 := u8n (by omega)
  have e2 : lead (224 + r / 4096) = ((224 + r / 4096) % 16, 3) := by
   unfold lead; rw [if_neg (by omega), if_neg (by omega), if_neg (by omega), if_pos (by omega)]
  have e6 : ((224 + r / 4096) % 16 * 64 + (128 + r / 64 % 64) % 64) * 64 + (128 + r % 64) % 64 = r := by omega
  have c1 : cont (128 + r % 64).toUInt8 = true := by simp only [cont, e5, decide_eq_true_eq]; omega
  have c2 : cont (128 + r / 64 % 64).toUInt8 = true := by simp only [cont, e7, decide_eq_true_eq]; omega
  simp only [e1, first, List.cons_append, List.nil_append, e4, e2, val, List.length_cons, Nat.add_one_sub_one, List.take_succ_cons, List.take_zero, List.all_cons, List.all_nil, c1, c2, Bool.and_self, if_true, List.foldl_cons, List.foldl_nil, e5, e7, e6, e3, h, true_and]
  rw [if_neg (by omega)]
 ·have e1 : enc r = [(240 + r / 262144).toUInt8, (128 + r / 4096 % 64).toUInt8, (128 + r / 64 % 64).toUInt8, (128 + r % 64).toUInt8] := by simp [enc, Nat.not_lt.2 h3, Nat.not_lt.2 h1, Nat.not_lt.2 h2]
  have e3 : size r = 4 := by simp [size, Nat.not_lt.2 h3, Nat.not_lt.2 h1, Nat.not_lt.2 h2]
  have e4 : ((240 + r / 262144).toUInt8).toNat = 240 + r / 262144 := u8n (by omega)
  have e5 : ((128 + r % 64).toUInt8).toNat = 128 + r % 64 := u8n (by omega)
  have e7 : ((128 + r / 64 % 64).toUInt8).toNat = 128 + r / 64 % 64 := u8n (by omega)
  have e8 : ((128 + r / 4096 % 64).toUInt8).toNat = 128 + r / 4096 % 64 := u8n (by omega)
  have e2 : lead (240 + r / 262144) = ((240 + r / 262144) % 8, 4) := by
   unfold lead; rw [if_neg (by omega), if_neg (by omega), if_neg (by omega), if_neg (by omega), if_pos (by omega)]
  have e6 : (((240 + r / 262144) % 8 * 64 + (128 + r / 4096 % 64) % 64) * 64 + (128 + r / 64 % 64) % 64) * 64 + (128 + r % 64) % 64 = r := by omega
  have c1 : cont (128 + r % 64).toUInt8 = true := by simp only [cont, e5, decide_eq_true_eq]; omega
  have c2 : cont (128 + r / 64 % 64).toUInt8 = true := by simp only [cont, e7, decide_eq_true_eq]; omega
  have c3 : cont (128 + r / 4096 % 64).toUInt8 = true := by simp only [cont, e8, decide_eq_true_eq]; omega
  simp only [e1, first, List.cons_append, List.nil_append, e4, e2, val, List.length_cons, Nat.add_one_sub_one, List.take_succ_cons, List.take_zero, List.all_cons, List.all_nil, c1, c2, c3, Bool.and_self, if_true, List.foldl_cons, List.foldl_nil, e5, e7, e8, e6, e3, h, true_and]
  rw [if_neg (by omega)]
theorem cont_iff {b : UInt8} : cont b = true ↔ 128 <= b.toNat /\ b.toNat < 192 := by simp [cont]
theorem first_some {l : List UInt8} {r n : Nat} (h : first l = some (r, n)) : Ch r /\ n = (enc r).length /\ ∃ t, l = enc r ++ t := by
 rw [enc_length]
 cases l with
 | nil => simp [first] at h
 | cons b t =>
  have hb := b.toNat_lt
  simp only [first] at h
  split at h
  ·simp at h
  rename_i h0
  split at h
  ·rename_i hc
   split at h
   ·rename_i hs
    simp only [Option.some.injEq, Prod.mk.injEq] at h
    obtain ⟨hr, hn⟩ := h
    rw [hr] at hs
    have hsn : n = size r := by omega
    refine ⟨hs.2, hsn, ?_⟩
    have hch := hs.2
    unfold lead at h0 hc hr hn
    split at h0
    ·rename_i g1
     simp only [g1, if_true] at hr hn
     simp only [Nat.sub_self, List.take_zero, val, List.foldl_nil] at hr
     subst hr
     exact ⟨t, by simp [enc, g1, Nat.toUInt8]⟩
    rename_i g1
    split at h0
    ·simp at h0
    rename_i g2
    split at h0
    ·rename_i g3
     simp only [g1, g2, g3, if_true, if_false] at hr hn hc
     have hsz : size r = 2 := by omega
     cases t with
     | nil => simp at h0
     | cons b1 t =>
      have hb1 := b1.toNat_lt
      simp [val, cont_iff] at hr hc
      have hr1 : 128 <= r /\ r < 2048 := by have := size_is r; omega
      refine ⟨t, ?_⟩
      simp only [enc, if_neg (show ¬ r < 128 by omega), if_pos hr1.2, List.cons_append, List.nil_append]
      rw [<- u8eq (b := b) (by omega), <- u8eq (b := b1) (by omega)]
    rename_i g3
    split at h0
    ·rename_i g4
     simp only [g1, g2, g3, g4, if_true, if_false] at hr hn hc
     have hsz : size r = 3 := by omega
     match t with
     | [] => simp at h0
     | [_] => simp at h0
     | b1 :: b2 :: t =>
      have hb1 := b1.toNat_lt
      have hb2 := b2.toNat_lt
      simp [val, cont_iff] at hr hc
      have hr1 : 2048 <= r /\ r < 65536 := by have := size_is r; omega
      refine ⟨t, ?_⟩
      simp only [enc, if_neg (show ¬ r < 128 by omega), if_neg (show ¬ r < 2048 by omega), if_pos hr1.2, List.cons_append, List.nil_append]
      rw [<- u8eq (b := b) (by omega), <- u8eq (b := b1) (by omega), <- u8eq (b := b2) (by omega)]
    rename_i g4
    split at h0
    ·rename_i g5
     simp only [g1, g2, g3, g4, g5, if_true, if_false] at hr hn hc
     have hsz : size r = 4 := by omega
     match t with
     | [] => simp at h0
     | [_] => simp at h0
     | [_, _] => simp at h0
     | b1 :: b2 :: b3 :: t =>
      have hb1 := b1.toNat_lt
      have hb2 := b2.toNat_lt
      have hb3 := b3.toNat_lt
      simp [val, cont_iff] at hr hc
      have hr1 : 65536 <= r := by have := size_is r; omega
      refine ⟨t, ?_⟩
      simp only [enc, if_neg (show ¬ r < 128 by omega), if_neg (show ¬ r < 2048 by omega), if_neg (show ¬ r < 65536 by omega), List.cons_append, List.nil_append]
      rw [<- u8eq (b := b) (by omega), <- u8eq (b := b1) (by omega), <- u8eq (b := b2) (by omega), <- u8eq (b := b3) (by omega)]
    ·simp at h0
   ·simp at h
  ·simp at h
def bytes (rs : List Nat) : List UInt8 := rs.flatMap enc
def scanF : Nat -> List UInt8 -> List Nat × List UInt8
 | 0, l => ([], l)
 | k + 1, l => match first l with
  | none => ([], l)
  | some (r, n) => (r :: (scanF k (l.drop n)).1, (scanF k (l.drop n)).2)
def scan (l : List UInt8) : List Nat × List UInt8 := scanF l.length l
theorem bytes_nil : bytes [] = [] := rfl
theorem bytes_cons (r : Nat) (rs : List Nat) : bytes (r :: rs) = enc r ++ bytes rs := by simp [bytes]
theorem bytes_append (a b : List Nat) : bytes (a ++ b) = bytes a ++ bytes b := by simp [bytes]
theorem enc_pos (r : Nat) : 1 <= (enc r).length := by rw [enc_length]; exact (size_pos r).1
theorem first_nil : first [] = none := rfl
theorem scanF_spec (k : Nat) : ∀ l : List UInt8, l.length <= k -> l = bytes (scanF k l).1 ++ (scanF k l).2 /\ (∀ r ∈ (scanF k l).1, Ch r) /\ first (scanF k l).2 = none := by
 induction k with
 | zero =>
  intro l hl
  have : l = [] := List.length_eq_zero_iff.1 (by omega)
  subst this
  simp [scanF, bytes_nil, first_nil]
 | succ k ih =>
  intro l hl
  cases hf : first l with
  | none => simp [scanF, hf, bytes_nil]
  | some p =>
   obtain ⟨r, n⟩ := p
   obtain ⟨hc, hn, t, ht⟩ := first_some hf
   have hp := enc_pos r
   have hd : l.drop n = t := by rw [ht, hn]; simp
   have hlt : t.length <= k := by rw [ht] at hl; simp at hl; omega
   obtain ⟨h1, h2, h3⟩ := ih t hlt
   simp only [scanF, hf, hd]
   refine ⟨?_, ?_, h3⟩
   ·rw [bytes_cons, List.append_assoc, <- h1]; exact ht
   ·intro x hx
    rcases List.mem_cons.1 hx with rfl | hx
    ·exact hc
    ·exact h2 x hx
theorem scan_spec (l : List UInt8) : l = bytes (scan l).1 ++ (scan l).2 /\ (∀ r ∈ (scan l).1, Ch r) /\ first (scan l).2 = none := scanF_spec _ l (Nat.le_refl _)
/-! ### Go's own decoding -/
theorem get_of {s : ByteArray} {pos : Nat} {p t : List UInt8} (h : s.data.toList.drop pos = p ++ t) (k : Nat) (hk : k < p.length) : pos + k < s.size /\ s.get! (pos + k) = p[k] := by
 have hl : s.data.toList.length = s.size := by simp
 have h1 : (s.data.toList.drop pos)[k]? = some p[k] := by rw [h, List.getElem?_append_left hk, List.getElem?_eq_getElem hk]
 rw [List.getElem?_drop] at h1
 obtain ⟨h2, h3⟩ := List.getElem?_eq_some_iff.1 h1
 refine ⟨by omega, ?_⟩
 rw [<- h3]
 have h4 : pos + k < s.size := by omega
 have h5 := get_at s (pos + k) h4
 rw [Nat.add_zero] at h5
 rw [h5]
 simp [ByteArray.getElem_eq_getElem_data]
theorem decode_enc {s : ByteArray} {pos r : Nat} {t : List UInt8} (hc : Ch r) (h : s.data.toList.drop pos = enc r ++ t) : Utf8.decode s pos = (r, (enc r).length) := by
 have hh := hc
 unfold Ch at hh
 have hg := fun k hk => get_of h k hk
 rw [enc_length]
 rcases Nat.lt_or_ge r 128 with h1 | h1
 ·have e1 : enc r = [r.toUInt8] := by simp [enc, h1]
  have e3 : size r = 1 := by simp [size, h1]
  have e4 : (r.toUInt8).toNat = r := u8n (by omega)
  simp only [e1] at hg
  have g0 := (hg 0 (by simp)).2
  simp only [List.getElem_cons_zero] at g0
  unfold Utf8.decode
  simp only [g0, e4]
  rw [if_pos h1, e3]
 rcases Nat.lt_or_ge r 2048 with h2 | h2
 ·have e1 : enc r = [(192 + r / 64).toUInt8, (128 + r % 64).toUInt8] := by simp [enc, h2, Nat.not_lt.2 h1]
  have e3 : size r = 2 := by simp [size, h2, Nat.not_lt.2 h1]
  have e4 : ((192 + r / 64).toUInt8).toNat = 192 + r / 64 := u8n (by omega)
  have e5 : ((128 + r % 64).toUInt8).toNat = 128 + r % 64 := u8n (by omega)
  simp only [e1] at hg
  have g0 := (hg 0 (by simp)).2
  have g1 := (hg 1 (by simp)).2
  have s1 := (hg 1 (by simp)).1
  simp only [List.getElem_cons_zero, List.getElem_cons_succ] at g0 g1
  unfold Utf8.decode
  simp only [g0, g1, e4, e5]
  rw [if_neg (by omega), if_pos (by simp only [Bool.and_eq_true, beq_iff_eq, decide_eq_true_eq]; omega), if_pos (by omega), e3]
  congr 1
  omega
 rcases Nat.lt_or_ge r 65536 with h3 | h3
 ·have e1 : enc r = [(224 + r / 4096).toUInt8, (128 + r / 64 % 64).toUInt8, (128 + r % 64).toUInt8] := by simp [enc, h3, Nat.not_lt.2 h1, Nat.not_lt.2 h2]
  have e3 : size r = 3 := by simp [size, h3, Nat.not_lt.2 h1, Nat.not_lt.2 h2]
  have e4 : ((224 + r / 4096).toUInt8).toNat = 224 + r / 4096 := u8n (by omega)
  have e5 : ((128 + r % 64).toUInt8).toNat = 128 + r % 64 := u8n (by omega)
  have e7 : ((128 + r / 64 % 64).toUInt8).toNat = 128 + r / 64 % 64 := u8n (by omega)
  simp only [e1] at hg
  have g0 := (hg 0 (by simp)).2
  have g1 := (hg 1 (by simp)).2
  have g2 := (hg 2 (by simp)).2
  have s2 := (hg 2 (by simp)).1
  simp only [List.getElem_cons_zero, List.getElem_cons_succ] at g0 g1 g2
  unfold Utf8.decode
  simp only [g0, g1, g2, e4, e5, e7]
  have hv : (224 + r / 4096) % 16 * 4096 + (128 + r / 64 % 64) % 64 * 64 + (128 + r % 64) % 64 = r := by omega
  simp only [hv]
  rw [if_neg (by omega), if_neg (by simp only [Bool.and_eq_true, beq_iff_eq, decide_eq_true_eq]; omega), if_pos (by simp only [Bool.and_eq_true, beq_iff_eq, decide_eq_true_eq]; omega),
   if_pos (by simp only [Utf8.valid, Bool.and_eq_true, Bool.or_eq_true, decide_eq_true_eq]; omega), e3]
 ·have e1 : enc r = [(240 + r / 262144).toUInt8, (128 + r / 4096 % 64).toUInt8, (128 + r / 64 % 64).toUInt8, (128 + r % 64).toUInt8] := by simp [enc, Nat.not_lt.2 h3, Nat.not_lt.2 h1, Nat.not_lt.2 h2]
  have e3 : size r = 4 := by simp [size, Nat.not_lt.2 h3, Nat.not_lt.2 h1, Nat.not_lt.2 h2]
  have e4 : ((240 + r / 262144).toUInt8).toNat = 240 + r / 262144 := u8n (by omega)
  have e5 : ((128 + r % 64).toUInt8).toNat = 128 + r % 64 := u8n (by omega)
  have e7 : ((128 + r / 64 % 64).toUInt8).toNat = 128 + r / 64 % 64 := u8n (by omega)
  have e8 : ((128 + r / 4096 % 64).toUInt8).toNat = 128 + r / 4096 % 64 := u8n (by omega)
  simp only [e1] at hg
  have g0 := (hg 0 (by simp)).2
  have g1 := (hg 1 (by simp)).2
  have g2 := (hg 2 (by simp)).2
  have g3 := (hg 3 (by simp)).2
  have s3 := (hg 3 (by simp)).1
  simp only [List.getElem_cons_zero, List.getElem_cons_succ] at g0 g1 g2 g3
  unfold Utf8.decode
  simp only [g0, g1, g2, g3, e4, e5, e7, e8]
  have hv : (240 + r / 262144) % 8 * 262144 + (128 + r / 4096 % 64) % 64 * 4096 + (128 + r / 64 % 64) % 64 * 64 + (128 + r % 64) % 64 = r := by omega
  simp only [hv]
  rw [if_neg (by omega), if_neg (by simp only [Bool.and_eq_true, beq_iff_eq, decide_eq_true_eq]; omega), if_neg (by simp only [Bool.and_eq_true, beq_iff_eq, decide_eq_true_eq]; omega),
   if_pos (by simp only [Bool.and_eq_true, beq_iff_eq, decide_eq_true_eq]; omega), if_pos (by simp only [Utf8.valid, Bool.and_eq_true, Bool.or_eq_true, decide_eq_true_eq]; omega), e3]
theorem lead_is (b : Nat) : (b < 128 /\ (lead b).1 = b /\ (lead b).2 = 1) \/ (128 <= b /\ b < 192 /\ (lead b).1 = 0 /\ (lead b).2 = 0) \/ (192 <= b /\ b < 224 /\ (lead b).1 = b % 32 /\ (lead b).2 = 2) \/
  (224 <= b /\ b < 240 /\ (lead b).1 = b % 16 /\ (lead b).2 = 3) \/ (240 <= b /\ b < 248 /\ (lead b).1 = b % 8 /\ (lead b).2 = 4) \/ (248 <= b /\ (lead b).1 = 0 /\ (lead b).2 = 0) := by
 unfold lead
 split
 ·simp; omega
 ·split
  ·simp; omega
  ·split
   ·simp; omega
   ·split
    ·simp; omega
    ·split <;> simp <;> omega
theorem v_bool {b c : Bool} (h : b = c) : Value.bool b = Value.bool c := by rw [h]
theorem v_int {k : IntKind} {b c : Int} (h : b = c) : Value.int k b = Value.int k c := by rw [h]
theorem v_two {k k' : IntKind} {b c d e : Int} (h : b = c) (h' : d = e) : Value.tuple #[.int k b, .int k' d] = .tuple #[.int k c, .int k' e] := by rw [h, h']
theorem v_three {k k' k'' : IntKind} {b c d e f g : Int} (h : b = c) (h' : d = e) (h'' : f = g) : Value.tuple #[.int k b, .int k' d, .int k'' f] = .tuple #[.int k c, .int k' e, .int k'' g] := by rw [h, h', h'']
theorem char_any (w : World) (r : Int) : Calls Try.prog 72 #[.int .i64 r] w fun e w' => e = .returned (.bool (charB r)) /\ w' = w := by
 go_enter Try.func72, Try.ntmps72
 go_wp2
 all_goals go_ret
 all_goals refine ⟨congrArg _ (v_bool (Bool.eq_iff_iff.2 ?_)), rfl⟩
 all_goals simp [charB]
 all_goals omega
theorem rchar_any (w : World) (r : Int) : Calls Try.prog 75 #[.int .i64 r] w fun e w' => e = .returned (.bool (charB r)) /\ w' = w := by
 go_enter Try.func75, Try.ntmps75
 go_wp2
 all_goals go_ret
 all_goals refine ⟨congrArg _ (v_bool (Bool.eq_iff_iff.2 ?_)), rfl⟩
 all_goals simp [charB]
 all_goals omega
theorem lead_any (w : World) (b : Nat) (hb : b < 256) : Calls Try.prog 70 #[.int .u8 (b : Int)] w fun e w' => e = .returned (.tuple #[.int .i64 ((lead b).1 : Int), .int .i64 ((lead b).2 : Int)]) /\ w' = w := by
 go_enter Try.func70, Try.ntmps70
 go_wp2
 all_goals go_ret2
 all_goals refine ⟨congrArg _ (v_two ?_ ?_), rfl⟩
 all_goals have := lead_is b
 all_goals omega
theorem size_int (w : World) (r k : Int) (hk : (r < 128 /\ k = 1) \/ (128 <= r /\ r < 2048 /\ k = 2) \/ (2048 <= r /\ r < 65536 /\ k = 3) \/ (65536 <= r /\ k = 4)) : Calls Try.prog 71 #[.int .i64 r] w fun e w' => e = .returned (.int .i64 k) /\ w' = w := by
 have HK : Hid ((r < 128 /\ k = 1) \/ (128 <= r /\ r < 2048 /\ k = 2) \/ (2048 <= r /\ r < 65536 /\ k = 3) \/ (65536 <= r /\ k = 4)) := hk
 clear hk
 go_enter Try.func71, Try.ntmps71
 go_wp2
 all_goals go_ret
 all_goals refine ⟨congrArg _ (v_int ?_), rfl⟩
 all_goals have := HK.out
 all_goals omega
theorem size_any (w : World) (r : Nat) : Calls Try.prog 71 #[.int .i64 (r : Int)] w fun e w' => e = .returned (.int .i64 (size r : Int)) /\ w' = w :=
 size_int w r (size r) (by have := size_is r; omega)
def beginB (c : Nat) : Bool := decide ((97 <= c /\ c <= 122) \/ (65 <= c /\ c <= 90) \/ c = 95)
def inB (c : Nat) : Bool := decide (((97 <= c /\ c <= 122) \/ (65 <= c /\ c <= 90) \/ c = 95) \/ (48 <= c /\ c <= 57) \/ c = 45 \/ c = 46)
theorem begins_any (w : World) (b : Nat) (hb : b < 256) : Calls Try.prog 64 #[.int .u8 (b : Int)] w fun e w' => e = .returned (.bool (beginB b)) /\ w' = w := by
 go_enter Try.func64, Try.ntmps64
 go_wp2
 all_goals go_ret
 all_goals refine ⟨congrArg _ (v_bool (Bool.eq_iff_iff.2 ?_)), rfl⟩
 all_goals simp [beginB]
 all_goals omega
theorem in_any (w : World) (b : Nat) (hb : b < 256) : Calls Try.prog 65 #[.int .u8 (b : Int)] w fun e w' => e = .returned (.bool (inB b)) /\ w' = w := by
 have h0 := begins_any w b hb
 cases hB : beginB b <;> rw [hB] at h0 <;> simp [beginB] at hB
 all_goals go_enter Try.func65, Try.ntmps65
 all_goals go_wp2_with fail
 all_goals refine h0.mono ?_
 all_goals rintro e w' ⟨rfl, rfl⟩
 all_goals go_wp2
 all_goals go_ret
 all_goals refine ⟨congrArg _ (v_bool (Bool.eq_iff_iff.2 ?_)), rfl⟩
 all_goals simp [inB]
 all_goals omega
theorem rsize_any (w : World) (b : Nat) (hb : b < 256) : Calls Try.prog 74 #[.int .u8 (b : Int)] w fun e w' => e = .returned (.tuple #[.int .i64 ((lead b).2 : Int), .int .i64 ((lead b).1 : Int)]) /\ w' = w := by
 go_enter Try.func74, Try.ntmps74
 go_wp2
 all_goals go_ret2
 all_goals refine ⟨congrArg _ (v_two ?_ ?_), rfl⟩
 all_goals have := lead_is b
 all_goals omega
theorem below_bytesWorld (w : World) (e : TypeId) (s : ByteArray) : Below w.heap.size w (Lib.bytesWorld w e s) :=
 ⟨by simp [Lib.bytesWorld, World.freeze, World.alloc, World.drew, -World.alloc_eq, -World.drew_eq], by simp [Lib.bytesWorld, World.freeze, World.alloc, World.drew, -World.alloc_eq, -World.drew_eq], by simp [Lib.bytesWorld, World.freeze, World.alloc, World.drew, -World.alloc_eq, -World.drew_eq], by rw [Lib.bytesWorld_size]; omega, fun i hi => Lib.bytesWorld_at_old w e s i hi⟩
theorem conv_bytes (w : World) (s : ByteArray) : ∃ W cap, (convert 9 115 (.string s)).run Try.prog w = .ok (.slice (some ⟨w.heap.size, 0, none⟩) s.size cap) W /\ Below w.heap.size w W /\ W.heap.size = w.heap.size + 1 /\
  (∃ cs fz, W.heap[w.heap.size]? = some (.cells cs 5 fz) /\ ∀ j (hj : j < s.data.toList.length), cs[j]? = some (.int .u8 ((s.data.toList[j]).toNat : Int))) := by
 refine ⟨_, _, Lib.run_convert_string_bytes w 9 115 5 s Try.underlying9 Try.underlying115 Try.underlying5, below_bytesWorld w 5 s, Lib.bytesWorld_size w 5 s, ?_⟩
 refine ⟨_, _, Lib.bytesWorld_at_new w 5 s, ?_⟩
 intro j hj
 have hj2 : j < s.size := by simpa using hj
 simp [Lib.bytesCells, Array.getElem?_append, hj2]
theorem bytes_cell {W : World} {b : Nat} {l : List UInt8} (h : ∃ cs fz, W.heap[b]? = some (.cells cs 5 fz) /\ ∀ j (hj : j < l.length), cs[j]? = some (.int .u8 ((l[j]).toNat : Int))) (j : Nat) (hj : j < l.length) :
  W.cell? ⟨b, j, none⟩ = some (.int .u8 ((l[j]).toNat : Int)) := by
 obtain ⟨cs, fz, h1, h2⟩ := h
 simp [World.cell?, h1, h2 j hj]
theorem or_i64 {r y : Nat} (hr : r < 524288) (hy : y < 64) : bits .or .i64 ((r : Int) * 64) (y : Int) = ((r * 64 + y : Nat) : Int) := by
 have h1 : (BitVec.ofInt 64 ((r * 64 : Nat) : Int)).toNat = r * 64 := by
  rw [BitVec.ofInt_natCast, BitVec.toNat_ofNat]; exact Nat.mod_eq_of_lt (by omega)
 have h2 : (BitVec.ofInt 64 (y : Int)).toNat = y := by
  rw [BitVec.ofInt_natCast, BitVec.toNat_ofNat]; exact Nat.mod_eq_of_lt (by omega)
 have h3 : r * 64 ||| y = r * 64 + y := by
  have := Nat.shiftLeft_add_eq_or_of_lt (i := 6) (b := y) (by omega) r
  rw [Nat.shiftLeft_eq] at this
  exact this.symm
 rw [show ((r : Int) * 64) = ((r * 64 : Nat) : Int) by simp]
 show IntKind.i64.wrap ((BitVec.ofInt 64 ((r * 64 : Nat) : Int) ||| BitVec.ofInt 64 (y : Int)).toNat : Int) = _
 rw [BitVec.toNat_or, h1, h2, h3, IntKind.wrap_i64]
 omega
theorem and192 : ∀ x : Fin 256, (bits .and .u8 ((x.val : Nat) : Int) 192 != 128) = !(decide (128 <= x.val /\ x.val < 192)) := by decide +kernel
theorem and192' {x : Nat} (h : x < 256) : (bits .and .u8 (x : Int) 192 != 128) = !(decide (128 <= x /\ x < 192)) := and192 ⟨x, h⟩
theorem val_snoc (r0 : Nat) (a : List UInt8) (b : UInt8) : val r0 (a ++ [b]) = val r0 a * 64 + b.toNat % 64 := by simp [val]
theorem notEmpty {s : ByteArray} (h0 : 0 < s.size) : s.toList.isEmpty = false := by
 rw [Lib.toList_data]
 have : s.data.toList ≠ [] := by
  intro h
  have h2 : s.data.toList.length = s.size := by simp
  rw [h] at h2
  simp at h2
  omega
 simpa using this
theorem first_walk (w : World) (s : ByteArray) (h0 : 0 < s.size) (r0 n : Nat) (hl : lead (s[0]'h0).toNat = (r0, n)) (hn0 : 1 <= n) (hn : n <= s.size) (hn4 : n <= 4) (hr0 : r0 < 128)
  (c : List UInt8) (hcl : c = (s.extract 1 n).data.toList) (a1 a2 a3 : Int)
  (hbad : c.all cont = false -> a1 = 0 /\ a2 = 0 /\ a3 = 7)
  (hgood : c.all cont = true -> n = size (val r0 c) -> Ch (val r0 c) -> a1 = val r0 c /\ a2 = n /\ a3 = 0)
  (hno : c.all cont = true -> ¬ (n = size (val r0 c) /\ Ch (val r0 c)) -> a1 = 0 /\ a2 = 0 /\ a3 = 7) :
  Calls Try.prog 67 #[.string s] w fun e w' => e = .returned (.tuple #[.int .i64 a1, .int .i64 a2, .int .i64 a3]) /\ Below w.heap.size w w' := by
 have hb0 := lead_any w (s[0]'h0).toNat (s[0]'h0).toNat_lt
 rw [hl] at hb0
 have hne : s.toList.isEmpty = false := notEmpty h0
 obtain ⟨W, cap, hrun, hbel, hWs, hc⟩ := conv_bytes w (s.extract 1 n)
 have hesz : (s.extract 1 n).size = n - 1 := by simp; omega
 rw [hesz] at hrun
 have HC : Hid (∀ j (hj : j < c.length), W.cell? ⟨w.heap.size, j, none⟩ = some (.int .u8 ((c[j]).toNat : Int))) := by subst hcl; exact bytes_cell hc
 have hclen : c.length = n - 1 := by rw [hcl, <- hesz]; simp only [Array.length_toList, ByteArray.size_data]
 have hn0' : ((n : Int) == 0) = false := beq_eq_false_iff_ne.2 (by omega)
 have HB : Hid (c.all cont = false -> a1 = 0 /\ a2 = 0 /\ a3 = 7) := hbad
 have HG : Hid (c.all cont = true -> n = size (val r0 c) -> Ch (val r0 c) -> a1 = val r0 c /\ a2 = n /\ a3 = 0) := hgood
 have HN : Hid (c.all cont = true -> ¬ (n = size (val r0 c) /\ Ch (val r0 c)) -> a1 = 0 /\ a2 = 0 /\ a3 = 7) := hno
 have HW : Hid (Below w.heap.size w W) := hbel
 clear hl hc hbad hgood hno hcl hbel
 go_enter Try.func67, Try.ntmps67
 go_wp2_with fail
 refine hb0.mono ?_
 rintro e w' ⟨rfl, rfl⟩
 go_wp2
 go_loop [5, 30] (fun v5 v30 => ∃ i r : Nat, i <= n - 1 /\ v5 = .int .i64 (r : Int) /\ v30 = .int .i64 (i : Int) /\ Hid (r = val r0 (c.take i)) /\ Hid ((c.take i).all cont = true) /\ Hid (r < 128 * 64 ^ i)) (fun _ v30 => n - (intOf v30).toNat)
 case atStart => exact ⟨0, r0, by omega, rfl, rfl, rfl, rfl, by show r0 < 128 * 64 ^ 0; simpa using hr0⟩
 case round =>
  obtain ⟨i, r, hi, rfl, rfl, hr, hall, hrb⟩ := hrel
  by_cases hlt : i < n - 1
  ·have hcell := HC.out i (by omega)
   generalize hx : (c[i]'(by omega)).toNat = x at hcell
   have hx256 : x < 256 := by rw [<- hx]; exact UInt8.toNat_lt _
   have hrs : r < 524288 := by
    have h1 := hrb.out
    have h2 : (64:Nat) ^ i <= 64 ^ 2 := Nat.pow_le_pow_right (by omega) (by omega)
    omega
   have hlt1 : (i : Int) < (n : Int) - 1 := by omega
   have htake : c.take (i + 1) = c.take i ++ [c[i]'(by omega)] := by rw [List.take_add_one, List.getElem?_eq_getElem (by omega)]; rfl
   by_cases hct : 128 <= x /\ x < 192
   ·have hand : (bits .and .u8 (x : Int) 192 != 128) = false := by rw [and192' hx256]; simp [hct]
    have hor : bits .or .i64 ((r : Int) * 64) ((x : Int) % 64) = ((r * 64 + x % 64 : Nat) : Int) := by
     have := or_i64 (y := x % 64) hrs (by omega)
     simpa using this
    clear HB HG HN
    generalize hr2 : r * 64 + x % 64 = r2 at hor
    go_wp2
    go_round
    case rel =>
     refine ⟨i + 1, r2, by omega, rfl, by go_num, ?_, ?_, ?_⟩
     ·show r2 = val r0 (c.take (i + 1))
      rw [htake, val_snoc, <- hr.out, hx, hr2]
     ·show (c.take (i + 1)).all cont = true
      rw [htake, List.all_append, hall.out]
      simp [cont, hx, hct]
     ·show r2 < 128 * 64 ^ (i + 1)
      have := hrb.out
      rw [Nat.pow_succ]
      omega
    case measure => simp [intOf]; omega
   ·have hand : (bits .and .u8 (x : Int) 192 != 128) = true := by rw [and192' hx256]; simp [hct]
    have hfin := HB.out (by
     rw [List.all_eq_false]
     exact ⟨c[i]'(by omega), List.getElem_mem _, by simp [cont, hx, hct]⟩)
    obtain ⟨e1, e2, e3⟩ := hfin
    clear HB HG HN hrb
    go_wp2
    go_ret3
    exact ⟨congrArg _ (v_three (by omega) (by omega) (by omega)), HW.out⟩
  ·have hie : i = n - 1 := by omega
   have hct : c.take i = c := by rw [hie, <- hclen]; simp
   rw [hct] at hr hall
   have hsz := size_any W r
   have hch := char_any W (r : Int)
   rw [charB_nat] at hch
   have hrv : r = val r0 c := hr
   have hall' : c.all cont = true := hall
   have HG2 := HG.out hall'
   have HN2 := HN.out hall'
   rw [<- hrv] at HG2 HN2
   clear HG HN HB hr hall hrb hrv HC
   by_cases h1 : n = size r
   ·by_cases h2 : Ch r
    ·obtain ⟨e1, e2, e3⟩ := HG2 h1 h2
     have hd : decide (Ch r) = true := by simpa using h2
     rw [hd] at hch
     clear HG2 HN2
     have hnn : ((n : Int) != (size r : Int)) = false := by rw [h1]; simp
     generalize size r = z at *
     go_wp2_with fail
     refine hsz.mono ?_
     rintro e w2 ⟨rfl, rfl⟩
     go_wp2_with fail
     refine hch.mono ?_
     rintro e w3 ⟨rfl, rfl⟩
     go_wp2
     go_ret3
     exact ⟨congrArg _ (v_three (by omega) (by omega) (by omega)), HW.out⟩
    ·obtain ⟨e1, e2, e3⟩ := HN2 (by simp [h2])
     have hd : decide (Ch r) = false := by simpa using h2
     rw [hd] at hch
     clear HG2 HN2
     have hnn : ((n : Int) != (size r : Int)) = false := by rw [h1]; simp
     generalize size r = z at *
     go_wp2_with fail
     refine hsz.mono ?_
     rintro e w2 ⟨rfl, rfl⟩
     go_wp2_with fail
     refine hch.mono ?_
     rintro e w3 ⟨rfl, rfl⟩
     go_wp2
     go_ret3
     exact ⟨congrArg _ (v_three (by omega) (by omega) (by omega)), HW.out⟩
   ·obtain ⟨e1, e2, e3⟩ := HN2 (by simp [h1])
    clear HG2 HN2 hch
    have hnn : ((n : Int) != (size r : Int)) = true := bne_iff_ne.2 (by omega)
    generalize size r = z at *
    go_wp2_with fail
    refine hsz.mono ?_
    rintro e w2 ⟨rfl, rfl⟩
    go_wp2
    go_ret3
    exact ⟨congrArg _ (v_three (by omega) (by omega) (by omega)), HW.out⟩
def fans (l : List UInt8) : Int × Int × Int :=
 match l with
 | [] => (0, 0, 4)
 | _ :: _ => match first l with
  | none => (0, 0, 7)
  | some (r, n) => ((r : Int), (n : Int), 0)
theorem first_empty (w : World) (s : ByteArray) (h0 : s.toList.isEmpty = true) :
  Calls Try.prog 67 #[.string s] w fun e w' => e = .returned (.tuple #[.int .i64 0, .int .i64 0, .int .i64 4]) /\ w' = w := by
 go_enter Try.func67, Try.ntmps67
 go_wp2
 go_ret3
 exact ⟨rfl, rfl⟩
theorem first_none (w : World) (s : ByteArray) (h0 : 0 < s.size) (r0 n : Nat) (hl : lead (s[0]'h0).toNat = (r0, n)) (hn : n = 0 \/ s.size < n) :
  Calls Try.prog 67 #[.string s] w fun e w' => e = .returned (.tuple #[.int .i64 0, .int .i64 0, .int .i64 7]) /\ w' = w := by
 have hb0 := lead_any w (s[0]'h0).toNat (s[0]'h0).toNat_lt
 rw [hl] at hb0
 have hne : s.toList.isEmpty = false := notEmpty h0
 clear hl
 by_cases hz : n = 0
 ·subst hz
  clear hn
  go_enter Try.func67, Try.ntmps67
  go_wp2_with fail
  refine hb0.mono ?_
  rintro e w' ⟨rfl, rfl⟩
  go_wp2
  go_ret3
  exact ⟨rfl, rfl⟩
 ·have hn0' : ((n : Int) == 0) = false := beq_eq_false_iff_ne.2 (by omega)
  have hn' : s.size < n := by omega
  clear hn
  go_enter Try.func67, Try.ntmps67
  go_wp2_with fail
  refine hb0.mono ?_
  rintro e w' ⟨rfl, rfl⟩
  go_wp2
  go_ret3
  exact ⟨rfl, rfl⟩
theorem size_list (s : ByteArray) : s.data.toList.length = s.size := by simp
theorem head_list {s : ByteArray} {b : UInt8} {t : List UInt8} (h : s.data.toList = b :: t) (h0 : 0 < s.size) : s[0]'h0 = b := by
 have h1 : s.data.toList[0]? = some b := by rw [h]; rfl
 obtain ⟨h2, h3⟩ := List.getElem?_eq_some_iff.1 h1
 rw [<- h3]
 simp [ByteArray.getElem_eq_getElem_data]
theorem first_any (w : World) (s : ByteArray) :
  Calls Try.prog 67 #[.string s] w fun e w' => e = .returned (.tuple #[.int .i64 (fans s.data.toList).1, .int .i64 (fans s.data.toList).2.1, .int .i64 (fans s.data.toList).2.2]) /\ Below w.heap.size w w' := by
 have hl := size_list s
 cases hs : s.data.toList with
 | nil =>
  refine (first_empty w s (by rw [Lib.toList_data, hs]; rfl)).mono ?_
  rintro e w' ⟨rfl, rfl⟩
  exact ⟨rfl, Below.refl _ _⟩
 | cons b t =>
  rw [hs] at hl
  simp only [List.length_cons] at hl
  have h0 : 0 < s.size := by omega
  have hb := head_list hs h0
  have hlead := lead_is b.toNat
  by_cases hn : (lead b.toNat).2 = 0 \/ s.size < (lead b.toNat).2
  ·have hf : first (b :: t) = none := by
    simp only [first, List.length_cons]
    rw [if_pos (by omega)]
   simp only [fans, hf]
   refine (first_none w s h0 (lead b.toNat).1 (lead b.toNat).2 (by rw [hb]) hn).mono ?_
   rintro e w' ⟨rfl, rfl⟩
   exact ⟨rfl, Below.refl _ _⟩
  ·have hc : (s.extract 1 (lead b.toNat).2).data.toList = t.take ((lead b.toNat).2 - 1) := by rw [Lib.extract_data, hs]; rfl
   have hf : first (b :: t) = if (t.take ((lead b.toNat).2 - 1)).all cont = true then
     (if (lead b.toNat).2 = size (val (lead b.toNat).1 (t.take ((lead b.toNat).2 - 1))) /\ Ch (val (lead b.toNat).1 (t.take ((lead b.toNat).2 - 1))) then some (val (lead b.toNat).1 (t.take ((lead b.toNat).2 - 1)), (lead b.toNat).2) else none)
    else none := by
    simp only [first, List.length_cons]
    rw [if_neg (by omega)]
   refine first_walk w s h0 (lead b.toNat).1 (lead b.toNat).2 (by rw [hb]) (by omega) (by omega) (by omega) (by omega) (t.take ((lead b.toNat).2 - 1)) hc.symm _ _ _ ?_ ?_ ?_
   ·intro h
    simp [fans, hf, h]
   ·intro h1 h2 h3
    rw [if_pos h1, if_pos ⟨h2, h3⟩] at hf
    simp [fans, hf]
   ·intro h1 h2
    rw [if_pos h1, if_neg h2] at hf
    simp [fans, hf]
theorem addr_add (b j : Nat) : (⟨b, 0, none⟩ : Addr).add j = ⟨b, j, none⟩ := by
 unfold Addr.add
 split
 ·rename_i h; rw [h]
 ·simp
theorem conv_new (w : World) (l : List UInt8) (cs : Array Value) (hcs : cs = (Lib.byteCells l).toArray) (n : Nat) (hn : n = l.length) :
  (convert 115 9 (.slice (some ⟨w.heap.size, 0, none⟩) n n)).run Try.prog (w.alloc (.cells cs 5)) = .ok (.string ⟨l.toArray⟩) (w.alloc (.cells cs 5)) := by
 subst hn
 refine run_convert_bytes_back _ 115 9 5 _ _ l Try.underlying115 Try.underlying5 Try.underlying9 ?_
 intro j hj
 subst hcs
 have hh : (w.alloc (.cells (Lib.byteCells l).toArray 5)).heap[w.heap.size]? = some (.cells (Lib.byteCells l).toArray 5) := by simp [World.alloc, -World.alloc_eq]
 rw [addr_add]
 simp only [World.cell?, hh]
 simp [Lib.byteCells, hj]
theorem below_new (w : World) (o : Obj) : Below w.heap.size w (w.alloc o) := (Below.refl _ w).alloc (Nat.le_refl _) o
theorem rbytes_one (w : World) (r : Int) (h0 : 0 <= r) (h : r < 128) (S : ByteArray) (hS : Hid (S = ⟨(enc r.toNat).toArray⟩)) :
  Calls Try.prog 76 #[.int .i64 r] w fun e w' => e = .returned (.string S) /\ Below w.heap.size w w' := by
 have hconv : (convert 115 9 (.slice (some ⟨w.heap.size, 0, none⟩) 1 1)).run Try.prog (w.alloc (.cells #[.int .u8 (r)] 5)) = .ok (.string S) (w.alloc (.cells #[.int .u8 (r)] 5)) := by
  have hk : ∃ k : Nat, r = (k : Int) := ⟨r.toNat, by omega⟩
  obtain ⟨k, rfl⟩ := hk
  have he : enc (k : Int).toNat = [(k).toUInt8] := by
   simp only [Int.toNat_natCast, enc]
   rw [if_pos (by omega)]
  rw [hS.out, he]
  refine conv_new w _ _ ?_ 1 rfl
  simp only [Lib.byteCells, List.map_cons, List.map_nil, u8n (show k < 256 by omega)]
 go_enter Try.func76, Try.ntmps76
 go_wp2
 go_ret
 exact ⟨rfl, below_new w _⟩
theorem rbytes_two (w : World) (r : Int) (h0 : 128 <= r) (h : r < 2048) (S : ByteArray) (hS : Hid (S = ⟨(enc r.toNat).toArray⟩)) :
  Calls Try.prog 76 #[.int .i64 r] w fun e w' => e = .returned (.string S) /\ Below w.heap.size w w' := by
 have hconv : (convert 115 9 (.slice (some ⟨w.heap.size, 0, none⟩) 2 2)).run Try.prog (w.alloc (.cells #[.int .u8 (192 + r / 64), .int .u8 (128 + r % 64)] 5)) = .ok (.string S) (w.alloc (.cells #[.int .u8 (192 + r / 64), .int .u8 (128 + r % 64)] 5)) := by
  have hk : ∃ k : Nat, r = (k : Int) := ⟨r.toNat, by omega⟩
  obtain ⟨k, rfl⟩ := hk
  have he : enc (k : Int).toNat = [(192 + k / 64).toUInt8, (128 + k % 64).toUInt8] := by
   simp only [Int.toNat_natCast, enc]
   rw [if_neg (by omega), if_pos (by omega)]
  rw [hS.out, he]
  refine conv_new w _ _ ?_ 2 rfl
  simp only [Lib.byteCells, List.map_cons, List.map_nil, u8n (show 192 + k / 64 < 256 by omega), u8n (show 128 + k % 64 < 256 by omega)]
  rfl
 go_enter Try.func76, Try.ntmps76
 go_wp2
 go_ret
 exact ⟨rfl, below_new w _⟩
theorem rbytes_three (w : World) (r : Int) (h0 : 2048 <= r) (h : r < 65536) (S : ByteArray) (hS : Hid (S = ⟨(enc r.toNat).toArray⟩)) :
  Calls Try.prog 76 #[.int .i64 r] w fun e w' => e = .returned (.string S) /\ Below w.heap.size w w' := by
 have hconv : (convert 115 9 (.slice (some ⟨w.heap.size, 0, none⟩) 3 3)).run Try.prog (w.alloc (.cells #[.int .u8 (224 + r / 4096), .int .u8 (128 + r / 64 % 64), .int .u8 (128 + r % 64)] 5)) = .ok (.string S) (w.alloc (.cells #[.int .u8 (224 + r / 4096), .int .u8 (128 + r / 64 % 64), .int .u8 (128 + r % 64)] 5)) := by
  have hk : ∃ k : Nat, r = (k : Int) := ⟨r.toNat, by omega⟩
  obtain ⟨k, rfl⟩ := hk
  have he : enc (k : Int).toNat = [(224 + k / 4096).toUInt8, (128 + k / 64 % 64).toUInt8, (128 + k % 64).toUInt8] := by
   simp only [Int.toNat_natCast, enc]
   rw [if_neg (by omega), if_neg (by omega), if_pos (by omega)]
  rw [hS.out, he]
  refine conv_new w _ _ ?_ 3 rfl
  simp only [Lib.byteCells, List.map_cons, List.map_nil, u8n (show 224 + k / 4096 < 256 by omega), u8n (show 128 + k / 64 % 64 < 256 by omega), u8n (show 128 + k % 64 < 256 by omega)]
  rfl
 go_enter Try.func76, Try.ntmps76
 go_wp2
 go_ret
 exact ⟨rfl, below_new w _⟩
theorem rbytes_four (w : World) (r : Int) (h0 : 65536 <= r) (h : r <= 1114111) (S : ByteArray) (hS : Hid (S = ⟨(enc r.toNat).toArray⟩)) :
  Calls Try.prog 76 #[.int .i64 r] w fun e w' => e = .returned (.string S) /\ Below w.heap.size w w' := by
 have hconv : (convert 115 9 (.slice (some ⟨w.heap.size, 0, none⟩) 4 4)).run Try.prog (w.alloc (.cells #[.int .u8 (240 + r / 262144), .int .u8 (128 + r / 4096 % 64), .int .u8 (128 + r / 64 % 64), .int .u8 (128 + r % 64)] 5)) = .ok (.string S) (w.alloc (.cells #[.int .u8 (240 + r / 262144), .int .u8 (128 + r / 4096 % 64), .int .u8 (128 + r / 64 % 64), .int .u8 (128 + r % 64)] 5)) := by
  have hk : ∃ k : Nat, r = (k : Int) := ⟨r.toNat, by omega⟩
  obtain ⟨k, rfl⟩ := hk
  have he : enc (k : Int).toNat = [(240 + k / 262144).toUInt8, (128 + k / 4096 % 64).toUInt8, (128 + k / 64 % 64).toUInt8, (128 + k % 64).toUInt8] := by
   simp only [Int.toNat_natCast, enc]
   rw [if_neg (by omega), if_neg (by omega), if_neg (by omega)]
  rw [hS.out, he]
  refine conv_new w _ _ ?_ 4 rfl
  simp only [Lib.byteCells, List.map_cons, List.map_nil, u8n (show 240 + k / 262144 < 256 by omega), u8n (show 128 + k / 4096 % 64 < 256 by omega), u8n (show 128 + k / 64 % 64 < 256 by omega), u8n (show 128 + k % 64 < 256 by omega)]
  rfl
 go_enter Try.func76, Try.ntmps76
 go_wp2
 go_ret
 exact ⟨rfl, below_new w _⟩
theorem rbytes_any (w : World) (r : Nat) (h : r <= 1114111) :
  Calls Try.prog 76 #[.int .i64 (r : Int)] w fun e w' => e = .returned (.string ⟨(enc r).toArray⟩) /\ Below w.heap.size w w' := by
 have hS : Hid ((⟨(enc r).toArray⟩ : ByteArray) = ⟨(enc ((r : Int)).toNat).toArray⟩) := rfl
 rcases Nat.lt_or_ge r 128 with h1 | h1
 ·exact rbytes_one w r (by omega) (by omega) _ hS
 rcases Nat.lt_or_ge r 2048 with h2 | h2
 ·exact rbytes_two w r (by omega) (by omega) _ hS
 rcases Nat.lt_or_ge r 65536 with h3 | h3
 ·exact rbytes_three w r (by omega) (by omega) _ hS
 ·exact rbytes_four w r (by omega) (by omega) _ hS
def aans (l : List UInt8) : Int × Int :=
 match first l with
 | none => (0, 0)
 | some (r, n) => ((r : Int), (n : Int))
theorem get_list {s : ByteArray} {a : Nat} (h : a < s.size) : ∃ h' : a < s.data.toList.length, s.data.toList[a] = s[a]'h :=
 ⟨by rw [size_list]; exact h, by simp [ByteArray.getElem_eq_getElem_data]⟩
theorem at_none (w : World) (s : ByteArray) (a : Nat) (ha : a < s.size) (hsz : s.size < 1152921504606846976) (r0 n : Nat) (hl : lead (s[a]'ha).toNat = (r0, n)) (hn : n = 0 \/ s.size < a + n) (hn4 : n <= 4) :
  Calls Try.prog 69 #[.string s, .int .i64 (a : Int)] w fun e w' => e = .returned (.tuple #[.int .i64 0, .int .i64 0]) /\ w' = w := by
 have hb0 := rsize_any w (s[a]'ha).toNat (s[a]'ha).toNat_lt
 rw [hl] at hb0
 clear hl
 by_cases hz : n = 0
 ·subst hz
  clear hn
  go_enter Try.func69, Try.ntmps69
  go_wp2_with fail
  refine hb0.mono ?_
  rintro e w' ⟨rfl, rfl⟩
  go_wp2
  go_ret2
  exact ⟨rfl, rfl⟩
 ·have hn0' : ((n : Int) == 0) = false := beq_eq_false_iff_ne.2 (by omega)
  have hn' : s.size < a + n := by omega
  clear hn
  go_enter Try.func69, Try.ntmps69
  go_wp2_with fail
  refine hb0.mono ?_
  rintro e w' ⟨rfl, rfl⟩
  go_wp2
  go_ret2
  exact ⟨rfl, rfl⟩
theorem at_walk (w : World) (s : ByteArray) (a : Nat) (ha : a < s.size) (hsz : s.size < 1152921504606846976) (r0 n : Nat) (hl : lead (s[a]'ha).toNat = (r0, n)) (hn0 : 1 <= n) (hn : a + n <= s.size) (hn4 : n <= 4) (hr0 : r0 < 128)
  (c : List UInt8) (hcl : c = (s.data.toList.drop (a + 1)).take (n - 1)) (a1 a2 : Int)
  (hbad : c.all cont = false -> a1 = 0 /\ a2 = 0)
  (hgood : c.all cont = true -> n = size (val r0 c) -> Ch (val r0 c) -> a1 = val r0 c /\ a2 = n)
  (hno : c.all cont = true -> ¬ (n = size (val r0 c) /\ Ch (val r0 c)) -> a1 = 0 /\ a2 = 0) :
  Calls Try.prog 69 #[.string s, .int .i64 (a : Int)] w fun e w' => e = .returned (.tuple #[.int .i64 a1, .int .i64 a2]) /\ Below w.heap.size w w' := by
 have hb0 := rsize_any w (s[a]'ha).toNat (s[a]'ha).toNat_lt
 rw [hl] at hb0
 have hclen : c.length = n - 1 := by rw [hcl, List.length_take, List.length_drop, size_list]; omega
 have hn0' : ((n : Int) == 0) = false := beq_eq_false_iff_ne.2 (by omega)
 have HC : Hid (∀ j (hj : j < c.length) (h : a + (j + 1) < s.size), c[j] = s[a + (j + 1)]'h) := by
  intro j hj h
  obtain ⟨h1, h2⟩ := get_list h
  rw [<- h2]
  subst hcl
  simp [List.getElem_take, List.getElem_drop, Nat.add_assoc, Nat.add_comm 1 j]
 have HB : Hid (c.all cont = false -> a1 = 0 /\ a2 = 0) := hbad
 have HG : Hid (c.all cont = true -> n = size (val r0 c) -> Ch (val r0 c) -> a1 = val r0 c /\ a2 = n) := hgood
 have HN : Hid (c.all cont = true -> ¬ (n = size (val r0 c) /\ Ch (val r0 c)) -> a1 = 0 /\ a2 = 0) := hno
 clear hl hbad hgood hno hcl
 go_enter Try.func69, Try.ntmps69
 go_wp2_with fail
 refine hb0.mono ?_
 rintro e w' ⟨rfl, rfl⟩
 go_wp2
 go_loop [7, 8] (fun v5 v30 => ∃ i r : Nat, i <= n - 1 /\ v5 = .int .i64 (r : Int) /\ v30 = .int .i64 ((i : Int) + 1) /\ Hid (r = val r0 (c.take i)) /\ Hid ((c.take i).all cont = true) /\ Hid (r < 128 * 64 ^ i)) (fun _ v30 => n + 1 - (intOf v30).toNat)
 case atStart => exact ⟨0, r0, by omega, rfl, rfl, rfl, rfl, by show r0 < 128 * 64 ^ 0; simpa using hr0⟩
 case round =>
  obtain ⟨i, r, hi, rfl, rfl, hr, hall, hrb⟩ := hrel
  by_cases hlt : i < n - 1
  ·have hin : a + (i + 1) < s.size := by omega
   have hci := HC.out i (by omega) hin
   generalize hx : (s[a + (i + 1)]'hin).toNat = x
   have hx256 : x < 256 := by rw [<- hx]; exact UInt8.toNat_lt _
   have hrs : r < 524288 := by
    have h1 := hrb.out
    have h2 : (64:Nat) ^ i <= 64 ^ 2 := Nat.pow_le_pow_right (by omega) (by omega)
    omega
   have hlt1 : (i : Int) + 1 < (n : Int) := by omega
   have htake : c.take (i + 1) = c.take i ++ [c[i]'(by omega)] := by rw [List.take_add_one, List.getElem?_eq_getElem (by omega)]; rfl
   by_cases hct : 128 <= x /\ x < 192
   ·have hc1 : 128 <= x := hct.1
    have hc2 : x < 192 := hct.2
    clear HB HG HN
    go_wp2
    go_round
    case rel =>
     refine ⟨i + 1, r * 64 + x % 64, by omega, congrArg _ (by omega), by go_num, ?_, ?_, ?_⟩
     ·show r * 64 + x % 64 = val r0 (c.take (i + 1))
      rw [htake, val_snoc, <- hr.out, hci, hx]
     ·show (c.take (i + 1)).all cont = true
      rw [htake, List.all_append, hall.out]
      simp [cont, hci, hx, hct]
     ·show r * 64 + x % 64 < 128 * 64 ^ (i + 1)
      have := hrb.out
      rw [Nat.pow_succ]
      omega
    case measure => simp [intOf]; omega
   ·have hfin := HB.out (by
     rw [List.all_eq_false]
     exact ⟨c[i]'(by omega), List.getElem_mem _, by simp [cont, hci, hx, hct]⟩)
    obtain ⟨e1, e2⟩ := hfin
    clear HB HG HN hrb
    rcases Nat.lt_or_ge x 128 with hc1 | hc1
    ·go_wp2
     go_ret2
     exact ⟨congrArg _ (v_two (by omega) (by omega)), Below.refl _ _⟩
    ·have hc2 : 192 <= x := by omega
     go_wp2
     go_ret2
     exact ⟨congrArg _ (v_two (by omega) (by omega)), Below.refl _ _⟩
  ·have hie : i = n - 1 := by omega
   have hct : c.take i = c := by rw [hie, <- hclen]; simp
   rw [hct] at hr hall
   have hch := rchar_any w' (r : Int)
   rw [charB_nat] at hch
   have hrv : r = val r0 c := hr
   have hall' : c.all cont = true := hall
   have HG2 := HG.out hall'
   have HN2 := HN.out hall'
   rw [<- hrv] at HG2 HN2
   clear HG HN HB hr hall hrb hrv HC
   have hgt : (n : Int) <= (i : Int) + 1 := by omega
   by_cases h2 : Ch r
   ·have hd : decide (Ch r) = true := by simpa using h2
    rw [hd] at hch
    have hby := rbytes_any w' r (by unfold Ch at h2; omega)
    have hsz : (⟨(enc r).toArray⟩ : ByteArray).size = size r := by
     rw [<- enc_length]
     simp [ByteArray.size]
    generalize (⟨(enc r).toArray⟩ : ByteArray) = S at hby hsz
    by_cases h1 : n = size r
    ·obtain ⟨e1, e2⟩ := HG2 h1 h2
     have hnn : ((S.size : Int) != (n : Int)) = false := by rw [hsz, h1]; simp
     clear HG2 HN2
     go_wp2_with fail
     refine hch.mono ?_
     rintro e w2 ⟨rfl, rfl⟩
     go_wp2_with fail
     refine hby.mono ?_
     rintro e w3 ⟨rfl, hbel⟩
     go_wp2
     go_ret2
     exact ⟨congrArg _ (v_two (by omega) (by omega)), hbel⟩
    ·obtain ⟨e1, e2⟩ := HN2 (by simp [h1])
     have hnn : ((S.size : Int) != (n : Int)) = true := bne_iff_ne.2 (by omega)
     clear HG2 HN2
     go_wp2_with fail
     refine hch.mono ?_
     rintro e w2 ⟨rfl, rfl⟩
     go_wp2_with fail
     refine hby.mono ?_
     rintro e w3 ⟨rfl, hbel⟩
     go_wp2
     go_ret2
     exact ⟨congrArg _ (v_two (by omega) (by omega)), hbel⟩
   ·obtain ⟨e1, e2⟩ := HN2 (by simp [h2])
    have hd : decide (Ch r) = false := by simpa using h2
    rw [hd] at hch
    clear HG2 HN2
    go_wp2_with fail
    refine hch.mono ?_
    rintro e w2 ⟨rfl, rfl⟩
    go_wp2
    go_ret2
    exact ⟨congrArg _ (v_two (by omega) (by omega)), Below.refl _ _⟩
theorem drop_get {s : ByteArray} {a : Nat} (h : a < s.size) : s.data.toList.drop a = (s[a]'h) :: s.data.toList.drop (a + 1) := by
 obtain ⟨h1, h2⟩ := get_list h
 rw [<- h2, <- List.drop_eq_getElem_cons h1]
theorem at_any (w : World) (s : ByteArray) (a : Nat) (ha : a < s.size) (hsz : s.size < 1152921504606846976) :
  Calls Try.prog 69 #[.string s, .int .i64 (a : Int)] w fun e w' => e = .returned (.tuple #[.int .i64 (aans (s.data.toList.drop a)).1, .int .i64 (aans (s.data.toList.drop a)).2]) /\ Below w.heap.size w w' := by
 rw [drop_get ha]
 generalize hb : s[a]'ha = b
 have hlead := lead_is b.toNat
 have htl : (s.data.toList.drop (a + 1)).length = s.size - (a + 1) := by rw [List.length_drop, size_list]
 by_cases hn : (lead b.toNat).2 = 0 \/ s.size < a + (lead b.toNat).2
 ·have hf : first (b :: s.data.toList.drop (a + 1)) = none := by
   simp only [first, List.length_cons, htl]
   rw [if_pos (by omega)]
  simp only [aans, hf]
  refine (at_none w s a ha hsz (lead b.toNat).1 (lead b.toNat).2 (by rw [hb]) hn (by omega)).mono ?_
  rintro e w' ⟨rfl, rfl⟩
  exact ⟨rfl, Below.refl _ _⟩
 ·have hf : first (b :: s.data.toList.drop (a + 1)) = if ((s.data.toList.drop (a + 1)).take ((lead b.toNat).2 - 1)).all cont = true then
    (if (lead b.toNat).2 = size (val (lead b.toNat).1 ((s.data.toList.drop (a + 1)).take ((lead b.toNat).2 - 1))) /\ Ch (val (lead b.toNat).1 ((s.data.toList.drop (a + 1)).take ((lead b.toNat).2 - 1))) then some (val (lead b.toNat).1 ((s.data.toList.drop (a + 1)).take ((lead b.toNat).2 - 1)), (lead b.toNat).2) else none)
   else none := by
   simp only [first, List.length_cons, htl]
   rw [if_neg (by omega)]
  refine at_walk w s a ha hsz (lead b.toNat).1 (lead b.toNat).2 (by rw [hb]) (by omega) (by omega) (by omega) (by omega) ((s.data.toList.drop (a + 1)).take ((lead b.toNat).2 - 1)) rfl _ _ ?_ ?_ ?_
  ·intro h
   simp [aans, hf, h]
  ·intro h1 h2 h3
   rw [if_pos h1, if_pos ⟨h2, h3⟩] at hf
   simp [aans, hf]
  ·intro h1 h2
   rw [if_pos h1, if_neg h2] at hf
   simp [aans, hf]
end Go.Proofs.Ytmapmkogjhinmaa
