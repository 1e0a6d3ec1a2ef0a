/- Values in plain: a text as a number, a number as a text, and back. -/
import Derived.Test.YtoabgmpcdnikeaaGreatDoorVb
import Derived.Lib.ParseIntBCases
import Derived.Lib.SlTrimSet
import Derived.Lib.ItoaNum
namespace Go.Proofs.YtoabgmpcdnikeaaGreatDoor
open Go.RowKit
set_option linter.unusedVariables false

/-- What may stand around a number. -/
def blk : Bs := [9, 10, 13, 32]
/-- A text as a number; false: it is none. -/
def rdN (s : Bs) : Int × Bool :=
  match Lib.parseIntB 64 (Lib.trimS s blk) with
  | .ok v => if (Lib.trimS s blk).head? = some 43 then (0, false) else (v, true)
  | _ => (0, false)

theorem pum_snoc (M : Nat) (c : UInt8) (h1 : 48 ≤ c.toNat) (h2 : c.toNat ≤ 57) : ∀ (l : Bs) (acc v : Nat), Lib.parseUintM M acc l = .ok v → v < 1844674407370955162 → v * 10 + (c.toNat - 48) ≤ M → Lib.parseUintM M acc (l ++ [c]) = .ok (v * 10 + (c.toNat - 48))
  | [], acc, v, h, hv, hM => by
    simp only [Lib.parseUintM] at h
    injection h with h
    subst h
    simp only [List.nil_append, Lib.parseUintM]
    rw [if_pos ⟨h1, h2⟩, if_neg (by omega), if_neg (by omega)]
  | b :: r, acc, v, h, hv, hM => by
    simp only [Lib.parseUintM] at h
    simp only [List.cons_append, Lib.parseUintM]
    split at h
    · rename_i h3
      rw [if_pos h3]
      split at h
      · cases h
      · rename_i h4
        rw [if_neg h4]
        split at h
        · cases h
        · rename_i h5
          rw [if_neg h5]
          exact pum_snoc M c h1 h2 r _ v h hv hM
    · cases h

theorem dig_nat {k : Nat} (h : k < 10) : (UInt8.ofNat (48 + k)).toNat = 48 + k := by
  simp; omega
theorem pum_dec (M : Nat) (hM : M ≤ 18446744073709551615) : ∀ u, u ≤ M → Lib.parseUintM M 0 (Lib.decDigits u) = .ok u := by
  intro u
  induction u using Nat.strongRecOn with
  | _ u ih =>
    intro hu
    rw [Lib.decDigits]
    split
    · rename_i h
      have hd := dig_nat h
      simp only [Lib.parseUintM]
      rw [if_pos (by omega), if_neg (by omega), if_neg (by omega), hd]
      congr 1
      omega
    · rename_i h
      have hd := dig_nat (k := u % 10) (by omega)
      have := pum_snoc M (UInt8.ofNat (48 + u % 10)) (by omega) (by omega) (Lib.decDigits (u / 10)) 0 (u / 10) (ih (u / 10) (by omega) (by omega)) (by omega) (by omega)
      rw [this, hd]
      congr 1
      omega

theorem dec_ne (u : Nat) : Lib.decDigits u ≠ [] := by
  rw [Lib.decDigits]
  split <;> simp
/-- Every byte of a number's digits is a digit. -/
theorem dec_all : ∀ u b, b ∈ Lib.decDigits u → 48 ≤ b.toNat ∧ b.toNat ≤ 57 := by
  intro u
  induction u using Nat.strongRecOn with
  | _ u ih =>
    intro b hb
    rw [Lib.decDigits] at hb
    split at hb
    · rename_i h
      have := dig_nat h
      simp only [List.mem_singleton] at hb
      subst hb
      omega
    · rename_i h
      have hd := dig_nat (k := u % 10) (by omega)
      rcases List.mem_append.1 hb with hb | hb
      · exact ih (u / 10) (by omega) b hb
      · simp only [List.mem_singleton] at hb
        subst hb
        omega
theorem itoa_all (n : Int) : ∀ b, b ∈ Lib.itoa n → b.toNat = 45 ∨ 48 ≤ b.toNat ∧ b.toNat ≤ 57 := by
  intro b hb
  unfold Lib.itoa at hb
  split at hb
  · rcases List.mem_cons.1 hb with rfl | hb
    · exact .inl rfl
    · exact .inr (dec_all _ b hb)
  · exact .inr (dec_all _ b hb)
theorem itoa_ne (n : Int) : Lib.itoa n ≠ [] := by
  unfold Lib.itoa
  split
  · simp
  · exact dec_ne _
theorem dropWhile_none {p : UInt8 → Bool} : ∀ {l : Bs}, (∀ b ∈ l, p b = false) → l.dropWhile p = l
  | [], _ => rfl
  | b :: r, h => by rw [List.dropWhile_cons, if_neg (by simp [h b (by simp)])]
theorem trim_none {l cs : Bs} (h : ∀ b ∈ l, cs.contains b = false) : Lib.trimS l cs = l := by
  unfold Lib.trimS Lib.trimLeftS Lib.trimRightS
  rw [dropWhile_none (l := l.reverse) (fun b hb => h b (List.mem_reverse.1 hb)), List.reverse_reverse, dropWhile_none h]
theorem itoa_trim (n : Int) : Lib.trimS (Lib.itoa n) blk = Lib.itoa n := by
  refine trim_none (fun b hb => ?_)
  have := itoa_all n b hb
  rw [Bool.eq_false_iff]
  intro h
  simp only [blk, List.contains_cons, List.contains_nil, Bool.or_eq_true, beq_iff_eq, Bool.or_false] at h
  rcases h with rfl | rfl | rfl | rfl <;> simp at this
theorem parse_itoa (n : Int) (h0 : -9223372036854775808 ≤ n) (h1 : n ≤ 9223372036854775807) : Lib.parseIntB 64 (Lib.itoa n) = .ok n := by
  unfold Lib.itoa
  split
  · rename_i h
    have hp := pum_dec 18446744073709551615 (Nat.le_refl _) n.natAbs (by omega)
    have h45 : (45 : UInt8).toNat = 45 := rfl
    simp only [Lib.parseIntB, Lib.parseUintB, h45, or_true, if_true, if_neg (dec_ne _)]
    rw [show (2 ^ 64 - 1 : Nat) = 18446744073709551615 from rfl, hp]
    simp
    rw [if_neg (by omega)]
    congr 1
    omega
  · rename_i h
    have hp := pum_dec 18446744073709551615 (Nat.le_refl _) n.toNat (by omega)
    obtain ⟨c, r, hc⟩ := List.exists_cons_of_ne_nil (dec_ne n.toNat)
    have hd := dec_all n.toNat c (by rw [hc]; simp)
    rw [hc] at hp ⊢
    have e1 : ¬ (c.toNat = 43 ∨ c.toNat = 45) := by omega
    have e2 : ¬ c.toNat = 45 := by omega
    simp only [Lib.parseIntB, Lib.parseUintB, if_neg e1, if_neg (List.cons_ne_nil c r)]
    rw [show (2 ^ 64 - 1 : Nat) = 18446744073709551615 from rfl, hp]
    simp only [e2, not_false_eq_true, true_and, false_and, if_false]
    rw [if_neg (by omega)]
    congr 1
    omega
/-- A number comes back from its text. -/
theorem rd_itoa (n : Int) (h0 : -9223372036854775808 ≤ n) (h1 : n ≤ 9223372036854775807) : rdN (Lib.itoa n) = (n, true) := by
  unfold rdN
  rw [itoa_trim, parse_itoa n h0 h1]
  obtain ⟨c, r, hc⟩ := List.exists_cons_of_ne_nil (itoa_ne n)
  have hd := itoa_all n c (by rw [hc]; simp)
  simp only [hc, List.head?_cons, Option.some.injEq]
  rw [if_neg (by rintro rfl; simp at hd)]

/-- Texts of plain signs can be. -/
theorem plain_bytes : ∀ {l : Bs}, (∀ b ∈ l, b.toNat < 128) → l = bytes (l.map (·.toNat))
  | [], _ => rfl
  | b :: r, h => by
    have hb : b.toNat < 128 := h b (by simp)
    rw [List.map_cons, bytes_cons, ← plain_bytes (l := r) (fun x hx => h x (List.mem_cons_of_mem _ hx))]
    unfold enc
    rw [if_pos hb]
    simp
theorem plain_can {l : Bs} (hl : l.length ≤ 16384) (h : ∀ b ∈ l, 32 ≤ b.toNat ∧ b.toNat < 128) : tans l = (0, 0) := by
  have h1 := plain_bytes (l := l) (fun b hb => (h b hb).2)
  have h2 : scan l = (l.map (·.toNat), []) := by
    have h3 := scanF_of [] first_nil (l.map (·.toNat)) l.length (by rw [List.append_nil, ← h1]; exact Nat.le_refl _) (fun r hr => by
      obtain ⟨b, hb, rfl⟩ := List.mem_map.1 hr
      have := h b hb
      unfold Ch
      omega)
    rw [List.append_nil, ← h1] at h3
    exact h3
  unfold tans bans
  rw [if_neg (by omega), h2, if_pos rfl]
theorem dec_short : ∀ (k u : Nat), u < 10 ^ (k + 1) → (Lib.decDigits u).length ≤ k + 1
  | 0, u, h => by
    rw [Lib.decDigits, dif_pos (by simpa using h)]
    simp
  | k + 1, u, h => by
    rw [Lib.decDigits]
    split
    · simp
    · have := dec_short k (u / 10) (by rw [Nat.pow_succ] at h; omega)
      simp
      omega
theorem itoa_short (n : Int) (h0 : -9223372036854775808 ≤ n) (h1 : n ≤ 9223372036854775807) : (Lib.itoa n).length ≤ 20 := by
  unfold Lib.itoa
  split
  · have := dec_short 18 n.natAbs (by omega)
    simp
    omega
  · have := dec_short 18 n.toNat (by omega)
    omega
theorem itoa_can (n : Int) (h0 : -9223372036854775808 ≤ n) (h1 : n ≤ 9223372036854775807) : tans (Lib.itoa n) = (0, 0) := by
  refine plain_can (by have := itoa_short n h0 h1; omega) (fun b hb => ?_)
  have := itoa_all n b hb
  omega

/-- The texts of a list, in memory. -/
def SsAt (w : World) (a : Option Addr) (L : List ByteArray) : Prop := ∀ i s, L[i]? = some s → ∃ b o, a = some ⟨b, o, none⟩ ∧ b < w.heap.size ∧ w.cell? ⟨b, o + i, none⟩ = some (.string s)
theorem SsAt.bel {w w' : World} {a : Option Addr} {L : List ByteArray} (h : SsAt w a L) (hb : Below w.heap.size w w') : SsAt w' a L := fun i s hs => by
  obtain ⟨b, o, h1, h2, h3⟩ := h i s hs
  exact ⟨b, o, h1, Nat.lt_of_lt_of_le h2 hb.size, (hb.cell (p := ⟨b, o + i, none⟩) h2).trans h3⟩

/-- A value: whether it can be. -/
def canV (k : Int) (t : Bs) (L : List Bs) : Bool := if k = 1 ∨ k = 2 then true else if k = 3 then decide ((tans t).2 = 0) else if k = 4 then decide (L.length ≤ 4096) && L.all (fun s => decide ((tans s).2 = 0)) else false
/-- As a text. -/
def txV (k : Int) (b : Bool) (n : Int) (no : Bool) (t : ByteArray) (L : List ByteArray) : ByteArray :=
  if k = 1 then ⟨if b then #[116, 114, 117, 101] else #[102, 97, 108, 115, 101]⟩
  else if k = 2 then (if no then ⟨#[78, 97, 78]⟩ else ⟨(Lib.itoa n).toArray⟩)
  else if k = 3 then t
  else L.headD ⟨#[]⟩
/-- As a number. -/
def nmV (k : Int) (b : Bool) (n : Int) (no : Bool) (t : ByteArray) (L : List ByteArray) : Int × Bool :=
  if k = 1 then (if b then 1 else 0, true)
  else if k = 2 then (if no then (0, false) else (n, true))
  else rdN (Tx (txV k b n no t L))

end Go.Proofs.YtoabgmpcdnikeaaGreatDoor
