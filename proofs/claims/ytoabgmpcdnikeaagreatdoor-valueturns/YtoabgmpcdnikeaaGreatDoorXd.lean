/- The document's read, in plain: parts of a text. -/
import Derived.Test.YtoabgmpcdnikeaaGreatDoorXb
import Derived.Test.YtoabgmpcdnikeaaGreatDoorXa
namespace Go.Proofs.YtoabgmpcdnikeaaGreatDoor
open Go.RowKit
set_option linter.unusedVariables false

theorem accN_append : ∀ (a b : Bs) (acc : Nat), accN acc (a ++ b) = (accN acc a).bind (fun m => accN m b)
  | [], b, acc => rfl
  | c :: r, b, acc => by
    simp only [List.cons_append, accN]
    split
    · split
      · rfl
      · exact accN_append r b _
    · rfl
theorem accN_le : ∀ (l : Bs) (acc v : Nat), accN acc l = some v → acc ≤ 9223372036854775808 → v ≤ 9223372036854775808 := fun l acc v h ha => (acc_some l acc v h ha).2
theorem blk_blank (b : UInt8) : blk.contains b = blankB b.toNat := by
  rw [Bool.eq_iff_iff]
  simp only [blk, List.contains_cons, List.contains_nil, Bool.or_eq_true, beq_iff_eq, Bool.or_false, blankB, decide_eq_true_eq]
  constructor
  · rintro (rfl | rfl | rfl | rfl) <;> simp
  · intro h
    have e : ∀ k : UInt8, b.toNat = k.toNat → b = k := fun k hk => UInt8.toNat_inj.1 hk
    rcases Nat.lt_or_ge b.toNat 256 with h2 | h2
    · first
      | (rcases h with h | h | h | h
         · exact .inl (e 9 h)
         · exact .inr (.inl (e 10 h))
         · exact .inr (.inr (.inl (e 13 h)))
         · exact .inr (.inr (.inr (e 32 h))))
      | (rcases h with h | h | h | h <;> (first | exact .inl (e 9 h) | exact .inr (.inl (e 10 h)) | exact .inr (.inr (.inl (e 13 h))) | exact .inr (.inr (.inr (e 32 h)))))
    · have := b.toNat_lt
      omega
theorem tx_at {s : ByteArray} {i : Nat} (h : i < s.size) : (Tx s)[i]? = some (s[i]'h) := by
  show s.data.toList[i]? = _
  rw [Array.getElem?_toList, Array.getElem?_eq_getElem h]
  rfl
theorem tx_len (s : ByteArray) : (Tx s).length = s.size := (Lib.size_eq s).symm

/-- A part of a text, from a place up to another one. -/
def part (s : ByteArray) (f e : Nat) : Bs := ((Tx s).take e).drop f
theorem part_cons {s : ByteArray} {f e : Nat} (h : f < e) (he : e ≤ s.size) : part s f e = s[f]'(by omega) :: part s (f + 1) e := by
  unfold part
  have hl : f < ((Tx s).take e).length := by rw [List.length_take, tx_len]; omega
  rw [List.drop_eq_getElem_cons hl]
  congr 1
  have h1 := tx_at (s := s) (i := f) (by omega)
  rw [List.getElem_take]
  rw [List.getElem?_eq_getElem (by rw [tx_len]; omega)] at h1
  exact Option.some.inj h1
theorem part_nil {s : ByteArray} {f : Nat} : part s f f = [] := by
  unfold part
  rw [List.drop_eq_nil_iff]
  simp
  omega
theorem part_split {s : ByteArray} {f p e : Nat} (h1 : f ≤ p) (h2 : p ≤ e) (he : e ≤ s.size) : part s f e = part s f p ++ part s p e := by
  unfold part
  have : (Tx s).take p = ((Tx s).take e).take p := by rw [List.take_take, Nat.min_eq_left h2]
  rw [this]
  generalize (Tx s).take e = l at *
  rw [← List.drop_append_of_le_length (l₂ := l.drop p) (by
    rw [List.length_take]
    have := congrArg List.length this
    simp only [List.length_take, tx_len] at this
    omega), List.take_append_drop]
theorem part_snoc {s : ByteArray} {f p : Nat} (h1 : f ≤ p) (h2 : p < s.size) : part s f (p + 1) = part s f p ++ [s[p]'h2] := by
  rw [part_split h1 (Nat.le_succ p) (by omega), part_cons (Nat.lt_succ_self p) (by omega), part_nil]
theorem trim_part {s : ByteArray} {i q : Nat} (hiq : i ≤ q) (hq : q < s.size) (h1 : ∀ (j : Nat) b, j < i → (Tx s)[j]? = some b → blk.contains b = true) (h2 : blk.contains (s[i]'(by omega)) = false) (h3 : ∀ (j : Nat) b, q + 1 ≤ j → (Tx s)[j]? = some b → blk.contains b = true) (h4 : blk.contains (s[q]'hq) = false) : Lib.trimS (Tx s) blk = part s i (q + 1) := by
  unfold Lib.trimS
  rw [Lib.trimRightS_take (Tx s) blk (q + 1) (by rw [tx_len]; omega) h3 (fun b _ hb => by
    simp only [Nat.add_sub_cancel] at hb
    rw [tx_at hq] at hb
    obtain rfl := Option.some.inj hb
    exact h4), Lib.trimLeftS_drop _ blk i (by rw [List.length_take, tx_len]; omega) (fun j b hj hb => by
    rw [List.getElem?_take_of_lt (by omega)] at hb
    exact h1 j b hj hb) (fun b hb => by
    rw [List.getElem?_take_of_lt (by omega), tx_at (by omega)] at hb
    obtain rfl := Option.some.inj hb
    exact h2)]
  rfl
theorem trim_all {s : ByteArray} (h1 : ∀ (j : Nat) b, j < s.size → (Tx s)[j]? = some b → blk.contains b = true) : Lib.trimS (Tx s) blk = [] := by
  unfold Lib.trimS
  rw [Lib.trimRightS_take (Tx s) blk 0 (by omega) (fun j b _ hb => h1 j b (by have := (List.getElem?_eq_some_iff.1 hb).1; rw [tx_len] at this; exact this) hb) (fun b h => absurd h (by omega))]
  rfl

end Go.Proofs.YtoabgmpcdnikeaaGreatDoor
