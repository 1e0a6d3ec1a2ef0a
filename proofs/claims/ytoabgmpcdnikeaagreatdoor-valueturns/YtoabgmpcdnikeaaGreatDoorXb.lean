/- How the document reads a number, in plain: the same numbers. -/
import Derived.Test.YtoabgmpcdnikeaaGreatDoorVe
namespace Go.Proofs.YtoabgmpcdnikeaaGreatDoor
open Go.RowKit
set_option linter.unusedVariables false

/-- How far it is from 0, as the document reckons it. -/
def accN : Nat → Bs → Option Nat
  | acc, [] => some acc
  | acc, c :: r => if 48 ≤ c.toNat ∧ c.toNat ≤ 57 then (if 9223372036854775808 < acc * 10 + (c.toNat - 48) then none else accN (acc * 10 + (c.toNat - 48)) r) else none
/-- A text without blanks around, as a number. -/
def rd2 (t : Bs) : Int × Bool :=
  match t with
  | [] => (0, false)
  | c :: r =>
    if c.toNat = 45 then (if r = [] then (0, false) else match accN 0 r with
      | none => (0, false)
      | some n => (-(n : Int), true))
    else match accN 0 (c :: r) with
      | none => (0, false)
      | some n => if n < 9223372036854775808 then ((n : Int), true) else (0, false)

theorem pum_ge (M : Nat) : ∀ (l : Bs) (acc v : Nat), Lib.parseUintM M acc l = .ok v → acc ≤ v
  | [], acc, v, h => by
    simp only [Lib.parseUintM] at h
    injection h with h
    omega
  | c :: r, acc, v, h => by
    simp only [Lib.parseUintM] at h
    split at h
    · split at h
      · cases h
      · split at h
        · cases h
        · have := pum_ge M r _ v h
          omega
    · cases h
theorem acc_some : ∀ (l : Bs) (acc v : Nat), accN acc l = some v → acc ≤ 9223372036854775808 → Lib.parseUintM 18446744073709551615 acc l = .ok v ∧ v ≤ 9223372036854775808
  | [], acc, v, h, ha => by
    simp only [accN, Option.some.injEq] at h
    subst h
    exact ⟨rfl, ha⟩
  | c :: r, acc, v, h, ha => by
    simp only [accN] at h
    simp only [Lib.parseUintM]
    split at h
    · rename_i hd
      split at h
      · cases h
      · rename_i hv
        rw [if_pos hd, if_neg (by omega), if_neg (by omega)]
        exact acc_some r _ v h (by omega)
    · cases h
theorem acc_none : ∀ (l : Bs) (acc : Nat), accN acc l = none → ∀ v, Lib.parseUintM 18446744073709551615 acc l = .ok v → 9223372036854775808 < v
  | [], acc, h, v, hv => by simp [accN] at h
  | c :: r, acc, h, v, hv => by
    simp only [accN] at h
    simp only [Lib.parseUintM] at hv
    split at h
    · rename_i hd
      rw [if_pos hd] at hv
      split at hv
      · cases hv
      · split at hv
        · cases hv
        · split at h
          · have := pum_ge _ r _ v hv
            omega
          · exact acc_none r _ h v hv
    · rename_i hd
      rw [if_neg hd] at hv
      cases hv

theorem pib_neg {c : UInt8} {r : Bs} (h : c.toNat = 45) : Lib.parseIntB 64 (c :: r) = if r = [] then .«syntax» else match Lib.parseUintM 18446744073709551615 0 r with
    | .«syntax» => .«syntax»
    | .range => .range
    | .ok u => if 9223372036854775808 < u then .range else .ok (-(u : Int)) := by
  unfold Lib.parseIntB Lib.parseUintB
  simp only [h, or_true, if_true, not_true_eq_false, false_and, if_false, true_and]
  by_cases hr : r = []
  · simp [hr]
  · simp only [hr, if_false]
    rfl
theorem pib_pos {c : UInt8} {r : Bs} (h : c.toNat ≠ 45) (h2 : c.toNat ≠ 43) : Lib.parseIntB 64 (c :: r) = match Lib.parseUintM 18446744073709551615 0 (c :: r) with
    | .«syntax» => .«syntax»
    | .range => .range
    | .ok u => if 9223372036854775808 ≤ u then .range else .ok (u : Int) := by
  unfold Lib.parseIntB Lib.parseUintB
  simp only [h, h2, or_self, if_false, not_false_eq_true, true_and, false_and, List.cons_ne_nil]
  rfl
theorem rd2_eq (s : Bs) : rd2 (Lib.trimS s blk) = rdN s := by
  cases ht : Lib.trimS s blk with
  | nil =>
    rw [rd_no (s := s) (fun v => by rw [ht]; simp [Lib.parseIntB])]
    rfl
  | cons c r =>
    have hh : (Lib.trimS s blk).head? = some c := by rw [ht]; rfl
    by_cases h45 : c.toNat = 45
    · have h43 : (Lib.trimS s blk).head? ≠ some 43 := by
        rw [hh]
        intro e
        have := Option.some.inj e
        subst this
        simp at h45
      simp only [rd2, h45, if_true]
      by_cases hr : r = []
      · rw [if_pos hr, rd_no (s := s) (fun v => by rw [ht, pib_neg h45, if_pos hr]; simp)]
      · rw [if_neg hr]
        cases ha : accN 0 r with
        | none =>
          rw [rd_no (s := s) (fun v => by
            rw [ht, pib_neg h45, if_neg hr]
            cases hp : Lib.parseUintM 18446744073709551615 0 r with
            | ok u =>
              have := acc_none r 0 ha u hp
              simp only
              rw [if_pos this]
              simp
            | «syntax» => simp
            | range => simp)]
        | some n =>
          obtain ⟨h1, h2⟩ := acc_some r 0 n ha (by omega)
          rw [rd_yes (s := s) (v := -(n : Int)) (by rw [ht, pib_neg h45, if_neg hr, h1]; simp only; rw [if_neg (by omega)]) h43]
    · by_cases h43 : c.toNat = 43
      · have hc : c = 43 := UInt8.toNat_inj.1 h43
        subst hc
        have ha : accN 0 (43 :: r) = none := by simp [accN]
        simp only [rd2, ha]
        rw [if_neg h45]
        cases hp : Lib.parseIntB 64 (Lib.trimS s blk) with
        | ok v => rw [rd_plus hp hh]
        | «syntax» => rw [rd_no (s := s) (fun v => by rw [hp]; simp)]
        | range => rw [rd_no (s := s) (fun v => by rw [hp]; simp)]
      · have h43' : (Lib.trimS s blk).head? ≠ some 43 := by
          rw [hh]
          intro e
          have := Option.some.inj e
          subst this
          simp at h43
        simp only [rd2, h45, if_false]
        cases ha : accN 0 (c :: r) with
        | none =>
          rw [rd_no (s := s) (fun v => by
            rw [ht, pib_pos h45 h43]
            cases hp : Lib.parseUintM 18446744073709551615 0 (c :: r) with
            | ok u =>
              have := acc_none (c :: r) 0 ha u hp
              simp only
              rw [if_pos (by omega)]
              simp
            | «syntax» => simp
            | range => simp)]
        | some n =>
          obtain ⟨h1, h2⟩ := acc_some (c :: r) 0 n ha (by omega)
          by_cases hn : n < 9223372036854775808
          · rw [rd_yes (s := s) (v := (n : Int)) (by rw [ht, pib_pos h45 h43, h1]; simp only; rw [if_neg (by omega)]) h43']
            simp only [hn, if_true]
          · rw [rd_no (s := s) (fun v => by rw [ht, pib_pos h45 h43, h1]; simp only; rw [if_pos (by omega)]; simp)]
            simp only [hn, if_false]

end Go.Proofs.YtoabgmpcdnikeaaGreatDoor
