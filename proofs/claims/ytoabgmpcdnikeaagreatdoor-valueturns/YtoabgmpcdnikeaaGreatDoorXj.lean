/- The document's digits: a number's decimal digits; and its Text. -/
import Derived.Test.YtoabgmpcdnikeaaGreatDoorXi
import Derived.Laws.Bits64
namespace Go.Proofs.YtoabgmpcdnikeaaGreatDoor
open Go.RowKit
set_option linter.unusedVariables false

/-- The digits of what is left. -/
def dg (u : Nat) : Bs := if u = 0 then [] else Lib.decDigits u
theorem dec_step (u : Nat) : Lib.decDigits u = dg (u / 10) ++ [UInt8.ofNat (48 + u % 10)] := by
  rw [Lib.decDigits]
  split
  · rename_i h
    have e1 : u / 10 = 0 := by omega
    have e2 : u % 10 = u := by omega
    rw [e1, e2]
    rfl
  · rename_i h
    have e1 : u / 10 ≠ 0 := by omega
    simp only [dg, if_neg e1]
def Dg (v u : Nat) (z : Bs) : Prop := (z = [] ∧ u = v) ∨ (z ≠ [] ∧ dg u ++ z = Lib.decDigits v)
theorem Dg.step {v u : Nat} {z : Bs} (h : Dg v u z) (hg : 0 < u ∨ z = []) : Dg v (u / 10) (UInt8.ofNat (48 + u % 10) :: z) := by
  refine .inr ⟨by simp, ?_⟩
  rcases h with ⟨rfl, rfl⟩ | ⟨h1, h2⟩
  · exact (dec_step u).symm
  · have h3 : 0 < u := hg.resolve_right h1
    rw [← h2, show dg u = Lib.decDigits u from if_neg (by omega), dec_step u]
    simp
theorem Dg.done {v : Nat} {z : Bs} (h : Dg v 0 z) (hz : z ≠ []) : z = Lib.decDigits v := by
  rcases h with ⟨h1, _⟩ | ⟨_, h2⟩
  · exact absurd h1 hz
  · exact h2


theorem Dg.len {v u : Nat} {z : ByteArray} (h : Dg v u (Tx z)) (hv : v ≤ 9223372036854775808) : z.size ≤ 19 := by
  have e : z.size = (Tx z).length := by simp
  rw [e]
  rcases h with ⟨h1, _⟩ | ⟨_, h2⟩
  · rw [h1]; simp
  · have h3 := dec_short 18 v (by omega)
    rw [← h2, List.length_append] at h3
    omega
theorem conv_one (w : World) (x : Nat) (hx : x < 256) : (convert 131 9 (.slice (some ⟨w.heap.size, 0, none⟩) 1 1)).run Tryz.prog (w.alloc (.cells #[.int .u8 (x : Int)] 5)) = .ok (.string ⟨#[UInt8.ofNat x]⟩) (w.alloc (.cells #[.int .u8 (x : Int)] 5)) := by
  refine conv_new w [UInt8.ofNat x] _ ?_ 1 rfl
  simp [Lib.byteCells]
  omega
theorem tx_app (a b : ByteArray) : Tx (a ++ b) = Tx a ++ Tx b := by simp

def strN : Value → Nat | .string s => if Tx s = [] then 1 else 0 | _ => 0
theorem ba_eq {a b : ByteArray} (h : Tx a = Tx b) : a = b := by
  cases a; cases b; exact congrArg ByteArray.mk (Array.toList_inj.1 h)

set_option maxRecDepth 100000 in
theorem ddig_pos (w : World) (v : Nat) (h1 : v ≤ 9223372036854775807) (z1 : ByteArray) (hz1 : Tx z1 = Lib.decDigits v) : Calls Tryz.prog 43 #[.int .i64 (v : Int)] w fun e w' => e = .returned (.string z1) ∧ Below w.heap.size w w' := by
  have HZ : Hid (Tx z1 = Lib.decDigits v) := hz1
  clear hz1
  have hv0 : ¬ (v : Int) < 0 := by omega
  go_enter Tryz.func43, Tryz.ntmps43
  go_wp2
  go_loopw [3, 4] (fun u3 u4 wr => ∃ (m : Nat) (z : ByteArray), m ≤ 9223372036854775808 ∧ u3 = .int .u64 (m : Int) ∧ u4 = .string z ∧ Hid (Below w.heap.size w wr ∧ Dg v m (Tx z))) (fun u3 u4 _ => 2 * (intOf u3).toNat + strN u4)
  case atStart => exact ⟨v, ⟨#[]⟩, by omega, rfl, rfl, Below.refl _ _, .inl ⟨rfl, rfl⟩⟩
  case round =>
    obtain ⟨m, z, hm, rfl, rfl, HS⟩ := hrel
    by_cases hg : 0 < m
    · have hgz : (0 : Int) < (m : Int) := by omega
      have HG : 0 < m ∨ Tx z = [] := .inl hg
      have hcv := conv_one wr (48 + m % 10) (by omega)
      rw [show ((48 + m % 10 : Nat) : Int) = 48 + (m : Int) % 10 from by omega] at hcv
      have hdz : Tx ((⟨#[UInt8.ofNat (48 + m % 10)]⟩ : ByteArray) ++ z) ≠ [] := by rw [tx_app]; simp
      have HD : Hid (Dg v (m / 10) (Tx ((⟨#[UInt8.ofNat (48 + m % 10)]⟩ : ByteArray) ++ z))) := by
        have h := HS.out.2.step HG
        show Dg _ _ _
        rw [tx_app]
        exact h
      have hcz : (⟨#[UInt8.ofNat (48 + m % 10)]⟩ : ByteArray).size + z.size ≤ 9223372036854775807 := by have h := HS.out.2.len (by omega); have e : (⟨#[UInt8.ofNat (48 + m % 10)]⟩ : ByteArray).size = 1 := rfl; omega
      generalize (⟨#[UInt8.ofNat (48 + m % 10)]⟩ : ByteArray) = d at *
      go_wp2
      go_roundw
      case rel => exact ⟨m / 10, d ++ z, by omega, by go_num, rfl, HS.out.1.alloc HS.out.1.size _, HD.out⟩
      case measure => have e1 : strN (.string (d ++ z)) = 0 := if_neg hdz; rw [e1]; simp [intOf]; omega
    · have hgz : ¬ (0 : Int) < (m : Int) := by omega
      by_cases hze : z.toList.isEmpty = true
      · have HG : 0 < m ∨ Tx z = [] := .inr (by rw [Lib.toList_data] at hze; exact List.isEmpty_iff.1 hze)
        have hcv := conv_one wr (48 + m % 10) (by omega)
        rw [show ((48 + m % 10 : Nat) : Int) = 48 + (m : Int) % 10 from by omega] at hcv
        have hdz : Tx ((⟨#[UInt8.ofNat (48 + m % 10)]⟩ : ByteArray) ++ z) ≠ [] := by rw [tx_app]; simp
        have HD : Hid (Dg v (m / 10) (Tx ((⟨#[UInt8.ofNat (48 + m % 10)]⟩ : ByteArray) ++ z))) := by
          have h := HS.out.2.step HG
          show Dg _ _ _
          rw [tx_app]
          exact h
        have hcz : (⟨#[UInt8.ofNat (48 + m % 10)]⟩ : ByteArray).size + z.size ≤ 9223372036854775807 := by have h := HS.out.2.len (by omega); have e : (⟨#[UInt8.ofNat (48 + m % 10)]⟩ : ByteArray).size = 1 := rfl; omega
        generalize (⟨#[UInt8.ofNat (48 + m % 10)]⟩ : ByteArray) = d at *
        go_wp2
        go_roundw
        case rel => exact ⟨m / 10, d ++ z, by omega, by go_num, rfl, HS.out.1.alloc HS.out.1.size _, HD.out⟩
        case measure => have e1 : strN (.string (d ++ z)) = 0 := if_neg hdz; have e2 : strN (.string z) = 1 := if_pos (by rw [Lib.toList_data] at hze; exact List.isEmpty_iff.1 hze); rw [e1, e2]; simp [intOf]; omega
      · rw [Bool.not_eq_true] at hze
        have hne : Tx z ≠ [] := fun e => by rw [Lib.toList_data, show z.data.toList = [] from e] at hze; cases hze
        obtain rfl : m = 0 := by omega
        have HE : Hid (z = z1) := ba_eq (by symm; exact HZ.out.trans (HS.out.2.done hne).symm)
        go_wp2
        go_ret
        exact ⟨congrArg _ (v_str HE.out), HS.out.1⟩

set_option maxRecDepth 100000 in
theorem ddig_neg (w : World) (v : Nat) (h0 : 0 < v) (h1 : v ≤ 9223372036854775808) (z1 : ByteArray) (hz1 : Tx z1 = 45 :: Lib.decDigits v) : Calls Tryz.prog 43 #[.int .i64 (-(v : Int))] w fun e w' => e = .returned (.string z1) ∧ Below w.heap.size w w' := by
  have HZ : Hid (Tx z1 = 45 :: Lib.decDigits v) := hz1
  clear hz1
  have hv0 : -(v : Int) < 0 := by omega
  go_enter Tryz.func43, Tryz.ntmps43
  go_wp2
  go_loopw [3, 4] (fun u3 u4 wr => ∃ (m : Nat) (z : ByteArray), m ≤ 9223372036854775808 ∧ u3 = .int .u64 (m : Int) ∧ u4 = .string z ∧ Hid (Below w.heap.size w wr ∧ Dg v m (Tx z))) (fun u3 u4 _ => 2 * (intOf u3).toNat + strN u4)
  case atStart => exact ⟨v, ⟨#[]⟩, by omega, by first | rfl | (congr 1; rw [IntKind.wrap_u64, IntKind.wrap_u64]; omega), rfl, Below.refl _ _, .inl ⟨rfl, rfl⟩⟩
  case round =>
    obtain ⟨m, z, hm, rfl, rfl, HS⟩ := hrel
    by_cases hg : 0 < m
    · have hgz : (0 : Int) < (m : Int) := by omega
      have HG : 0 < m ∨ Tx z = [] := .inl hg
      have hcv := conv_one wr (48 + m % 10) (by omega)
      rw [show ((48 + m % 10 : Nat) : Int) = 48 + (m : Int) % 10 from by omega] at hcv
      have hdz : Tx ((⟨#[UInt8.ofNat (48 + m % 10)]⟩ : ByteArray) ++ z) ≠ [] := by rw [tx_app]; simp
      have HD : Hid (Dg v (m / 10) (Tx ((⟨#[UInt8.ofNat (48 + m % 10)]⟩ : ByteArray) ++ z))) := by
        have h := HS.out.2.step HG
        show Dg _ _ _
        rw [tx_app]
        exact h
      have hcz : (⟨#[UInt8.ofNat (48 + m % 10)]⟩ : ByteArray).size + z.size ≤ 9223372036854775807 := by have h := HS.out.2.len (by omega); have e : (⟨#[UInt8.ofNat (48 + m % 10)]⟩ : ByteArray).size = 1 := rfl; omega
      generalize (⟨#[UInt8.ofNat (48 + m % 10)]⟩ : ByteArray) = d at *
      go_wp2
      go_roundw
      case rel => exact ⟨m / 10, d ++ z, by omega, by go_num, rfl, HS.out.1.alloc HS.out.1.size _, HD.out⟩
      case measure => have e1 : strN (.string (d ++ z)) = 0 := if_neg hdz; rw [e1]; simp [intOf]; omega
    · have hgz : ¬ (0 : Int) < (m : Int) := by omega
      by_cases hze : z.toList.isEmpty = true
      · have HG : 0 < m ∨ Tx z = [] := .inr (by rw [Lib.toList_data] at hze; exact List.isEmpty_iff.1 hze)
        have hcv := conv_one wr (48 + m % 10) (by omega)
        rw [show ((48 + m % 10 : Nat) : Int) = 48 + (m : Int) % 10 from by omega] at hcv
        have hdz : Tx ((⟨#[UInt8.ofNat (48 + m % 10)]⟩ : ByteArray) ++ z) ≠ [] := by rw [tx_app]; simp
        have HD : Hid (Dg v (m / 10) (Tx ((⟨#[UInt8.ofNat (48 + m % 10)]⟩ : ByteArray) ++ z))) := by
          have h := HS.out.2.step HG
          show Dg _ _ _
          rw [tx_app]
          exact h
        have hcz : (⟨#[UInt8.ofNat (48 + m % 10)]⟩ : ByteArray).size + z.size ≤ 9223372036854775807 := by have h := HS.out.2.len (by omega); have e : (⟨#[UInt8.ofNat (48 + m % 10)]⟩ : ByteArray).size = 1 := rfl; omega
        generalize (⟨#[UInt8.ofNat (48 + m % 10)]⟩ : ByteArray) = d at *
        go_wp2
        go_roundw
        case rel => exact ⟨m / 10, d ++ z, by omega, by go_num, rfl, HS.out.1.alloc HS.out.1.size _, HD.out⟩
        case measure => have e1 : strN (.string (d ++ z)) = 0 := if_neg hdz; have e2 : strN (.string z) = 1 := if_pos (by rw [Lib.toList_data] at hze; exact List.isEmpty_iff.1 hze); rw [e1, e2]; simp [intOf]; omega
      · rw [Bool.not_eq_true] at hze
        have hne : Tx z ≠ [] := fun e => by rw [Lib.toList_data, show z.data.toList = [] from e] at hze; cases hze
        obtain rfl : m = 0 := by omega
        have hcz : 1 + z.size ≤ 9223372036854775807 := by have h := HS.out.2.len (by omega); omega
        have HE : Hid (⟨#[45]⟩ ++ z = z1) := ba_eq (by symm; exact HZ.out.trans (by rw [tx_app, ← HS.out.2.done hne]; rfl))
        go_wp2
        go_ret
        exact ⟨congrArg _ (v_str HE.out), HS.out.1⟩

end Go.Proofs.YtoabgmpcdnikeaaGreatDoor
