/- Lists of numbers: one of the one and one of the other: the program's someNumbers. -/
import Derived.Test.YtoabgmpcdnikeaaGreatDoorVh
namespace Go.Proofs.YtoabgmpcdnikeaaGreatDoor
open Go.RowKit
set_option linter.unusedVariables false

/-- Numbers in memory. -/
def NsAt (w : World) (a : Option Addr) (A : List Nm) : Prop := ∀ i x, A[i]? = some x → ∃ b o, a = some ⟨b, o, none⟩ ∧ b < w.heap.size ∧ w.cell? ⟨b, o + i * 2, none⟩ = some (.int .i64 x.1) ∧ w.cell? ⟨b, o + i * 2 + 1, none⟩ = some (.bool x.2)
theorem NsAt.bel {w w' : World} {a : Option Addr} {A : List Nm} (h : NsAt w a A) (hb : Below w.heap.size w w') : NsAt w' a A := fun i x hx => by
  obtain ⟨b, o, h1, h2, h3, h4⟩ := h i x hx
  exact ⟨b, o, h1, Nat.lt_of_lt_of_le h2 hb.size, (hb.cell (p := ⟨b, o + i * 2, none⟩) h2).trans h3, (hb.cell (p := ⟨b, o + i * 2 + 1, none⟩) h2).trans h4⟩

set_option maxRecDepth 100000 in
set_option maxHeartbeats 4000000 in
theorem some_any (w : World) (op : ByteArray) (ho : IsOp op) {a b : Option Addr} {ca cb : Nat} {A B : List Nm} (hA : NsAt w a A) (hB : NsAt w b B) (la : A.length ≤ 4611686018427387904) (lb : B.length ≤ 4611686018427387904) (R : Bool) (hR : anyN op A B = R) :
    Calls Tryz.prog 72 #[.string op, .slice a A.length ca, .slice b B.length cb] w fun e w' => e = .returned (.bool R) ∧ Below w.heap.size w w' := by
  have HH : Hid (NsAt w a A ∧ NsAt w b B ∧ IsOp op ∧ anyN op A B = R) := ⟨hA, hB, ho, hR⟩
  clear hA hB ho hR
  go_enter Tryz.func72, Tryz.ntmps72
  go_wp2
  go_loopw [8, 10, 13] (fun _ _ u wr => ∃ i : Nat, i ≤ A.length ∧ u = .int .i64 (i : Int) ∧ Hid (Below w.heap.size w wr ∧ (A.take i).any (fun x => B.any fun y => nmB op x.1 x.2 y.1 y.2) = false)) (fun _ _ u _ => A.length - (intOf u).toNat)
  case atStart => exact ⟨0, by omega, rfl, Below.refl _ _, rfl⟩
  case round =>
    obtain ⟨i, hi, rfl, HS⟩ := hrel
    obtain ⟨wo, hwo⟩ : ∃ wo, wo = wr := ⟨_, rfl⟩
    subst hwo
    by_cases hlt : i < A.length
    · have hltz : (i : Int) < (A.length : Int) := by omega
      obtain ⟨x, hx⟩ : ∃ x, A[i]? = some x := ⟨_, List.getElem?_eq_getElem hlt⟩
      obtain ⟨b1, o1, rfl, hb1, x0, x1⟩ := (HH.out.1.bel HS.out.1) i x hx
      have HT : Hid ((A.take (i + 1)).any (fun x => B.any fun y => nmB op x.1 x.2 y.1 y.2) = B.any fun y => nmB op x.1 x.2 y.1 y.2) := any_take HS.out.2 hx
      have HY : Hid ((B.any fun y => nmB op x.1 x.2 y.1 y.2) = true → R = true) := fun h => by
        rw [← HH.out.2.2.2]
        unfold anyN
        rw [List.any_eq_true]
        exact ⟨x, List.mem_of_getElem? hx, h⟩
      clear hx
      obtain ⟨xn, xb⟩ := x
      simp only at x0 x1
      obtain ⟨W, hW⟩ : ∃ W, (wo.alloc (.cells #[.int .i64 xn, .bool xb] 78)) = W := ⟨_, rfl⟩
      have HW : Hid ((wo.alloc (.cells #[.int .i64 xn, .bool xb] 78)) = W ∧ Below w.heap.size w W ∧ IsCells W wo.heap.size #[.int .i64 xn, .bool xb]) := ⟨hW, by rw [← hW]; exact HS.out.1.alloc HS.out.1.size _, by rw [← hW]; exact isCells_new _ _ _⟩
      clear hW
      have hsz := HS.out.1.size
      go_wp2_with fail
      rw [HW.out.1]
      go_wp2
      go_loopw [10, 19] (fun _ u wq => ∃ k : Nat, k ≤ B.length ∧ u = .int .i64 (k : Int) ∧ Hid (Below w.heap.size w wq ∧ IsCells wq wo.heap.size #[.int .i64 xn, .bool xb] ∧ (B.take k).any (fun y => nmB op xn xb y.1 y.2) = false)) (fun _ u _ => B.length - (intOf u).toNat)
      case atStart => exact ⟨0, by omega, rfl, HW.out.2.1, HW.out.2.2, rfl⟩
      case round =>
        obtain ⟨k, hk, rfl, HK⟩ := hrel
        by_cases hlk : k < B.length
        · have hlkz : (k : Int) < (B.length : Int) := by omega
          obtain ⟨y, hy⟩ : ∃ y, B[k]? = some y := ⟨_, List.getElem?_eq_getElem hlk⟩
          obtain ⟨b2, o2, rfl, hb2, y0, y1⟩ := (HH.out.2.1.bel HK.out.1) k y hy
          have HT2 : Hid ((B.take (k + 1)).any (fun y => nmB op xn xb y.1 y.2) = nmB op xn xb y.1 y.2) := any_take HK.out.2.2 hy
          have HY2 : Hid (nmB op xn xb y.1 y.2 = true → R = true) := fun h => HY.out (by rw [List.any_eq_true]; exact ⟨y, List.mem_of_getElem? hy, h⟩)
          clear hy
          obtain ⟨yn, yb⟩ := y
          simp only at y0 y1
          obtain ⟨W2, hW2⟩ : ∃ W2, (wr.alloc (.cells #[.int .i64 yn, .bool yb] 78)) = W2 := ⟨_, rfl⟩
          have HW2 : Hid ((wr.alloc (.cells #[.int .i64 yn, .bool yb] 78)) = W2 ∧ Below w.heap.size w W2 ∧ IsCells W2 wo.heap.size #[.int .i64 xn, .bool xb] ∧ IsCells W2 wr.heap.size #[.int .i64 yn, .bool yb]) := ⟨hW2, by rw [← hW2]; exact HK.out.1.alloc HK.out.1.size _, by rw [← hW2]; exact HK.out.2.1.alloc _, by rw [← hW2]; exact isCells_new _ _ _⟩
          clear hW2
          have c0 : W2.cell? ⟨wo.heap.size, 0, none⟩ = some (.int .i64 xn) := HW2.out.2.2.1.cell 0
          have c1 : W2.cell? ⟨wo.heap.size, 1, none⟩ = some (.bool xb) := HW2.out.2.2.1.cell 1
          have d0 : W2.cell? ⟨wr.heap.size, 0, none⟩ = some (.int .i64 yn) := HW2.out.2.2.2.cell 0
          have d1 : W2.cell? ⟨wr.heap.size, 1, none⟩ = some (.bool yb) := HW2.out.2.2.2.cell 1
          have hm := meet_any W2 op HH.out.2.2.1 xn yn xb yb
          have hsq := HK.out.1.size
          have e0 : wr.cell? ⟨wo.heap.size, 0, none⟩ = some (.int .i64 xn) := HK.out.2.1.cell 0
          have e1 : wr.cell? ⟨wo.heap.size, 1, none⟩ = some (.bool xb) := HK.out.2.1.cell 1
          have el : wo.heap.size < wr.heap.size := HK.out.2.1.lt
          simp only at HT2 HY2
          generalize nmB op xn xb yn yb = q at *
          go_wp2_with fail
          rw [HW2.out.1]
          with_reducible refine hm.mono ?_
          rintro e w3 ⟨rfl, hb3⟩
          have HB3 : Hid (Below w.heap.size w w3 ∧ IsCells w3 wo.heap.size #[.int .i64 xn, .bool xb]) := ⟨HW2.out.2.1.trans (hb3.mono HW2.out.2.1.size), HW2.out.2.2.1.of_block (hb3.block _ HW2.out.2.2.1.lt)⟩
          clear hb3 hm c0 c1 d0 d1
          cases q with
          | true =>
            have HR := HY2.out rfl
            subst HR
            go_wp2
            go_ret
            exact ⟨rfl, HB3.out.1⟩
          | false =>
            go_wp2
            go_roundw
            case rel => exact ⟨k + 1, by omega, by go_num, HB3.out.1, HB3.out.2, HT2.out⟩
            case measure => simp [intOf]; omega
        · have hlkz : ¬ (k : Int) < (B.length : Int) := by omega
          have HU : Hid (Below w.heap.size w wr ∧ (A.take (i + 1)).any (fun x => B.any fun y => nmB op x.1 x.2 y.1 y.2) = false) := ⟨HK.out.1, by
            rw [HT.out]
            have h1 := HK.out.2.2
            rw [List.take_of_length_le (by omega)] at h1
            exact h1⟩
          clear HK HT HY HW
          go_wp2
          go_roundw
          case rel => exact ⟨i + 1, by omega, by go_num, HU⟩
          case measure => simp [intOf]; omega
    · have hltz : ¬ (i : Int) < (A.length : Int) := by omega
      have hfin : R = false := by
        have h1 := HS.out.2
        rw [List.take_of_length_le (by omega)] at h1
        exact HH.out.2.2.2.symm.trans h1
      subst hfin
      go_wp2
      go_ret
      exact ⟨rfl, HS.out.1⟩

end Go.Proofs.YtoabgmpcdnikeaaGreatDoor
