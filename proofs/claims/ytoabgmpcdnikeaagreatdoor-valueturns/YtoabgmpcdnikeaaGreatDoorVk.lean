/- The least and the greatest number of a list: the program's ends. -/
import Derived.Test.YtoabgmpcdnikeaaGreatDoorVj
import Derived.BigRegion
namespace Go.Proofs.YtoabgmpcdnikeaaGreatDoor
open Go.RowKit
set_option linter.unusedVariables false

theorem ends_snoc {A : List Nm} {i : Nat} {x : Nm} (h : A[i]? = some x) : ends (A.take (i + 1)) = endS (ends (A.take i)) x := by
  unfold ends
  rw [List.take_add_one, h, List.foldl_append]
  rfl
/-- The two under way. -/
def EnS (w : World) (E : List Nm) (v : Value) (wr : World) : Prop := (E = [] ∧ v = .slice none 0 0) ∨ (∃ g lo hi, E = [(lo, true), (hi, true)] ∧ v = .slice (some ⟨g, 0, none⟩) 2 2 ∧ w.heap.size ≤ g ∧ IsCells wr g #[.int .i64 lo, .bool true, .int .i64 hi, .bool true])

set_option maxRecDepth 100000 in
set_option maxHeartbeats 4000000 in
theorem ends_any (w : World) {a : Option Addr} {ca : Nat} {A : List Nm} (hA : NsAt w a A) (la : A.length ≤ 4611686018427387904) :
    Calls Tryz.prog 73 #[.slice a A.length ca] w (NP w (ends A)) := by
  have HH : Hid (NsAt w a A) := hA
  have nq0 : ∀ w, (binOp .eql 122 (.slice none 0 0) (.slice none 0 0)).run Tryz.prog w = .ok (.bool true) w := fun _ => by kernel_rfl
  have nq1 : ∀ ad w, (binOp .eql 122 (.slice (some ad) 2 2) (.slice none 0 0)).run Tryz.prog w = .ok (.bool false) w := fun _ _ => by kernel_rfl
  clear hA
  go_enter Tryz.func73, Tryz.ntmps73
  go_wp2
  go_loopw [3, 5, 8] (fun v _ u wr => ∃ i : Nat, i ≤ A.length ∧ u = .int .i64 (i : Int) ∧ Hid (Below w.heap.size w wr ∧ EnS w (ends (A.take i)) v wr)) (fun _ _ u _ => A.length - (intOf u).toNat)
  case atStart => exact ⟨0, by omega, rfl, Below.refl _ _, .inl ⟨rfl, rfl⟩⟩
  case round =>
    obtain ⟨i, hi, rfl, HS⟩ := hrel
    by_cases hlt : i < A.length
    · have hltz : (i : Int) < (A.length : Int) := by omega
      obtain ⟨x, hx⟩ : ∃ x, A[i]? = some x := ⟨_, List.getElem?_eq_getElem hlt⟩
      obtain ⟨b1, o1, rfl, hb1, x0, x1⟩ := (HH.out.bel HS.out.1) i x hx
      have HT : Hid (ends (A.take (i + 1)) = endS (ends (A.take i)) x) := ends_snoc hx
      clear hx
      obtain ⟨xn, xb⟩ := x
      simp only at x0 x1
      have hsz := HS.out.1.size
      cases xb with
      | false =>
        have HU : Hid (∀ o, Below w.heap.size w (wr.alloc o) ∧ EnS w (ends (A.take (i + 1))) u3 (wr.alloc o)) := fun o => ⟨HS.out.1.alloc hsz _, by
          rw [HT.out]
          rcases HS.out.2 with h | ⟨g, lo, hi2, h1, h2, h3, h4⟩
          · exact .inl h
          · exact .inr ⟨g, lo, hi2, h1, h2, h3, h4.alloc _⟩⟩
        go_wp2
        go_roundw
        case rel => exact ⟨i + 1, by omega, by go_num, HU.out _⟩
        case measure => simp [intOf]; omega
      | true =>
        rcases HS.out.2 with ⟨h1, rfl⟩ | ⟨g, lo, hi2, h1, rfl, h3, h4⟩
        · have HE : Hid (ends (A.take (i + 1)) = [(xn, true), (xn, true)]) := by show _ = _; rw [HT.out, h1]; rfl
          clear h1
          have HB := HS.out.1
          have HB1 : Hid (Below w.heap.size w wr) := HB
          clear HB
          go_wp2
          go_roundw
          case rel => exact ⟨i + 1, by omega, by go_num, (HB1.out.alloc hsz _).alloc (by simp; omega) _, .inr ⟨wr.heap.size + 1, xn, xn, HE.out, rfl, by omega, by
            have := isCells_new (wr.alloc (.cells #[.int .i64 xn, .bool true] 78)) #[.int .i64 xn, .bool true, .int .i64 xn, .bool true] 78
            simpa using this⟩⟩
          case measure => simp [intOf]; omega
        · have HE : Hid (ends (A.take (i + 1)) = [(min lo xn, true), (max hi2 xn, true)]) := by show _ = _; rw [HT.out, h1]; rfl
          clear h1
          have HB1 : Hid (Below w.heap.size w wr ∧ IsCells wr g #[.int .i64 lo, .bool true, .int .i64 hi2, .bool true] ∧ w.heap.size ≤ g) := ⟨HS.out.1, h4, h3⟩
          have g0 : wr.cell? ⟨g, 0, none⟩ = some (.int .i64 lo) := h4.cell 0
          have g1 : wr.cell? ⟨g, 1, none⟩ = some (.bool true) := h4.cell 1
          have g2 : wr.cell? ⟨g, 2, none⟩ = some (.int .i64 hi2) := h4.cell 2
          have g3 : wr.cell? ⟨g, 3, none⟩ = some (.bool true) := h4.cell 3
          have f0 : wr.frozen? ⟨g, 0, none⟩ = false := h4.frozen 0
          have f2 : wr.frozen? ⟨g, 2, none⟩ = false := h4.frozen 2
          have hgl := h4.lt
          have hgn : g ≠ wr.heap.size := by omega
          clear h4
          go_wp2
          go_region
          go_wp2
          go_roundw
          case rel =>
            refine ⟨i + 1, by omega, by go_num, ?_, .inr ⟨g, min lo xn, max hi2 xn, HE.out, rfl, HB1.out.2.2, ?_⟩⟩
            · exact (((HB1.out.1.setCell (p := ⟨g, 0, none⟩) HB1.out.2.2 _).setCell (p := ⟨g, 2, none⟩) HB1.out.2.2 _).alloc (by simp [World.setCell]; exact hsz) _).drew
            · have h5 := (((HB1.out.2.1.set 0 (.int .i64 (min lo xn))).set 2 (.int .i64 (max hi2 xn))).alloc (.cells #[.int .i64 xn, .bool true] 78))
              simp at h5
              exact h5.of_block rfl
          case measure => simp [intOf]; omega
    · have hltz : ¬ (i : Int) < (A.length : Int) := by omega
      have HF : Hid (∃ (c : Option Addr) (n : Nat), u3 = Value.slice c n n ∧ NP w (ends A) (.returned u3) wr) := by
        have h1 := HS.out.2
        rw [List.take_of_length_le (by omega)] at h1
        rcases h1 with ⟨h1, rfl⟩ | ⟨g, lo, hi2, h1, rfl, h3, h4⟩
        · exact ⟨_, _, rfl, none, 0, by rw [h1]; rfl, fun i x hx => by rw [h1] at hx; simp at hx, HS.out.1, fun ad h => (by cases h)⟩
        · refine ⟨_, _, rfl, _, 2, by rw [h1]; rfl, fun i x hx => ?_, HS.out.1, fun ad h => (by cases h; exact h3)⟩
          rw [h1] at hx
          match i, hx with
          | 0, hx =>
            simp at hx
            subst hx
            exact ⟨g, 0, rfl, h4.lt, by simpa using h4.cell 0, by simpa using h4.cell 1⟩
          | 1, hx =>
            simp at hx
            subst hx
            exact ⟨g, 0, rfl, h4.lt, by simpa using h4.cell 2, by simpa using h4.cell 3⟩
          | j + 2, hx => simp at hx
      obtain ⟨c3, n3, rfl, hnp⟩ := HF.out
      have HF2 : Hid _ := hnp
      clear hnp HF HS
      go_wp2
      go_ret
      exact HF2.out

end Go.Proofs.YtoabgmpcdnikeaaGreatDoor
