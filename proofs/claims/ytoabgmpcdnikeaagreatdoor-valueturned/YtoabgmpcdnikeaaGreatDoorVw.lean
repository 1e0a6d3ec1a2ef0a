/- Turned about: the law's body. -/
import Derived.Test.YtoabgmpcdnikeaaGreatDoorVv
import Derived.BigQuiet
namespace Go.Proofs.YtoabgmpcdnikeaaGreatDoor
open Go.RowKit
set_option linter.unusedVariables false
attribute [local go_sem] Bel.cell Bel.fz

theorem cmpR_turn {op : ByteArray} (h : IsOp op) (v u : Vl) : cmpR (turnO op) u v = cmpR op v u := by
  unfold cmpR
  rw [isOpB_iff.2 h, isOpB_iff.2 (turn_is h), Bool.and_comm u.can v.can, cmpV_turn h]
def opsL : List ByteArray := [⟨#[61]⟩, ⟨#[33, 61]⟩, ⟨#[60]⟩, ⟨#[60, 61]⟩, ⟨#[62]⟩, ⟨#[62, 61]⟩]
theorem ops_at {X : World} {B C i : Nat} (hi : i < 6) (h : IsCells X B #[.string ⟨#[61]⟩, .string ⟨#[33, 61]⟩, .string ⟨#[60]⟩, .string ⟨#[60, 61]⟩, .string ⟨#[62]⟩, .string ⟨#[62, 61]⟩]) (k : IsCells X C #[.string ⟨#[61]⟩, .string ⟨#[33, 61]⟩, .string ⟨#[62]⟩, .string ⟨#[62, 61]⟩, .string ⟨#[60]⟩, .string ⟨#[60, 61]⟩]) : ∃ op, IsOp op ∧ X.cell? ⟨B, i, none⟩ = some (.string op) ∧ X.cell? ⟨C, i, none⟩ = some (.string (turnO op)) := by
  have a0 := h.cell i
  have b0 := k.cell i
  match i, hi with
  | 0, _ => exact ⟨⟨#[61]⟩, by simp [IsOp], a0, b0⟩
  | 1, _ => exact ⟨⟨#[33, 61]⟩, by simp [IsOp], a0, b0⟩
  | 2, _ => exact ⟨⟨#[60]⟩, by simp [IsOp], a0, b0⟩
  | 3, _ => exact ⟨⟨#[60, 61]⟩, by simp [IsOp], a0, b0⟩
  | 4, _ => exact ⟨⟨#[62]⟩, by simp [IsOp], a0, b0⟩
  | 5, _ => exact ⟨⟨#[62, 61]⟩, by simp [IsOp], a0, b0⟩

set_option maxRecDepth 100000 in
set_option maxHeartbeats 4000000 in
theorem turned_walk (w : World) {xk xn yk yn : Int} {xb xo yb yo : Bool} {xt yt : ByteArray} {xa ya : Option Addr} {xc yc : Nat} {xL yL : List ByteArray} (hxv : VOk w ⟨xk, xb, xn, xo, xt, xL⟩ xa) (hyv : VOk w ⟨yk, yb, yn, yo, yt, yL⟩ ya) (G : Gl w) :
    Calls Tryz.prog 7 #[.agg #[.int .i64 xk, .bool xb, .int .i64 xn, .bool xo, .string xt, .slice xa xL.length xc], .agg #[.int .i64 yk, .bool yb, .int .i64 yn, .bool yo, .string yt, .slice ya yL.length yc]] w fun e w' => e = .returned (.bool true) ∧ Below w.heap.size w w' := by
  obtain ⟨W, hW⟩ : ∃ W, ((w.alloc (.cells #[.int .i64 xk, .bool xb, .int .i64 xn, .bool xo, .string xt, .slice xa xL.length xc] 24)).alloc (.cells #[.int .i64 yk, .bool yb, .int .i64 yn, .bool yo, .string yt, .slice ya yL.length yc] 24)) = W := ⟨_, rfl⟩
  have hbW : Below w.heap.size w W := by rw [← hW]; exact below2 _ _ _
  have hx : IsCells W w.heap.size #[.int .i64 xk, .bool xb, .int .i64 xn, .bool xo, .string xt, .slice xa xL.length xc] := by rw [← hW]; exact (isCells_new w _ 24).alloc _
  have hy : IsCells W (w.heap.size + 1) #[.int .i64 yk, .bool yb, .int .i64 yn, .bool yo, .string yt, .slice ya yL.length yc] := by
    have := isCells_new (w.alloc (.cells #[.int .i64 xk, .bool xb, .int .i64 xn, .bool xo, .string xt, .slice xa xL.length xc] 24)) #[.int .i64 yk, .bool yb, .int .i64 yn, .bool yo, .string yt, .slice ya yL.length yc] 24
    rw [hW] at this
    simpa using this
  have HW : Hid (((w.alloc (.cells #[.int .i64 xk, .bool xb, .int .i64 xn, .bool xo, .string xt, .slice xa xL.length xc] 24)).alloc (.cells #[.int .i64 yk, .bool yb, .int .i64 yn, .bool yo, .string yt, .slice ya yL.length yc] 24)) = W ∧ Below w.heap.size w W ∧ IsCells W w.heap.size #[.int .i64 xk, .bool xb, .int .i64 xn, .bool xo, .string xt, .slice xa xL.length xc] ∧ IsCells W (w.heap.size + 1) #[.int .i64 yk, .bool yb, .int .i64 yn, .bool yo, .string yt, .slice ya yL.length yc]) := ⟨hW, hbW, hx, hy⟩
  have HH : Hid (VOk w ⟨xk, xb, xn, xo, xt, xL⟩ xa ∧ VOk w ⟨yk, yb, yn, yo, yt, yL⟩ ya ∧ Gl w) := ⟨hxv, hyv, G⟩
  have hl := lives_any W (G.bel hbW)
  clear hW hbW hx hy hxv hyv G
  go_enter Tryz.func7, Tryz.ntmps7
  go_wp2_with fail
  rw [HW.out.1]
  with_reducible refine hl.mono ?_
  rintro e w1 ⟨rfl, hb⟩
  obtain ⟨X, hX⟩ : ∃ X, ((w1.alloc (.cells #[.string ⟨#[61]⟩, .string ⟨#[33, 61]⟩, .string ⟨#[60]⟩, .string ⟨#[60, 61]⟩, .string ⟨#[62]⟩, .string ⟨#[62, 61]⟩] 9)).alloc (.cells #[.string ⟨#[61]⟩, .string ⟨#[33, 61]⟩, .string ⟨#[62]⟩, .string ⟨#[62, 61]⟩, .string ⟨#[60]⟩, .string ⟨#[60, 61]⟩] 9)) = X := ⟨_, rfl⟩
  have HB1 := HW.out.2.1.trans (hb.mono HW.out.2.1.size)
  have hbX : Below w1.heap.size w1 X := by rw [← hX]; exact below2 _ _ _
  have hp : IsCells X w1.heap.size #[.string ⟨#[61]⟩, .string ⟨#[33, 61]⟩, .string ⟨#[60]⟩, .string ⟨#[60, 61]⟩, .string ⟨#[62]⟩, .string ⟨#[62, 61]⟩] := by rw [← hX]; exact (isCells_new w1 _ 9).alloc _
  have hq : IsCells X (w1.heap.size + 1) #[.string ⟨#[61]⟩, .string ⟨#[33, 61]⟩, .string ⟨#[62]⟩, .string ⟨#[62, 61]⟩, .string ⟨#[60]⟩, .string ⟨#[60, 61]⟩] := by
    have := isCells_new (w1.alloc (.cells #[.string ⟨#[61]⟩, .string ⟨#[33, 61]⟩, .string ⟨#[60]⟩, .string ⟨#[60, 61]⟩, .string ⟨#[62]⟩, .string ⟨#[62, 61]⟩] 9)) #[.string ⟨#[61]⟩, .string ⟨#[33, 61]⟩, .string ⟨#[62]⟩, .string ⟨#[62, 61]⟩, .string ⟨#[60]⟩, .string ⟨#[60, 61]⟩] 9
    rw [hX] at this
    simpa using this
  have HX : Hid (((w1.alloc (.cells #[.string ⟨#[61]⟩, .string ⟨#[33, 61]⟩, .string ⟨#[60]⟩, .string ⟨#[60, 61]⟩, .string ⟨#[62]⟩, .string ⟨#[62, 61]⟩] 9)).alloc (.cells #[.string ⟨#[61]⟩, .string ⟨#[33, 61]⟩, .string ⟨#[62]⟩, .string ⟨#[62, 61]⟩, .string ⟨#[60]⟩, .string ⟨#[60, 61]⟩] 9)) = X ∧ Below w.heap.size w X ∧ IsCells X w.heap.size #[.int .i64 xk, .bool xb, .int .i64 xn, .bool xo, .string xt, .slice xa xL.length xc] ∧ IsCells X (w.heap.size + 1) #[.int .i64 yk, .bool yb, .int .i64 yn, .bool yo, .string yt, .slice ya yL.length yc] ∧ IsCells X w1.heap.size #[.string ⟨#[61]⟩, .string ⟨#[33, 61]⟩, .string ⟨#[60]⟩, .string ⟨#[60, 61]⟩, .string ⟨#[62]⟩, .string ⟨#[62, 61]⟩] ∧ IsCells X (w1.heap.size + 1) #[.string ⟨#[61]⟩, .string ⟨#[33, 61]⟩, .string ⟨#[62]⟩, .string ⟨#[62, 61]⟩, .string ⟨#[60]⟩, .string ⟨#[60, 61]⟩]) := ⟨hX, HB1.trans (hbX.mono HB1.size), (HW.out.2.2.1.of_block (hb.block _ HW.out.2.2.1.lt)).of_block (hbX.block _ (Nat.lt_of_lt_of_le HW.out.2.2.1.lt hb.size)), (HW.out.2.2.2.of_block (hb.block _ HW.out.2.2.2.lt)).of_block (hbX.block _ (Nat.lt_of_lt_of_le HW.out.2.2.2.lt hb.size)), hp, hq⟩
  clear hb HB1 hbX hp hq hX hl
  go_wp2_with fail
  rw [HX.out.1]
  go_loopw [7, 8, 9, 10, 11] (fun u _ _ _ _ wr => ∃ i : Nat, i ≤ 6 ∧ u = .int .i64 (i : Int) ∧ Hid (Below w.heap.size w wr ∧ IsCells wr w.heap.size #[.int .i64 xk, .bool xb, .int .i64 xn, .bool xo, .string xt, .slice xa xL.length xc] ∧ IsCells wr (w.heap.size + 1) #[.int .i64 yk, .bool yb, .int .i64 yn, .bool yo, .string yt, .slice ya yL.length yc] ∧ IsCells wr w1.heap.size #[.string ⟨#[61]⟩, .string ⟨#[33, 61]⟩, .string ⟨#[60]⟩, .string ⟨#[60, 61]⟩, .string ⟨#[62]⟩, .string ⟨#[62, 61]⟩] ∧ IsCells wr (w1.heap.size + 1) #[.string ⟨#[61]⟩, .string ⟨#[33, 61]⟩, .string ⟨#[62]⟩, .string ⟨#[62, 61]⟩, .string ⟨#[60]⟩, .string ⟨#[60, 61]⟩])) (fun u _ _ _ _ _ => 6 - (intOf u).toNat)
  case atStart => exact ⟨0, by omega, rfl, HX.out.2⟩
  case round =>
    obtain ⟨i, hi, rfl, HS⟩ := hrel
    obtain ⟨W5, hW5⟩ : ∃ W5, W5 = wr := ⟨_, rfl⟩
    subst hW5
    by_cases hlt : i < 6
    · have hltz : (i : Int) < 6 := by omega
      obtain ⟨op, hop, o0, t0⟩ := ops_at hlt HS.out.2.2.2.1 HS.out.2.2.2.2
      obtain ⟨R, E, hR⟩ : ∃ R E, cmpR op ⟨xk, xb, xn, xo, xt, xL⟩ ⟨yk, yb, yn, yo, yt, yL⟩ = (R, E) := ⟨_, _, rfl⟩
      have HC1 : Hid (∀ u, Below W5.heap.size W5 u → Calls Tryz.prog 12 #[.string op, .agg #[.int .i64 xk, .bool xb, .int .i64 xn, .bool xo, .string xt, .slice xa xL.length xc], .agg #[.int .i64 yk, .bool yb, .int .i64 yn, .bool yo, .string yt, .slice ya yL.length yc]] u fun e w' => e = .returned (.tuple #[.bool R, .int .i64 E]) ∧ Below u.heap.size u w') := fun u hu => compare_any u op (HH.out.1.bel (HS.out.1.trans (hu.mono HS.out.1.size))) (HH.out.2.1.bel (HS.out.1.trans (hu.mono HS.out.1.size))) (HH.out.2.2.bel (HS.out.1.trans (hu.mono HS.out.1.size))) R E hR
      have HC2 : Hid (∀ u, Below W5.heap.size W5 u → Calls Tryz.prog 12 #[.string (turnO op), .agg #[.int .i64 yk, .bool yb, .int .i64 yn, .bool yo, .string yt, .slice ya yL.length yc], .agg #[.int .i64 xk, .bool xb, .int .i64 xn, .bool xo, .string xt, .slice xa xL.length xc]] u fun e w' => e = .returned (.tuple #[.bool R, .int .i64 E]) ∧ Below u.heap.size u w') := fun u hu => compare_any u (turnO op) (HH.out.2.1.bel (HS.out.1.trans (hu.mono HS.out.1.size))) (HH.out.1.bel (HS.out.1.trans (hu.mono HS.out.1.size))) (HH.out.2.2.bel (HS.out.1.trans (hu.mono HS.out.1.size))) R E ((cmpR_turn hop _ _).trans hR)
      obtain ⟨x0, x1, x2, x3, x4, x5, y0, y1, y2, y3, y4, y5⟩ := two_cells HS.out.2.1 HS.out.2.2.1
      have b1 := HS.out.2.1.lt
      have b2 := HS.out.2.2.1.lt
      have b3 := HS.out.2.2.2.1.lt
      have b4 := HS.out.2.2.2.2.lt
      generalize turnO op = tp at *
      have rr : (R != R) = false := by simp
      have ee : (E != E) = false := by simp
      have re : (R == R) = true := by simp
      have er : (E == E) = true := by simp
      clear hR hop
      go_wp2_with fail
      refine wp_region_bel (by kernel_rfl) (by kernel_rfl) ?_
      intro hne
      repeat go_big_quiet_step ((go_at_call 12; exact Calls.bel_of (HC1.out _ (Bel.h _))))
      refine wpQuiet_nil ?_
      rintro _ ⟨u, rfl⟩
      obtain ⟨W6, hW6⟩ : ∃ W6, W6 = u.w := ⟨_, rfl⟩
      have hu6 : Below W5.heap.size W5 W6 := by rw [hW6]; exact u.h
      rw [← hW6]
      clear hW6
      have HV : Hid (Below W5.heap.size W5 W6) := hu6
      have HC3 : Hid (∀ u, Below W6.heap.size W6 u → Calls Tryz.prog 12 #[.string tp, .agg #[.int .i64 yk, .bool yb, .int .i64 yn, .bool yo, .string yt, .slice ya yL.length yc], .agg #[.int .i64 xk, .bool xb, .int .i64 xn, .bool xo, .string xt, .slice xa xL.length xc]] u fun e w' => e = .returned (.tuple #[.bool R, .int .i64 E]) ∧ Below u.heap.size u w') := fun u hu => HC2.out u (HV.out.trans (hu.mono HV.out.size))
      have t1 : W6.cell? ⟨w1.heap.size + 1, i, none⟩ = some (.string tp) := (hu6.cell (p := ⟨w1.heap.size + 1, i, none⟩) b4).trans t0
      have HS6 : Hid (IsCells W6 w.heap.size #[.int .i64 xk, .bool xb, .int .i64 xn, .bool xo, .string xt, .slice xa xL.length xc] ∧ IsCells W6 (w.heap.size + 1) #[.int .i64 yk, .bool yb, .int .i64 yn, .bool yo, .string yt, .slice ya yL.length yc]) := ⟨HS.out.2.1.of_block (hu6.block _ b1), HS.out.2.2.1.of_block (hu6.block _ b2)⟩
      have b5 : w.heap.size < W6.heap.size := HS6.out.1.lt
      have b6 : w.heap.size + 1 < W6.heap.size := HS6.out.2.lt
      have b7 : w1.heap.size + 1 < W6.heap.size := Nat.lt_of_lt_of_le b4 hu6.size
      clear x0 x1 x2 x3 x4 x5 y0 y1 y2 y3 y4 y5 o0 t0 hu6 HC1 HC2 hne
      obtain ⟨x0, x1, x2, x3, x4, x5, y0, y1, y2, y3, y4, y5⟩ := two_cells HS6.out.1 HS6.out.2
      go_wp2_with fail
      refine wp_region_bel (by kernel_rfl) (by kernel_rfl) ?_
      intro hne
      repeat go_big_quiet_step ((go_at_call 12; exact Calls.bel_of (HC3.out _ (Bel.h _))))
      refine wpQuiet_nil ?_
      rintro _ ⟨u2, rfl⟩
      obtain ⟨W7, hW7⟩ : ∃ W7, W7 = u2.w := ⟨_, rfl⟩
      have hu7 : Below W6.heap.size W6 W7 := by rw [hW7]; exact u2.h
      rw [← hW7]
      clear hW7
      have HE : Hid (Below W5.heap.size W5 W7) := HV.out.trans (hu7.mono HV.out.size)
      clear x0 x1 x2 x3 x4 x5 y0 y1 y2 y3 y4 y5 t1 hu7 HC3 hne
      go_wp2
      go_roundw
      case rel => exact ⟨i + 1, by omega, by go_num, HS.out.1.trans (HE.out.mono HS.out.1.size), HS.out.2.1.of_block (HE.out.block _ b1), HS.out.2.2.1.of_block (HE.out.block _ b2), HS.out.2.2.2.1.of_block (HE.out.block _ b3), HS.out.2.2.2.2.of_block (HE.out.block _ b4)⟩
      case measure => simp [intOf]; omega
    · have hltz : ¬ (i : Int) < 6 := by omega
      go_wp2
      go_ret
      exact ⟨rfl, HS.out.1⟩

end Go.Proofs.YtoabgmpcdnikeaaGreatDoor
