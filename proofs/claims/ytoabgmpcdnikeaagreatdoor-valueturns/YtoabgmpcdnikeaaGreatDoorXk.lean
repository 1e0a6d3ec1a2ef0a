/- The document's Compare of two values neither of which is nodes. Printed by tools/gen16_cmp.py. -/
import Derived.Test.YtoabgmpcdnikeaaGreatDoorXi
import Derived.BigQuiet
namespace Go.Proofs.YtoabgmpcdnikeaaGreatDoor
open Go.RowKit
set_option linter.unusedVariables false
attribute [local go_sem] Bel.cell Bel.fz

set_option maxRecDepth 100000 in
set_option maxHeartbeats 2000000 in
theorem dcmp_ord (w : World) (op : ByteArray) (ho : IsOp op) {xk xn yk yn : Int} {xb xo yb yo : Bool} {xt yt : ByteArray} {xa ya : Option Addr} {xc yc : Nat} {xL yL : List ByteArray} (hxv : VOk w ⟨xk, xb, xn, xo, xt, xL⟩ xa) (hyv : VOk w ⟨yk, yb, yn, yo, yt, yL⟩ ya) (kx : (xk == 4) = false) (ky : (yk == 4) = false) (o1 : (op.toList == [61]) = false) (o2 : (op.toList == [33, 61]) = false) (R : Bool) (hR : nmB op (Vl.nm ⟨xk, xb, xn, xo, xt, xL⟩).1 (Vl.nm ⟨xk, xb, xn, xo, xt, xL⟩).2 (Vl.nm ⟨yk, yb, yn, yo, yt, yL⟩).1 (Vl.nm ⟨yk, yb, yn, yo, yt, yL⟩).2 = R) :
    Calls Tryz.prog 19 #[.string op, .agg #[.int .i64 xk, .bool xb, .int .i64 xn, .bool xo, .string xt, .slice xa xL.length xc], .agg #[.int .i64 yk, .bool yb, .int .i64 yn, .bool yo, .string yt, .slice ya yL.length yc]] w fun e w' => e = .returned (.bool R) ∧ Below w.heap.size w w' := by
  obtain ⟨W, hW⟩ : ∃ W, ((w.alloc (.cells #[.int .i64 xk, .bool xb, .int .i64 xn, .bool xo, .string xt, .slice xa xL.length xc] 24)).alloc (.cells #[.int .i64 yk, .bool yb, .int .i64 yn, .bool yo, .string yt, .slice ya yL.length yc] 24)) = W := ⟨_, rfl⟩
  have hbW : Below w.heap.size w W := by rw [← hW]; exact below2 _ _ _
  have hx : IsCells W w.heap.size #[.int .i64 xk, .bool xb, .int .i64 xn, .bool xo, .string xt, .slice xa xL.length xc] := by rw [← hW]; exact (isCells_new w _ 24).alloc _
  have hy : IsCells W (w.heap.size + 1) #[.int .i64 yk, .bool yb, .int .i64 yn, .bool yo, .string yt, .slice ya yL.length yc] := by
    have := isCells_new (w.alloc (.cells #[.int .i64 xk, .bool xb, .int .i64 xn, .bool xo, .string xt, .slice xa xL.length xc] 24)) #[.int .i64 yk, .bool yb, .int .i64 yn, .bool yo, .string yt, .slice ya yL.length yc] 24
    rw [hW] at this
    simpa using this
  have HW : Hid (((w.alloc (.cells #[.int .i64 xk, .bool xb, .int .i64 xn, .bool xo, .string xt, .slice xa xL.length xc] 24)).alloc (.cells #[.int .i64 yk, .bool yb, .int .i64 yn, .bool yo, .string yt, .slice ya yL.length yc] 24)) = W ∧ Below w.heap.size w W ∧ IsCells W w.heap.size #[.int .i64 xk, .bool xb, .int .i64 xn, .bool xo, .string xt, .slice xa xL.length xc] ∧ IsCells W (w.heap.size + 1) #[.int .i64 yk, .bool yb, .int .i64 yn, .bool yo, .string yt, .slice ya yL.length yc]) := ⟨hW, hbW, hx, hy⟩
  have HH : Hid (VOk w ⟨xk, xb, xn, xo, xt, xL⟩ xa ∧ VOk w ⟨yk, yb, yn, yo, yt, yL⟩ ya) := ⟨hxv, hyv⟩
  obtain ⟨x0, x1, x2, x3, x4, x5, y0, y1, y2, y3, y4, y5⟩ := two_cells hx hy
  have b1 := hx.lt
  have b2 := hy.lt
  clear hW hbW hx hy hxv hyv 
  obtain ⟨p1, p2, HP⟩ : ∃ p1 p2, Hid (Vl.nm ⟨xk, xb, xn, xo, xt, xL⟩ = (p1, p2)) := ⟨_, _, rfl⟩
  obtain ⟨q1, q2, HQ⟩ : ∃ q1 q2, Hid (Vl.nm ⟨yk, yb, yn, yo, yt, yL⟩ = (q1, q2)) := ⟨_, _, rfl⟩
  have HC1 : Hid (∀ u, Below W.heap.size W u → Calls Tryz.prog 15 #[.agg #[.int .i64 xk, .bool xb, .int .i64 xn, .bool xo, .string xt, .slice xa xL.length xc]] u fun e w' => e = .returned (.agg #[.bool p2, .int .i64 p1]) ∧ Below u.heap.size u w') := fun u hu => by
    have h := dnum_any u (c := xc) (HH.out.1.bel (HW.out.2.1.trans (hu.mono HW.out.2.1.size)))
    rw [show nmV xk xb xn xo xt xL = (p1, p2) from HP.out] at h
    exact h
  have HC2 : Hid (∀ u, Below W.heap.size W u → Calls Tryz.prog 15 #[.agg #[.int .i64 yk, .bool yb, .int .i64 yn, .bool yo, .string yt, .slice ya yL.length yc]] u fun e w' => e = .returned (.agg #[.bool q2, .int .i64 q1]) ∧ Below u.heap.size u w') := fun u hu => by
    have h := dnum_any u (c := yc) (HH.out.2.bel (HW.out.2.1.trans (hu.mono HW.out.2.1.size)))
    rw [show nmV yk yb yn yo yt yL = (q1, q2) from HQ.out] at h
    exact h
  have HC3 : Hid (∀ u, Below W.heap.size W u → Calls Tryz.prog 46 #[.string op, .agg #[.bool p2, .int .i64 p1], .agg #[.bool q2, .int .i64 q1]] u fun e w' => e = .returned (.bool R) ∧ Below u.heap.size u w') := fun u hu => by
    have h := dheld_any u op ho p1 q1 p2 q2
    rw [HP.out, HQ.out] at hR
    rw [hR] at h
    exact h
  clear hR
  go_enter Tryz.func19, Tryz.ntmps19
  go_wp2_with fail
  rw [HW.out.1]
  refine wp_region_bel (by kernel_rfl) (by kernel_rfl) ?_
  intro hne
  repeat go_big_quiet_step (first | (go_at_call 15; with_reducible exact Calls.bel_of (HC1.out _ (Bel.h _))) | (go_at_call 15; with_reducible exact Calls.bel_of (HC2.out _ (Bel.h _))) | (go_at_call 46; with_reducible exact Calls.bel_of (HC3.out _ (Bel.h _))))
  refine wpQuiet_nil ?_
  rintro _ ⟨u, rfl⟩
  have HU : Hid (Below w.heap.size w u.w) := HW.out.2.1.trans (u.h.mono HW.out.2.1.size)
  generalize u.w = W6 at *
  clear x0 x1 x2 x3 x4 x5 y0 y1 y2 y3 y4 y5 hne
  go_wp2
  go_ret
  exact ⟨rfl, HU.out⟩

set_option maxRecDepth 100000 in
set_option maxHeartbeats 2000000 in
theorem dcmp_tr1_eq (w : World) {xk xn yk yn : Int} {xb xo yb yo : Bool} {xt yt : ByteArray} {xa ya : Option Addr} {xc yc : Nat} {xL yL : List ByteArray} (hxv : VOk w ⟨xk, xb, xn, xo, xt, xL⟩ xa) (hyv : VOk w ⟨yk, yb, yn, yo, yt, yL⟩ ya) (kx : (xk == 4) = false) (ky : (yk == 4) = false) (k1 : (xk == 1) = true) (R : Bool) (hR : ((Vl.tr ⟨xk, xb, xn, xo, xt, xL⟩ == Vl.tr ⟨yk, yb, yn, yo, yt, yL⟩) == true) = R) :
    Calls Tryz.prog 19 #[.string ⟨#[61]⟩, .agg #[.int .i64 xk, .bool xb, .int .i64 xn, .bool xo, .string xt, .slice xa xL.length xc], .agg #[.int .i64 yk, .bool yb, .int .i64 yn, .bool yo, .string yt, .slice ya yL.length yc]] w fun e w' => e = .returned (.bool R) ∧ Below w.heap.size w w' := by
  obtain ⟨W, hW⟩ : ∃ W, ((w.alloc (.cells #[.int .i64 xk, .bool xb, .int .i64 xn, .bool xo, .string xt, .slice xa xL.length xc] 24)).alloc (.cells #[.int .i64 yk, .bool yb, .int .i64 yn, .bool yo, .string yt, .slice ya yL.length yc] 24)) = W := ⟨_, rfl⟩
  have hbW : Below w.heap.size w W := by rw [← hW]; exact below2 _ _ _
  have hx : IsCells W w.heap.size #[.int .i64 xk, .bool xb, .int .i64 xn, .bool xo, .string xt, .slice xa xL.length xc] := by rw [← hW]; exact (isCells_new w _ 24).alloc _
  have hy : IsCells W (w.heap.size + 1) #[.int .i64 yk, .bool yb, .int .i64 yn, .bool yo, .string yt, .slice ya yL.length yc] := by
    have := isCells_new (w.alloc (.cells #[.int .i64 xk, .bool xb, .int .i64 xn, .bool xo, .string xt, .slice xa xL.length xc] 24)) #[.int .i64 yk, .bool yb, .int .i64 yn, .bool yo, .string yt, .slice ya yL.length yc] 24
    rw [hW] at this
    simpa using this
  have HW : Hid (((w.alloc (.cells #[.int .i64 xk, .bool xb, .int .i64 xn, .bool xo, .string xt, .slice xa xL.length xc] 24)).alloc (.cells #[.int .i64 yk, .bool yb, .int .i64 yn, .bool yo, .string yt, .slice ya yL.length yc] 24)) = W ∧ Below w.heap.size w W ∧ IsCells W w.heap.size #[.int .i64 xk, .bool xb, .int .i64 xn, .bool xo, .string xt, .slice xa xL.length xc] ∧ IsCells W (w.heap.size + 1) #[.int .i64 yk, .bool yb, .int .i64 yn, .bool yo, .string yt, .slice ya yL.length yc]) := ⟨hW, hbW, hx, hy⟩
  have HH : Hid (VOk w ⟨xk, xb, xn, xo, xt, xL⟩ xa ∧ VOk w ⟨yk, yb, yn, yo, yt, yL⟩ ya) := ⟨hxv, hyv⟩
  obtain ⟨x0, x1, x2, x3, x4, x5, y0, y1, y2, y3, y4, y5⟩ := two_cells hx hy
  have b1 := hx.lt
  have b2 := hy.lt
  clear hW hbW hx hy hxv hyv 
  have HC1 : Hid (∀ u, Below W.heap.size W u → Calls Tryz.prog 16 #[.agg #[.int .i64 xk, .bool xb, .int .i64 xn, .bool xo, .string xt, .slice xa xL.length xc]] u fun e w' => e = .returned (.bool (Vl.tr ⟨xk, xb, xn, xo, xt, xL⟩)) ∧ Below u.heap.size u w') := fun u hu => dbool_any u xk xn xb xo xt xa xL.length xc
  have HC2 : Hid (∀ u, Below W.heap.size W u → Calls Tryz.prog 16 #[.agg #[.int .i64 yk, .bool yb, .int .i64 yn, .bool yo, .string yt, .slice ya yL.length yc]] u fun e w' => e = .returned (.bool (Vl.tr ⟨yk, yb, yn, yo, yt, yL⟩)) ∧ Below u.heap.size u w') := fun u hu => dbool_any u yk yn yb yo yt ya yL.length yc
  generalize Vl.tr ⟨xk, xb, xn, xo, xt, xL⟩ = p at *
  generalize Vl.tr ⟨yk, yb, yn, yo, yt, yL⟩ = q at *
  have HR : Hid (((p == q) == true) = R) := hR
  clear hR
  go_enter Tryz.func19, Tryz.ntmps19
  go_wp2_with fail
  rw [HW.out.1]
  refine wp_region_bel (by kernel_rfl) (by kernel_rfl) ?_
  intro hne
  repeat go_big_quiet_step (first | (go_at_call 16; with_reducible exact Calls.bel_of (HC1.out _ (Bel.h _))) | (go_at_call 16; with_reducible exact Calls.bel_of (HC2.out _ (Bel.h _))))
  refine wpQuiet_nil ?_
  rintro _ ⟨u, rfl⟩
  have HU : Hid (Below w.heap.size w u.w) := HW.out.2.1.trans (u.h.mono HW.out.2.1.size)
  generalize u.w = W6 at *
  clear x0 x1 x2 x3 x4 x5 y0 y1 y2 y3 y4 y5 hne
  go_wp2
  go_ret
  exact ⟨congrArg _ (v_bool (by rw [← HR.out]; first | rfl | simp)), HU.out⟩

set_option maxRecDepth 100000 in
set_option maxHeartbeats 2000000 in
theorem dcmp_tr2_eq (w : World) {xk xn yk yn : Int} {xb xo yb yo : Bool} {xt yt : ByteArray} {xa ya : Option Addr} {xc yc : Nat} {xL yL : List ByteArray} (hxv : VOk w ⟨xk, xb, xn, xo, xt, xL⟩ xa) (hyv : VOk w ⟨yk, yb, yn, yo, yt, yL⟩ ya) (kx : (xk == 4) = false) (ky : (yk == 4) = false) (k1 : (xk == 1) = false) (k2 : (yk == 1) = true) (R : Bool) (hR : ((Vl.tr ⟨xk, xb, xn, xo, xt, xL⟩ == Vl.tr ⟨yk, yb, yn, yo, yt, yL⟩) == true) = R) :
    Calls Tryz.prog 19 #[.string ⟨#[61]⟩, .agg #[.int .i64 xk, .bool xb, .int .i64 xn, .bool xo, .string xt, .slice xa xL.length xc], .agg #[.int .i64 yk, .bool yb, .int .i64 yn, .bool yo, .string yt, .slice ya yL.length yc]] w fun e w' => e = .returned (.bool R) ∧ Below w.heap.size w w' := by
  obtain ⟨W, hW⟩ : ∃ W, ((w.alloc (.cells #[.int .i64 xk, .bool xb, .int .i64 xn, .bool xo, .string xt, .slice xa xL.length xc] 24)).alloc (.cells #[.int .i64 yk, .bool yb, .int .i64 yn, .bool yo, .string yt, .slice ya yL.length yc] 24)) = W := ⟨_, rfl⟩
  have hbW : Below w.heap.size w W := by rw [← hW]; exact below2 _ _ _
  have hx : IsCells W w.heap.size #[.int .i64 xk, .bool xb, .int .i64 xn, .bool xo, .string xt, .slice xa xL.length xc] := by rw [← hW]; exact (isCells_new w _ 24).alloc _
  have hy : IsCells W (w.heap.size + 1) #[.int .i64 yk, .bool yb, .int .i64 yn, .bool yo, .string yt, .slice ya yL.length yc] := by
    have := isCells_new (w.alloc (.cells #[.int .i64 xk, .bool xb, .int .i64 xn, .bool xo, .string xt, .slice xa xL.length xc] 24)) #[.int .i64 yk, .bool yb, .int .i64 yn, .bool yo, .string yt, .slice ya yL.length yc] 24
    rw [hW] at this
    simpa using this
  have HW : Hid (((w.alloc (.cells #[.int .i64 xk, .bool xb, .int .i64 xn, .bool xo, .string xt, .slice xa xL.length xc] 24)).alloc (.cells #[.int .i64 yk, .bool yb, .int .i64 yn, .bool yo, .string yt, .slice ya yL.length yc] 24)) = W ∧ Below w.heap.size w W ∧ IsCells W w.heap.size #[.int .i64 xk, .bool xb, .int .i64 xn, .bool xo, .string xt, .slice xa xL.length xc] ∧ IsCells W (w.heap.size + 1) #[.int .i64 yk, .bool yb, .int .i64 yn, .bool yo, .string yt, .slice ya yL.length yc]) := ⟨hW, hbW, hx, hy⟩
  have HH : Hid (VOk w ⟨xk, xb, xn, xo, xt, xL⟩ xa ∧ VOk w ⟨yk, yb, yn, yo, yt, yL⟩ ya) := ⟨hxv, hyv⟩
  obtain ⟨x0, x1, x2, x3, x4, x5, y0, y1, y2, y3, y4, y5⟩ := two_cells hx hy
  have b1 := hx.lt
  have b2 := hy.lt
  clear hW hbW hx hy hxv hyv 
  have HC1 : Hid (∀ u, Below W.heap.size W u → Calls Tryz.prog 16 #[.agg #[.int .i64 xk, .bool xb, .int .i64 xn, .bool xo, .string xt, .slice xa xL.length xc]] u fun e w' => e = .returned (.bool (Vl.tr ⟨xk, xb, xn, xo, xt, xL⟩)) ∧ Below u.heap.size u w') := fun u hu => dbool_any u xk xn xb xo xt xa xL.length xc
  have HC2 : Hid (∀ u, Below W.heap.size W u → Calls Tryz.prog 16 #[.agg #[.int .i64 yk, .bool yb, .int .i64 yn, .bool yo, .string yt, .slice ya yL.length yc]] u fun e w' => e = .returned (.bool (Vl.tr ⟨yk, yb, yn, yo, yt, yL⟩)) ∧ Below u.heap.size u w') := fun u hu => dbool_any u yk yn yb yo yt ya yL.length yc
  generalize Vl.tr ⟨xk, xb, xn, xo, xt, xL⟩ = p at *
  generalize Vl.tr ⟨yk, yb, yn, yo, yt, yL⟩ = q at *
  have HR : Hid (((p == q) == true) = R) := hR
  clear hR
  go_enter Tryz.func19, Tryz.ntmps19
  go_wp2_with fail
  rw [HW.out.1]
  refine wp_region_bel (by kernel_rfl) (by kernel_rfl) ?_
  intro hne
  repeat go_big_quiet_step (first | (go_at_call 16; with_reducible exact Calls.bel_of (HC1.out _ (Bel.h _))) | (go_at_call 16; with_reducible exact Calls.bel_of (HC2.out _ (Bel.h _))))
  refine wpQuiet_nil ?_
  rintro _ ⟨u, rfl⟩
  have HU : Hid (Below w.heap.size w u.w) := HW.out.2.1.trans (u.h.mono HW.out.2.1.size)
  generalize u.w = W6 at *
  clear x0 x1 x2 x3 x4 x5 y0 y1 y2 y3 y4 y5 hne
  go_wp2
  go_ret
  exact ⟨congrArg _ (v_bool (by rw [← HR.out]; first | rfl | simp)), HU.out⟩

set_option maxRecDepth 100000 in
set_option maxHeartbeats 2000000 in
theorem dcmp_tx_eq (w : World) {xk xn yk yn : Int} {xb xo yb yo : Bool} {xt yt : ByteArray} {xa ya : Option Addr} {xc yc : Nat} {xL yL : List ByteArray} (hxv : VOk w ⟨xk, xb, xn, xo, xt, xL⟩ xa) (hyv : VOk w ⟨yk, yb, yn, yo, yt, yL⟩ ya) (kx : (xk == 4) = false) (ky : (yk == 4) = false) (k1 : (xk == 1) = false) (k2 : (yk == 1) = false) (k3 : (xk == 3) = true) (k4 : (yk == 3) = true) (R : Bool) (hR : (decide (xt = yt) == true) = R) :
    Calls Tryz.prog 19 #[.string ⟨#[61]⟩, .agg #[.int .i64 xk, .bool xb, .int .i64 xn, .bool xo, .string xt, .slice xa xL.length xc], .agg #[.int .i64 yk, .bool yb, .int .i64 yn, .bool yo, .string yt, .slice ya yL.length yc]] w fun e w' => e = .returned (.bool R) ∧ Below w.heap.size w w' := by
  obtain ⟨W, hW⟩ : ∃ W, ((w.alloc (.cells #[.int .i64 xk, .bool xb, .int .i64 xn, .bool xo, .string xt, .slice xa xL.length xc] 24)).alloc (.cells #[.int .i64 yk, .bool yb, .int .i64 yn, .bool yo, .string yt, .slice ya yL.length yc] 24)) = W := ⟨_, rfl⟩
  have hbW : Below w.heap.size w W := by rw [← hW]; exact below2 _ _ _
  have hx : IsCells W w.heap.size #[.int .i64 xk, .bool xb, .int .i64 xn, .bool xo, .string xt, .slice xa xL.length xc] := by rw [← hW]; exact (isCells_new w _ 24).alloc _
  have hy : IsCells W (w.heap.size + 1) #[.int .i64 yk, .bool yb, .int .i64 yn, .bool yo, .string yt, .slice ya yL.length yc] := by
    have := isCells_new (w.alloc (.cells #[.int .i64 xk, .bool xb, .int .i64 xn, .bool xo, .string xt, .slice xa xL.length xc] 24)) #[.int .i64 yk, .bool yb, .int .i64 yn, .bool yo, .string yt, .slice ya yL.length yc] 24
    rw [hW] at this
    simpa using this
  have HW : Hid (((w.alloc (.cells #[.int .i64 xk, .bool xb, .int .i64 xn, .bool xo, .string xt, .slice xa xL.length xc] 24)).alloc (.cells #[.int .i64 yk, .bool yb, .int .i64 yn, .bool yo, .string yt, .slice ya yL.length yc] 24)) = W ∧ Below w.heap.size w W ∧ IsCells W w.heap.size #[.int .i64 xk, .bool xb, .int .i64 xn, .bool xo, .string xt, .slice xa xL.length xc] ∧ IsCells W (w.heap.size + 1) #[.int .i64 yk, .bool yb, .int .i64 yn, .bool yo, .string yt, .slice ya yL.length yc]) := ⟨hW, hbW, hx, hy⟩
  have HH : Hid (VOk w ⟨xk, xb, xn, xo, xt, xL⟩ xa ∧ VOk w ⟨yk, yb, yn, yo, yt, yL⟩ ya) := ⟨hxv, hyv⟩
  obtain ⟨x0, x1, x2, x3, x4, x5, y0, y1, y2, y3, y4, y5⟩ := two_cells hx hy
  have b1 := hx.lt
  have b2 := hy.lt
  clear hW hbW hx hy hxv hyv 
  have HR : Hid (((xt.toList == yt.toList) == true) = R) := by
    show _ = _
    rw [← hR]
    congr 1
    rw [Bool.eq_iff_iff, beq_iff_eq, decide_eq_true_eq, Lib.toList_data, Lib.toList_data]
    exact ⟨fun h => by cases xt; cases yt; exact congrArg ByteArray.mk (Array.toList_inj.1 h), fun h => by rw [h]⟩
  clear hR
  go_enter Tryz.func19, Tryz.ntmps19
  go_wp2_with fail
  rw [HW.out.1]
  go_wp2
  go_ret
  exact ⟨congrArg _ (v_bool (by rw [← HR.out]; first | rfl | simp)), HW.out.2.1⟩

set_option maxRecDepth 100000 in
set_option maxHeartbeats 2000000 in
theorem dcmp_nx_eq (w : World) {xk xn yk yn : Int} {xb xo yb yo : Bool} {xt yt : ByteArray} {xa ya : Option Addr} {xc yc : Nat} {xL yL : List ByteArray} (hxv : VOk w ⟨xk, xb, xn, xo, xt, xL⟩ xa) (hyv : VOk w ⟨yk, yb, yn, yo, yt, yL⟩ ya) (kx : (xk == 4) = false) (ky : (yk == 4) = false) (k1 : (xk == 1) = false) (k2 : (yk == 1) = false) (k3 : (xk == 3) = false) (R : Bool) (hR : nmB ⟨#[61]⟩ (Vl.nm ⟨xk, xb, xn, xo, xt, xL⟩).1 (Vl.nm ⟨xk, xb, xn, xo, xt, xL⟩).2 (Vl.nm ⟨yk, yb, yn, yo, yt, yL⟩).1 (Vl.nm ⟨yk, yb, yn, yo, yt, yL⟩).2 = R) :
    Calls Tryz.prog 19 #[.string ⟨#[61]⟩, .agg #[.int .i64 xk, .bool xb, .int .i64 xn, .bool xo, .string xt, .slice xa xL.length xc], .agg #[.int .i64 yk, .bool yb, .int .i64 yn, .bool yo, .string yt, .slice ya yL.length yc]] w fun e w' => e = .returned (.bool R) ∧ Below w.heap.size w w' := by
  obtain ⟨W, hW⟩ : ∃ W, ((w.alloc (.cells #[.int .i64 xk, .bool xb, .int .i64 xn, .bool xo, .string xt, .slice xa xL.length xc] 24)).alloc (.cells #[.int .i64 yk, .bool yb, .int .i64 yn, .bool yo, .string yt, .slice ya yL.length yc] 24)) = W := ⟨_, rfl⟩
  have hbW : Below w.heap.size w W := by rw [← hW]; exact below2 _ _ _
  have hx : IsCells W w.heap.size #[.int .i64 xk, .bool xb, .int .i64 xn, .bool xo, .string xt, .slice xa xL.length xc] := by rw [← hW]; exact (isCells_new w _ 24).alloc _
  have hy : IsCells W (w.heap.size + 1) #[.int .i64 yk, .bool yb, .int .i64 yn, .bool yo, .string yt, .slice ya yL.length yc] := by
    have := isCells_new (w.alloc (.cells #[.int .i64 xk, .bool xb, .int .i64 xn, .bool xo, .string xt, .slice xa xL.length xc] 24)) #[.int .i64 yk, .bool yb, .int .i64 yn, .bool yo, .string yt, .slice ya yL.length yc] 24
    rw [hW] at this
    simpa using this
  have HW : Hid (((w.alloc (.cells #[.int .i64 xk, .bool xb, .int .i64 xn, .bool xo, .string xt, .slice xa xL.length xc] 24)).alloc (.cells #[.int .i64 yk, .bool yb, .int .i64 yn, .bool yo, .string yt, .slice ya yL.length yc] 24)) = W ∧ Below w.heap.size w W ∧ IsCells W w.heap.size #[.int .i64 xk, .bool xb, .int .i64 xn, .bool xo, .string xt, .slice xa xL.length xc] ∧ IsCells W (w.heap.size + 1) #[.int .i64 yk, .bool yb, .int .i64 yn, .bool yo, .string yt, .slice ya yL.length yc]) := ⟨hW, hbW, hx, hy⟩
  have HH : Hid (VOk w ⟨xk, xb, xn, xo, xt, xL⟩ xa ∧ VOk w ⟨yk, yb, yn, yo, yt, yL⟩ ya) := ⟨hxv, hyv⟩
  obtain ⟨x0, x1, x2, x3, x4, x5, y0, y1, y2, y3, y4, y5⟩ := two_cells hx hy
  have b1 := hx.lt
  have b2 := hy.lt
  clear hW hbW hx hy hxv hyv 
  obtain ⟨p1, p2, HP⟩ : ∃ p1 p2, Hid (Vl.nm ⟨xk, xb, xn, xo, xt, xL⟩ = (p1, p2)) := ⟨_, _, rfl⟩
  obtain ⟨q1, q2, HQ⟩ : ∃ q1 q2, Hid (Vl.nm ⟨yk, yb, yn, yo, yt, yL⟩ = (q1, q2)) := ⟨_, _, rfl⟩
  have HC1 : Hid (∀ u, Below W.heap.size W u → Calls Tryz.prog 15 #[.agg #[.int .i64 xk, .bool xb, .int .i64 xn, .bool xo, .string xt, .slice xa xL.length xc]] u fun e w' => e = .returned (.agg #[.bool p2, .int .i64 p1]) ∧ Below u.heap.size u w') := fun u hu => by
    have h := dnum_any u (c := xc) (HH.out.1.bel (HW.out.2.1.trans (hu.mono HW.out.2.1.size)))
    rw [show nmV xk xb xn xo xt xL = (p1, p2) from HP.out] at h
    exact h
  have HC2 : Hid (∀ u, Below W.heap.size W u → Calls Tryz.prog 15 #[.agg #[.int .i64 yk, .bool yb, .int .i64 yn, .bool yo, .string yt, .slice ya yL.length yc]] u fun e w' => e = .returned (.agg #[.bool q2, .int .i64 q1]) ∧ Below u.heap.size u w') := fun u hu => by
    have h := dnum_any u (c := yc) (HH.out.2.bel (HW.out.2.1.trans (hu.mono HW.out.2.1.size)))
    rw [show nmV yk yb yn yo yt yL = (q1, q2) from HQ.out] at h
    exact h
  have HC3 : Hid (∀ u, Below W.heap.size W u → Calls Tryz.prog 46 #[.string ⟨#[61]⟩, .agg #[.bool p2, .int .i64 p1], .agg #[.bool q2, .int .i64 q1]] u fun e w' => e = .returned (.bool R) ∧ Below u.heap.size u w') := fun u hu => by
    have h := dheld_any u ⟨#[61]⟩ (.inl rfl) p1 q1 p2 q2
    rw [HP.out, HQ.out] at hR
    rw [hR] at h
    exact h
  clear hR
  go_enter Tryz.func19, Tryz.ntmps19
  go_wp2_with fail
  rw [HW.out.1]
  refine wp_region_bel (by kernel_rfl) (by kernel_rfl) ?_
  intro hne
  repeat go_big_quiet_step (first | (go_at_call 15; with_reducible exact Calls.bel_of (HC1.out _ (Bel.h _))) | (go_at_call 15; with_reducible exact Calls.bel_of (HC2.out _ (Bel.h _))) | (go_at_call 46; with_reducible exact Calls.bel_of (HC3.out _ (Bel.h _))))
  refine wpQuiet_nil ?_
  rintro _ ⟨u, rfl⟩
  have HU : Hid (Below w.heap.size w u.w) := HW.out.2.1.trans (u.h.mono HW.out.2.1.size)
  generalize u.w = W6 at *
  clear x0 x1 x2 x3 x4 x5 y0 y1 y2 y3 y4 y5 hne
  go_wp2
  go_ret
  exact ⟨rfl, HU.out⟩

set_option maxRecDepth 100000 in
set_option maxHeartbeats 2000000 in
theorem dcmp_ny_eq (w : World) {xk xn yk yn : Int} {xb xo yb yo : Bool} {xt yt : ByteArray} {xa ya : Option Addr} {xc yc : Nat} {xL yL : List ByteArray} (hxv : VOk w ⟨xk, xb, xn, xo, xt, xL⟩ xa) (hyv : VOk w ⟨yk, yb, yn, yo, yt, yL⟩ ya) (kx : (xk == 4) = false) (ky : (yk == 4) = false) (k1 : (xk == 1) = false) (k2 : (yk == 1) = false) (k3 : (xk == 3) = true) (k4 : (yk == 3) = false) (R : Bool) (hR : nmB ⟨#[61]⟩ (Vl.nm ⟨xk, xb, xn, xo, xt, xL⟩).1 (Vl.nm ⟨xk, xb, xn, xo, xt, xL⟩).2 (Vl.nm ⟨yk, yb, yn, yo, yt, yL⟩).1 (Vl.nm ⟨yk, yb, yn, yo, yt, yL⟩).2 = R) :
    Calls Tryz.prog 19 #[.string ⟨#[61]⟩, .agg #[.int .i64 xk, .bool xb, .int .i64 xn, .bool xo, .string xt, .slice xa xL.length xc], .agg #[.int .i64 yk, .bool yb, .int .i64 yn, .bool yo, .string yt, .slice ya yL.length yc]] w fun e w' => e = .returned (.bool R) ∧ Below w.heap.size w w' := by
  obtain ⟨W, hW⟩ : ∃ W, ((w.alloc (.cells #[.int .i64 xk, .bool xb, .int .i64 xn, .bool xo, .string xt, .slice xa xL.length xc] 24)).alloc (.cells #[.int .i64 yk, .bool yb, .int .i64 yn, .bool yo, .string yt, .slice ya yL.length yc] 24)) = W := ⟨_, rfl⟩
  have hbW : Below w.heap.size w W := by rw [← hW]; exact below2 _ _ _
  have hx : IsCells W w.heap.size #[.int .i64 xk, .bool xb, .int .i64 xn, .bool xo, .string xt, .slice xa xL.length xc] := by rw [← hW]; exact (isCells_new w _ 24).alloc _
  have hy : IsCells W (w.heap.size + 1) #[.int .i64 yk, .bool yb, .int .i64 yn, .bool yo, .string yt, .slice ya yL.length yc] := by
    have := isCells_new (w.alloc (.cells #[.int .i64 xk, .bool xb, .int .i64 xn, .bool xo, .string xt, .slice xa xL.length xc] 24)) #[.int .i64 yk, .bool yb, .int .i64 yn, .bool yo, .string yt, .slice ya yL.length yc] 24
    rw [hW] at this
    simpa using this
  have HW : Hid (((w.alloc (.cells #[.int .i64 xk, .bool xb, .int .i64 xn, .bool xo, .string xt, .slice xa xL.length xc] 24)).alloc (.cells #[.int .i64 yk, .bool yb, .int .i64 yn, .bool yo, .string yt, .slice ya yL.length yc] 24)) = W ∧ Below w.heap.size w W ∧ IsCells W w.heap.size #[.int .i64 xk, .bool xb, .int .i64 xn, .bool xo, .string xt, .slice xa xL.length xc] ∧ IsCells W (w.heap.size + 1) #[.int .i64 yk, .bool yb, .int .i64 yn, .bool yo, .string yt, .slice ya yL.length yc]) := ⟨hW, hbW, hx, hy⟩
  have HH : Hid (VOk w ⟨xk, xb, xn, xo, xt, xL⟩ xa ∧ VOk w ⟨yk, yb, yn, yo, yt, yL⟩ ya) := ⟨hxv, hyv⟩
  obtain ⟨x0, x1, x2, x3, x4, x5, y0, y1, y2, y3, y4, y5⟩ := two_cells hx hy
  have b1 := hx.lt
  have b2 := hy.lt
  clear hW hbW hx hy hxv hyv 
  obtain ⟨p1, p2, HP⟩ : ∃ p1 p2, Hid (Vl.nm ⟨xk, xb, xn, xo, xt, xL⟩ = (p1, p2)) := ⟨_, _, rfl⟩
  obtain ⟨q1, q2, HQ⟩ : ∃ q1 q2, Hid (Vl.nm ⟨yk, yb, yn, yo, yt, yL⟩ = (q1, q2)) := ⟨_, _, rfl⟩
  have HC1 : Hid (∀ u, Below W.heap.size W u → Calls Tryz.prog 15 #[.agg #[.int .i64 xk, .bool xb, .int .i64 xn, .bool xo, .string xt, .slice xa xL.length xc]] u fun e w' => e = .returned (.agg #[.bool p2, .int .i64 p1]) ∧ Below u.heap.size u w') := fun u hu => by
    have h := dnum_any u (c := xc) (HH.out.1.bel (HW.out.2.1.trans (hu.mono HW.out.2.1.size)))
    rw [show nmV xk xb xn xo xt xL = (p1, p2) from HP.out] at h
    exact h
  have HC2 : Hid (∀ u, Below W.heap.size W u → Calls Tryz.prog 15 #[.agg #[.int .i64 yk, .bool yb, .int .i64 yn, .bool yo, .string yt, .slice ya yL.length yc]] u fun e w' => e = .returned (.agg #[.bool q2, .int .i64 q1]) ∧ Below u.heap.size u w') := fun u hu => by
    have h := dnum_any u (c := yc) (HH.out.2.bel (HW.out.2.1.trans (hu.mono HW.out.2.1.size)))
    rw [show nmV yk yb yn yo yt yL = (q1, q2) from HQ.out] at h
    exact h
  have HC3 : Hid (∀ u, Below W.heap.size W u → Calls Tryz.prog 46 #[.string ⟨#[61]⟩, .agg #[.bool p2, .int .i64 p1], .agg #[.bool q2, .int .i64 q1]] u fun e w' => e = .returned (.bool R) ∧ Below u.heap.size u w') := fun u hu => by
    have h := dheld_any u ⟨#[61]⟩ (.inl rfl) p1 q1 p2 q2
    rw [HP.out, HQ.out] at hR
    rw [hR] at h
    exact h
  clear hR
  go_enter Tryz.func19, Tryz.ntmps19
  go_wp2_with fail
  rw [HW.out.1]
  refine wp_region_bel (by kernel_rfl) (by kernel_rfl) ?_
  intro hne
  repeat go_big_quiet_step (first | (go_at_call 15; with_reducible exact Calls.bel_of (HC1.out _ (Bel.h _))) | (go_at_call 15; with_reducible exact Calls.bel_of (HC2.out _ (Bel.h _))) | (go_at_call 46; with_reducible exact Calls.bel_of (HC3.out _ (Bel.h _))))
  refine wpQuiet_nil ?_
  rintro _ ⟨u, rfl⟩
  have HU : Hid (Below w.heap.size w u.w) := HW.out.2.1.trans (u.h.mono HW.out.2.1.size)
  generalize u.w = W6 at *
  clear x0 x1 x2 x3 x4 x5 y0 y1 y2 y3 y4 y5 hne
  go_wp2
  go_ret
  exact ⟨rfl, HU.out⟩

set_option maxRecDepth 100000 in
set_option maxHeartbeats 2000000 in
theorem dcmp_tr1_ne (w : World) {xk xn yk yn : Int} {xb xo yb yo : Bool} {xt yt : ByteArray} {xa ya : Option Addr} {xc yc : Nat} {xL yL : List ByteArray} (hxv : VOk w ⟨xk, xb, xn, xo, xt, xL⟩ xa) (hyv : VOk w ⟨yk, yb, yn, yo, yt, yL⟩ ya) (kx : (xk == 4) = false) (ky : (yk == 4) = false) (k1 : (xk == 1) = true) (R : Bool) (hR : ((Vl.tr ⟨xk, xb, xn, xo, xt, xL⟩ == Vl.tr ⟨yk, yb, yn, yo, yt, yL⟩) == false) = R) :
    Calls Tryz.prog 19 #[.string ⟨#[33, 61]⟩, .agg #[.int .i64 xk, .bool xb, .int .i64 xn, .bool xo, .string xt, .slice xa xL.length xc], .agg #[.int .i64 yk, .bool yb, .int .i64 yn, .bool yo, .string yt, .slice ya yL.length yc]] w fun e w' => e = .returned (.bool R) ∧ Below w.heap.size w w' := by
  obtain ⟨W, hW⟩ : ∃ W, ((w.alloc (.cells #[.int .i64 xk, .bool xb, .int .i64 xn, .bool xo, .string xt, .slice xa xL.length xc] 24)).alloc (.cells #[.int .i64 yk, .bool yb, .int .i64 yn, .bool yo, .string yt, .slice ya yL.length yc] 24)) = W := ⟨_, rfl⟩
  have hbW : Below w.heap.size w W := by rw [← hW]; exact below2 _ _ _
  have hx : IsCells W w.heap.size #[.int .i64 xk, .bool xb, .int .i64 xn, .bool xo, .string xt, .slice xa xL.length xc] := by rw [← hW]; exact (isCells_new w _ 24).alloc _
  have hy : IsCells W (w.heap.size + 1) #[.int .i64 yk, .bool yb, .int .i64 yn, .bool yo, .string yt, .slice ya yL.length yc] := by
    have := isCells_new (w.alloc (.cells #[.int .i64 xk, .bool xb, .int .i64 xn, .bool xo, .string xt, .slice xa xL.length xc] 24)) #[.int .i64 yk, .bool yb, .int .i64 yn, .bool yo, .string yt, .slice ya yL.length yc] 24
    rw [hW] at this
    simpa using this
  have HW : Hid (((w.alloc (.cells #[.int .i64 xk, .bool xb, .int .i64 xn, .bool xo, .string xt, .slice xa xL.length xc] 24)).alloc (.cells #[.int .i64 yk, .bool yb, .int .i64 yn, .bool yo, .string yt, .slice ya yL.length yc] 24)) = W ∧ Below w.heap.size w W ∧ IsCells W w.heap.size #[.int .i64 xk, .bool xb, .int .i64 xn, .bool xo, .string xt, .slice xa xL.length xc] ∧ IsCells W (w.heap.size + 1) #[.int .i64 yk, .bool yb, .int .i64 yn, .bool yo, .string yt, .slice ya yL.length yc]) := ⟨hW, hbW, hx, hy⟩
  have HH : Hid (VOk w ⟨xk, xb, xn, xo, xt, xL⟩ xa ∧ VOk w ⟨yk, yb, yn, yo, yt, yL⟩ ya) := ⟨hxv, hyv⟩
  obtain ⟨x0, x1, x2, x3, x4, x5, y0, y1, y2, y3, y4, y5⟩ := two_cells hx hy
  have b1 := hx.lt
  have b2 := hy.lt
  clear hW hbW hx hy hxv hyv 
  have HC1 : Hid (∀ u, Below W.heap.size W u → Calls Tryz.prog 16 #[.agg #[.int .i64 xk, .bool xb, .int .i64 xn, .bool xo, .string xt, .slice xa xL.length xc]] u fun e w' => e = .returned (.bool (Vl.tr ⟨xk, xb, xn, xo, xt, xL⟩)) ∧ Below u.heap.size u w') := fun u hu => dbool_any u xk xn xb xo xt xa xL.length xc
  have HC2 : Hid (∀ u, Below W.heap.size W u → Calls Tryz.prog 16 #[.agg #[.int .i64 yk, .bool yb, .int .i64 yn, .bool yo, .string yt, .slice ya yL.length yc]] u fun e w' => e = .returned (.bool (Vl.tr ⟨yk, yb, yn, yo, yt, yL⟩)) ∧ Below u.heap.size u w') := fun u hu => dbool_any u yk yn yb yo yt ya yL.length yc
  generalize Vl.tr ⟨xk, xb, xn, xo, xt, xL⟩ = p at *
  generalize Vl.tr ⟨yk, yb, yn, yo, yt, yL⟩ = q at *
  have HR : Hid (((p == q) == false) = R) := hR
  clear hR
  go_enter Tryz.func19, Tryz.ntmps19
  go_wp2_with fail
  rw [HW.out.1]
  refine wp_region_bel (by kernel_rfl) (by kernel_rfl) ?_
  intro hne
  repeat go_big_quiet_step (first | (go_at_call 16; with_reducible exact Calls.bel_of (HC1.out _ (Bel.h _))) | (go_at_call 16; with_reducible exact Calls.bel_of (HC2.out _ (Bel.h _))))
  refine wpQuiet_nil ?_
  rintro _ ⟨u, rfl⟩
  have HU : Hid (Below w.heap.size w u.w) := HW.out.2.1.trans (u.h.mono HW.out.2.1.size)
  generalize u.w = W6 at *
  clear x0 x1 x2 x3 x4 x5 y0 y1 y2 y3 y4 y5 hne
  go_wp2
  go_ret
  exact ⟨congrArg _ (v_bool (by rw [← HR.out]; first | rfl | simp)), HU.out⟩

set_option maxRecDepth 100000 in
set_option maxHeartbeats 2000000 in
theorem dcmp_tr2_ne (w : World) {xk xn yk yn : Int} {xb xo yb yo : Bool} {xt yt : ByteArray} {xa ya : Option Addr} {xc yc : Nat} {xL yL : List ByteArray} (hxv : VOk w ⟨xk, xb, xn, xo, xt, xL⟩ xa) (hyv : VOk w ⟨yk, yb, yn, yo, yt, yL⟩ ya) (kx : (xk == 4) = false) (ky : (yk == 4) = false) (k1 : (xk == 1) = false) (k2 : (yk == 1) = true) (R : Bool) (hR : ((Vl.tr ⟨xk, xb, xn, xo, xt, xL⟩ == Vl.tr ⟨yk, yb, yn, yo, yt, yL⟩) == false) = R) :
    Calls Tryz.prog 19 #[.string ⟨#[33, 61]⟩, .agg #[.int .i64 xk, .bool xb, .int .i64 xn, .bool xo, .string xt, .slice xa xL.length xc], .agg #[.int .i64 yk, .bool yb, .int .i64 yn, .bool yo, .string yt, .slice ya yL.length yc]] w fun e w' => e = .returned (.bool R) ∧ Below w.heap.size w w' := by
  obtain ⟨W, hW⟩ : ∃ W, ((w.alloc (.cells #[.int .i64 xk, .bool xb, .int .i64 xn, .bool xo, .string xt, .slice xa xL.length xc] 24)).alloc (.cells #[.int .i64 yk, .bool yb, .int .i64 yn, .bool yo, .string yt, .slice ya yL.length yc] 24)) = W := ⟨_, rfl⟩
  have hbW : Below w.heap.size w W := by rw [← hW]; exact below2 _ _ _
  have hx : IsCells W w.heap.size #[.int .i64 xk, .bool xb, .int .i64 xn, .bool xo, .string xt, .slice xa xL.length xc] := by rw [← hW]; exact (isCells_new w _ 24).alloc _
  have hy : IsCells W (w.heap.size + 1) #[.int .i64 yk, .bool yb, .int .i64 yn, .bool yo, .string yt, .slice ya yL.length yc] := by
    have := isCells_new (w.alloc (.cells #[.int .i64 xk, .bool xb, .int .i64 xn, .bool xo, .string xt, .slice xa xL.length xc] 24)) #[.int .i64 yk, .bool yb, .int .i64 yn, .bool yo, .string yt, .slice ya yL.length yc] 24
    rw [hW] at this
    simpa using this
  have HW : Hid (((w.alloc (.cells #[.int .i64 xk, .bool xb, .int .i64 xn, .bool xo, .string xt, .slice xa xL.length xc] 24)).alloc (.cells #[.int .i64 yk, .bool yb, .int .i64 yn, .bool yo, .string yt, .slice ya yL.length yc] 24)) = W ∧ Below w.heap.size w W ∧ IsCells W w.heap.size #[.int .i64 xk, .bool xb, .int .i64 xn, .bool xo, .string xt, .slice xa xL.length xc] ∧ IsCells W (w.heap.size + 1) #[.int .i64 yk, .bool yb, .int .i64 yn, .bool yo, .string yt, .slice ya yL.length yc]) := ⟨hW, hbW, hx, hy⟩
  have HH : Hid (VOk w ⟨xk, xb, xn, xo, xt, xL⟩ xa ∧ VOk w ⟨yk, yb, yn, yo, yt, yL⟩ ya) := ⟨hxv, hyv⟩
  obtain ⟨x0, x1, x2, x3, x4, x5, y0, y1, y2, y3, y4, y5⟩ := two_cells hx hy
  have b1 := hx.lt
  have b2 := hy.lt
  clear hW hbW hx hy hxv hyv 
  have HC1 : Hid (∀ u, Below W.heap.size W u → Calls Tryz.prog 16 #[.agg #[.int .i64 xk, .bool xb, .int .i64 xn, .bool xo, .string xt, .slice xa xL.length xc]] u fun e w' => e = .returned (.bool (Vl.tr ⟨xk, xb, xn, xo, xt, xL⟩)) ∧ Below u.heap.size u w') := fun u hu => dbool_any u xk xn xb xo xt xa xL.length xc
  have HC2 : Hid (∀ u, Below W.heap.size W u → Calls Tryz.prog 16 #[.agg #[.int .i64 yk, .bool yb, .int .i64 yn, .bool yo, .string yt, .slice ya yL.length yc]] u fun e w' => e = .returned (.bool (Vl.tr ⟨yk, yb, yn, yo, yt, yL⟩)) ∧ Below u.heap.size u w') := fun u hu => dbool_any u yk yn yb yo yt ya yL.length yc
  generalize Vl.tr ⟨xk, xb, xn, xo, xt, xL⟩ = p at *
  generalize Vl.tr ⟨yk, yb, yn, yo, yt, yL⟩ = q at *
  have HR : Hid (((p == q) == false) = R) := hR
  clear hR
  go_enter Tryz.func19, Tryz.ntmps19
  go_wp2_with fail
  rw [HW.out.1]
  refine wp_region_bel (by kernel_rfl) (by kernel_rfl) ?_
  intro hne
  repeat go_big_quiet_step (first | (go_at_call 16; with_reducible exact Calls.bel_of (HC1.out _ (Bel.h _))) | (go_at_call 16; with_reducible exact Calls.bel_of (HC2.out _ (Bel.h _))))
  refine wpQuiet_nil ?_
  rintro _ ⟨u, rfl⟩
  have HU : Hid (Below w.heap.size w u.w) := HW.out.2.1.trans (u.h.mono HW.out.2.1.size)
  generalize u.w = W6 at *
  clear x0 x1 x2 x3 x4 x5 y0 y1 y2 y3 y4 y5 hne
  go_wp2
  go_ret
  exact ⟨congrArg _ (v_bool (by rw [← HR.out]; first | rfl | simp)), HU.out⟩

set_option maxRecDepth 100000 in
set_option maxHeartbeats 2000000 in
theorem dcmp_tx_ne (w : World) {xk xn yk yn : Int} {xb xo yb yo : Bool} {xt yt : ByteArray} {xa ya : Option Addr} {xc yc : Nat} {xL yL : List ByteArray} (hxv : VOk w ⟨xk, xb, xn, xo, xt, xL⟩ xa) (hyv : VOk w ⟨yk, yb, yn, yo, yt, yL⟩ ya) (kx : (xk == 4) = false) (ky : (yk == 4) = false) (k1 : (xk == 1) = false) (k2 : (yk == 1) = false) (k3 : (xk == 3) = true) (k4 : (yk == 3) = true) (R : Bool) (hR : (decide (xt = yt) == false) = R) :
    Calls Tryz.prog 19 #[.string ⟨#[33, 61]⟩, .agg #[.int .i64 xk, .bool xb, .int .i64 xn, .bool xo, .string xt, .slice xa xL.length xc], .agg #[.int .i64 yk, .bool yb, .int .i64 yn, .bool yo, .string yt, .slice ya yL.length yc]] w fun e w' => e = .returned (.bool R) ∧ Below w.heap.size w w' := by
  obtain ⟨W, hW⟩ : ∃ W, ((w.alloc (.cells #[.int .i64 xk, .bool xb, .int .i64 xn, .bool xo, .string xt, .slice xa xL.length xc] 24)).alloc (.cells #[.int .i64 yk, .bool yb, .int .i64 yn, .bool yo, .string yt, .slice ya yL.length yc] 24)) = W := ⟨_, rfl⟩
  have hbW : Below w.heap.size w W := by rw [← hW]; exact below2 _ _ _
  have hx : IsCells W w.heap.size #[.int .i64 xk, .bool xb, .int .i64 xn, .bool xo, .string xt, .slice xa xL.length xc] := by rw [← hW]; exact (isCells_new w _ 24).alloc _
  have hy : IsCells W (w.heap.size + 1) #[.int .i64 yk, .bool yb, .int .i64 yn, .bool yo, .string yt, .slice ya yL.length yc] := by
    have := isCells_new (w.alloc (.cells #[.int .i64 xk, .bool xb, .int .i64 xn, .bool xo, .string xt, .slice xa xL.length xc] 24)) #[.int .i64 yk, .bool yb, .int .i64 yn, .bool yo, .string yt, .slice ya yL.length yc] 24
    rw [hW] at this
    simpa using this
  have HW : Hid (((w.alloc (.cells #[.int .i64 xk, .bool xb, .int .i64 xn, .bool xo, .string xt, .slice xa xL.length xc] 24)).alloc (.cells #[.int .i64 yk, .bool yb, .int .i64 yn, .bool yo, .string yt, .slice ya yL.length yc] 24)) = W ∧ Below w.heap.size w W ∧ IsCells W w.heap.size #[.int .i64 xk, .bool xb, .int .i64 xn, .bool xo, .string xt, .slice xa xL.length xc] ∧ IsCells W (w.heap.size + 1) #[.int .i64 yk, .bool yb, .int .i64 yn, .bool yo, .string yt, .slice ya yL.length yc]) := ⟨hW, hbW, hx, hy⟩
  have HH : Hid (VOk w ⟨xk, xb, xn, xo, xt, xL⟩ xa ∧ VOk w ⟨yk, yb, yn, yo, yt, yL⟩ ya) := ⟨hxv, hyv⟩
  obtain ⟨x0, x1, x2, x3, x4, x5, y0, y1, y2, y3, y4, y5⟩ := two_cells hx hy
  have b1 := hx.lt
  have b2 := hy.lt
  clear hW hbW hx hy hxv hyv 
  have HR : Hid (((xt.toList == yt.toList) == false) = R) := by
    show _ = _
    rw [← hR]
    congr 1
    rw [Bool.eq_iff_iff, beq_iff_eq, decide_eq_true_eq, Lib.toList_data, Lib.toList_data]
    exact ⟨fun h => by cases xt; cases yt; exact congrArg ByteArray.mk (Array.toList_inj.1 h), fun h => by rw [h]⟩
  clear hR
  go_enter Tryz.func19, Tryz.ntmps19
  go_wp2_with fail
  rw [HW.out.1]
  go_wp2
  go_ret
  exact ⟨congrArg _ (v_bool (by rw [← HR.out]; first | rfl | simp)), HW.out.2.1⟩

set_option maxRecDepth 100000 in
set_option maxHeartbeats 2000000 in
theorem dcmp_nx_ne (w : World) {xk xn yk yn : Int} {xb xo yb yo : Bool} {xt yt : ByteArray} {xa ya : Option Addr} {xc yc : Nat} {xL yL : List ByteArray} (hxv : VOk w ⟨xk, xb, xn, xo, xt, xL⟩ xa) (hyv : VOk w ⟨yk, yb, yn, yo, yt, yL⟩ ya) (kx : (xk == 4) = false) (ky : (yk == 4) = false) (k1 : (xk == 1) = false) (k2 : (yk == 1) = false) (k3 : (xk == 3) = false) (R : Bool) (hR : nmB ⟨#[33, 61]⟩ (Vl.nm ⟨xk, xb, xn, xo, xt, xL⟩).1 (Vl.nm ⟨xk, xb, xn, xo, xt, xL⟩).2 (Vl.nm ⟨yk, yb, yn, yo, yt, yL⟩).1 (Vl.nm ⟨yk, yb, yn, yo, yt, yL⟩).2 = R) :
    Calls Tryz.prog 19 #[.string ⟨#[33, 61]⟩, .agg #[.int .i64 xk, .bool xb, .int .i64 xn, .bool xo, .string xt, .slice xa xL.length xc], .agg #[.int .i64 yk, .bool yb, .int .i64 yn, .bool yo, .string yt, .slice ya yL.length yc]] w fun e w' => e = .returned (.bool R) ∧ Below w.heap.size w w' := by
  obtain ⟨W, hW⟩ : ∃ W, ((w.alloc (.cells #[.int .i64 xk, .bool xb, .int .i64 xn, .bool xo, .string xt, .slice xa xL.length xc] 24)).alloc (.cells #[.int .i64 yk, .bool yb, .int .i64 yn, .bool yo, .string yt, .slice ya yL.length yc] 24)) = W := ⟨_, rfl⟩
  have hbW : Below w.heap.size w W := by rw [← hW]; exact below2 _ _ _
  have hx : IsCells W w.heap.size #[.int .i64 xk, .bool xb, .int .i64 xn, .bool xo, .string xt, .slice xa xL.length xc] := by rw [← hW]; exact (isCells_new w _ 24).alloc _
  have hy : IsCells W (w.heap.size + 1) #[.int .i64 yk, .bool yb, .int .i64 yn, .bool yo, .string yt, .slice ya yL.length yc] := by
    have := isCells_new (w.alloc (.cells #[.int .i64 xk, .bool xb, .int .i64 xn, .bool xo, .string xt, .slice xa xL.length xc] 24)) #[.int .i64 yk, .bool yb, .int .i64 yn, .bool yo, .string yt, .slice ya yL.length yc] 24
    rw [hW] at this
    simpa using this
  have HW : Hid (((w.alloc (.cells #[.int .i64 xk, .bool xb, .int .i64 xn, .bool xo, .string xt, .slice xa xL.length xc] 24)).alloc (.cells #[.int .i64 yk, .bool yb, .int .i64 yn, .bool yo, .string yt, .slice ya yL.length yc] 24)) = W ∧ Below w.heap.size w W ∧ IsCells W w.heap.size #[.int .i64 xk, .bool xb, .int .i64 xn, .bool xo, .string xt, .slice xa xL.length xc] ∧ IsCells W (w.heap.size + 1) #[.int .i64 yk, .bool yb, .int .i64 yn, .bool yo, .string yt, .slice ya yL.length yc]) := ⟨hW, hbW, hx, hy⟩
  have HH : Hid (VOk w ⟨xk, xb, xn, xo, xt, xL⟩ xa ∧ VOk w ⟨yk, yb, yn, yo, yt, yL⟩ ya) := ⟨hxv, hyv⟩
  obtain ⟨x0, x1, x2, x3, x4, x5, y0, y1, y2, y3, y4, y5⟩ := two_cells hx hy
  have b1 := hx.lt
  have b2 := hy.lt
  clear hW hbW hx hy hxv hyv 
  obtain ⟨p1, p2, HP⟩ : ∃ p1 p2, Hid (Vl.nm ⟨xk, xb, xn, xo, xt, xL⟩ = (p1, p2)) := ⟨_, _, rfl⟩
  obtain ⟨q1, q2, HQ⟩ : ∃ q1 q2, Hid (Vl.nm ⟨yk, yb, yn, yo, yt, yL⟩ = (q1, q2)) := ⟨_, _, rfl⟩
  have HC1 : Hid (∀ u, Below W.heap.size W u → Calls Tryz.prog 15 #[.agg #[.int .i64 xk, .bool xb, .int .i64 xn, .bool xo, .string xt, .slice xa xL.length xc]] u fun e w' => e = .returned (.agg #[.bool p2, .int .i64 p1]) ∧ Below u.heap.size u w') := fun u hu => by
    have h := dnum_any u (c := xc) (HH.out.1.bel (HW.out.2.1.trans (hu.mono HW.out.2.1.size)))
    rw [show nmV xk xb xn xo xt xL = (p1, p2) from HP.out] at h
    exact h
  have HC2 : Hid (∀ u, Below W.heap.size W u → Calls Tryz.prog 15 #[.agg #[.int .i64 yk, .bool yb, .int .i64 yn, .bool yo, .string yt, .slice ya yL.length yc]] u fun e w' => e = .returned (.agg #[.bool q2, .int .i64 q1]) ∧ Below u.heap.size u w') := fun u hu => by
    have h := dnum_any u (c := yc) (HH.out.2.bel (HW.out.2.1.trans (hu.mono HW.out.2.1.size)))
    rw [show nmV yk yb yn yo yt yL = (q1, q2) from HQ.out] at h
    exact h
  have HC3 : Hid (∀ u, Below W.heap.size W u → Calls Tryz.prog 46 #[.string ⟨#[33, 61]⟩, .agg #[.bool p2, .int .i64 p1], .agg #[.bool q2, .int .i64 q1]] u fun e w' => e = .returned (.bool R) ∧ Below u.heap.size u w') := fun u hu => by
    have h := dheld_any u ⟨#[33, 61]⟩ (.inr (.inl rfl)) p1 q1 p2 q2
    rw [HP.out, HQ.out] at hR
    rw [hR] at h
    exact h
  clear hR
  go_enter Tryz.func19, Tryz.ntmps19
  go_wp2_with fail
  rw [HW.out.1]
  refine wp_region_bel (by kernel_rfl) (by kernel_rfl) ?_
  intro hne
  repeat go_big_quiet_step (first | (go_at_call 15; with_reducible exact Calls.bel_of (HC1.out _ (Bel.h _))) | (go_at_call 15; with_reducible exact Calls.bel_of (HC2.out _ (Bel.h _))) | (go_at_call 46; with_reducible exact Calls.bel_of (HC3.out _ (Bel.h _))))
  refine wpQuiet_nil ?_
  rintro _ ⟨u, rfl⟩
  have HU : Hid (Below w.heap.size w u.w) := HW.out.2.1.trans (u.h.mono HW.out.2.1.size)
  generalize u.w = W6 at *
  clear x0 x1 x2 x3 x4 x5 y0 y1 y2 y3 y4 y5 hne
  go_wp2
  go_ret
  exact ⟨rfl, HU.out⟩

set_option maxRecDepth 100000 in
set_option maxHeartbeats 2000000 in
theorem dcmp_ny_ne (w : World) {xk xn yk yn : Int} {xb xo yb yo : Bool} {xt yt : ByteArray} {xa ya : Option Addr} {xc yc : Nat} {xL yL : List ByteArray} (hxv : VOk w ⟨xk, xb, xn, xo, xt, xL⟩ xa) (hyv : VOk w ⟨yk, yb, yn, yo, yt, yL⟩ ya) (kx : (xk == 4) = false) (ky : (yk == 4) = false) (k1 : (xk == 1) = false) (k2 : (yk == 1) = false) (k3 : (xk == 3) = true) (k4 : (yk == 3) = false) (R : Bool) (hR : nmB ⟨#[33, 61]⟩ (Vl.nm ⟨xk, xb, xn, xo, xt, xL⟩).1 (Vl.nm ⟨xk, xb, xn, xo, xt, xL⟩).2 (Vl.nm ⟨yk, yb, yn, yo, yt, yL⟩).1 (Vl.nm ⟨yk, yb, yn, yo, yt, yL⟩).2 = R) :
    Calls Tryz.prog 19 #[.string ⟨#[33, 61]⟩, .agg #[.int .i64 xk, .bool xb, .int .i64 xn, .bool xo, .string xt, .slice xa xL.length xc], .agg #[.int .i64 yk, .bool yb, .int .i64 yn, .bool yo, .string yt, .slice ya yL.length yc]] w fun e w' => e = .returned (.bool R) ∧ Below w.heap.size w w' := by
  obtain ⟨W, hW⟩ : ∃ W, ((w.alloc (.cells #[.int .i64 xk, .bool xb, .int .i64 xn, .bool xo, .string xt, .slice xa xL.length xc] 24)).alloc (.cells #[.int .i64 yk, .bool yb, .int .i64 yn, .bool yo, .string yt, .slice ya yL.length yc] 24)) = W := ⟨_, rfl⟩
  have hbW : Below w.heap.size w W := by rw [← hW]; exact below2 _ _ _
  have hx : IsCells W w.heap.size #[.int .i64 xk, .bool xb, .int .i64 xn, .bool xo, .string xt, .slice xa xL.length xc] := by rw [← hW]; exact (isCells_new w _ 24).alloc _
  have hy : IsCells W (w.heap.size + 1) #[.int .i64 yk, .bool yb, .int .i64 yn, .bool yo, .string yt, .slice ya yL.length yc] := by
    have := isCells_new (w.alloc (.cells #[.int .i64 xk, .bool xb, .int .i64 xn, .bool xo, .string xt, .slice xa xL.length xc] 24)) #[.int .i64 yk, .bool yb, .int .i64 yn, .bool yo, .string yt, .slice ya yL.length yc] 24
    rw [hW] at this
    simpa using this
  have HW : Hid (((w.alloc (.cells #[.int .i64 xk, .bool xb, .int .i64 xn, .bool xo, .string xt, .slice xa xL.length xc] 24)).alloc (.cells #[.int .i64 yk, .bool yb, .int .i64 yn, .bool yo, .string yt, .slice ya yL.length yc] 24)) = W ∧ Below w.heap.size w W ∧ IsCells W w.heap.size #[.int .i64 xk, .bool xb, .int .i64 xn, .bool xo, .string xt, .slice xa xL.length xc] ∧ IsCells W (w.heap.size + 1) #[.int .i64 yk, .bool yb, .int .i64 yn, .bool yo, .string yt, .slice ya yL.length yc]) := ⟨hW, hbW, hx, hy⟩
  have HH : Hid (VOk w ⟨xk, xb, xn, xo, xt, xL⟩ xa ∧ VOk w ⟨yk, yb, yn, yo, yt, yL⟩ ya) := ⟨hxv, hyv⟩
  obtain ⟨x0, x1, x2, x3, x4, x5, y0, y1, y2, y3, y4, y5⟩ := two_cells hx hy
  have b1 := hx.lt
  have b2 := hy.lt
  clear hW hbW hx hy hxv hyv 
  obtain ⟨p1, p2, HP⟩ : ∃ p1 p2, Hid (Vl.nm ⟨xk, xb, xn, xo, xt, xL⟩ = (p1, p2)) := ⟨_, _, rfl⟩
  obtain ⟨q1, q2, HQ⟩ : ∃ q1 q2, Hid (Vl.nm ⟨yk, yb, yn, yo, yt, yL⟩ = (q1, q2)) := ⟨_, _, rfl⟩
  have HC1 : Hid (∀ u, Below W.heap.size W u → Calls Tryz.prog 15 #[.agg #[.int .i64 xk, .bool xb, .int .i64 xn, .bool xo, .string xt, .slice xa xL.length xc]] u fun e w' => e = .returned (.agg #[.bool p2, .int .i64 p1]) ∧ Below u.heap.size u w') := fun u hu => by
    have h := dnum_any u (c := xc) (HH.out.1.bel (HW.out.2.1.trans (hu.mono HW.out.2.1.size)))
    rw [show nmV xk xb xn xo xt xL = (p1, p2) from HP.out] at h
    exact h
  have HC2 : Hid (∀ u, Below W.heap.size W u → Calls Tryz.prog 15 #[.agg #[.int .i64 yk, .bool yb, .int .i64 yn, .bool yo, .string yt, .slice ya yL.length yc]] u fun e w' => e = .returned (.agg #[.bool q2, .int .i64 q1]) ∧ Below u.heap.size u w') := fun u hu => by
    have h := dnum_any u (c := yc) (HH.out.2.bel (HW.out.2.1.trans (hu.mono HW.out.2.1.size)))
    rw [show nmV yk yb yn yo yt yL = (q1, q2) from HQ.out] at h
    exact h
  have HC3 : Hid (∀ u, Below W.heap.size W u → Calls Tryz.prog 46 #[.string ⟨#[33, 61]⟩, .agg #[.bool p2, .int .i64 p1], .agg #[.bool q2, .int .i64 q1]] u fun e w' => e = .returned (.bool R) ∧ Below u.heap.size u w') := fun u hu => by
    have h := dheld_any u ⟨#[33, 61]⟩ (.inr (.inl rfl)) p1 q1 p2 q2
    rw [HP.out, HQ.out] at hR
    rw [hR] at h
    exact h
  clear hR
  go_enter Tryz.func19, Tryz.ntmps19
  go_wp2_with fail
  rw [HW.out.1]
  refine wp_region_bel (by kernel_rfl) (by kernel_rfl) ?_
  intro hne
  repeat go_big_quiet_step (first | (go_at_call 15; with_reducible exact Calls.bel_of (HC1.out _ (Bel.h _))) | (go_at_call 15; with_reducible exact Calls.bel_of (HC2.out _ (Bel.h _))) | (go_at_call 46; with_reducible exact Calls.bel_of (HC3.out _ (Bel.h _))))
  refine wpQuiet_nil ?_
  rintro _ ⟨u, rfl⟩
  have HU : Hid (Below w.heap.size w u.w) := HW.out.2.1.trans (u.h.mono HW.out.2.1.size)
  generalize u.w = W6 at *
  clear x0 x1 x2 x3 x4 x5 y0 y1 y2 y3 y4 y5 hne
  go_wp2
  go_ret
  exact ⟨rfl, HU.out⟩

theorem kb {x k : Int} (h : x = k) : (x == k) = true := by simpa using h
theorem kn {x k : Int} (h : x ≠ k) : (x == k) = false := by simpa using h
/-- Of two values neither of which is nodes. -/
theorem dcmp0_any (w : World) (op : ByteArray) (ho : IsOp op) {xk xn yk yn : Int} {xb xo yb yo : Bool} {xt yt : ByteArray} {xa ya : Option Addr} {xc yc : Nat} {xL yL : List ByteArray} (hxv : VOk w ⟨xk, xb, xn, xo, xt, xL⟩ xa) (hyv : VOk w ⟨yk, yb, yn, yo, yt, yL⟩ ya) (kx : xk = 1 ∨ xk = 2 ∨ xk = 3) (ky : yk = 1 ∨ yk = 2 ∨ yk = 3) :
    Calls Tryz.prog 19 #[.string op, .agg #[.int .i64 xk, .bool xb, .int .i64 xn, .bool xo, .string xt, .slice xa xL.length xc], .agg #[.int .i64 yk, .bool yb, .int .i64 yn, .bool yo, .string yt, .slice ya yL.length yc]] w fun e w' => e = .returned (.bool (cmpV op ⟨xk, xb, xn, xo, xt, xL⟩ ⟨yk, yb, yn, yo, yt, yL⟩)) ∧ Below w.heap.size w w' := by
  rw [cmp_base ho (v := ⟨xk, xb, xn, xo, xt, xL⟩) (u := ⟨yk, yb, yn, yo, yt, yL⟩) kx ky]
  have x4 : (xk == 4) = false := kn (by omega)
  have y4 : (yk == 4) = false := kn (by omega)
  unfold baseV
  cases h : ordB op with
  | true =>
    have hne : op ≠ ⟨#[61]⟩ ∧ op ≠ ⟨#[33, 61]⟩ := by
      unfold ordB at h
      simp at h
      exact h
    simp only [if_true]
    exact dcmp_ord w op ho hxv hyv x4 y4 (ba_ne (c := #[61]) hne.1) (ba_ne (c := #[33, 61]) hne.2) _ rfl
  | false =>
    have hop : op = ⟨#[61]⟩ ∨ op = ⟨#[33, 61]⟩ := by
      unfold ordB at h
      simp at h
      exact (Classical.em (op = ⟨#[61]⟩)).imp_right h
    simp only [Bool.false_eq_true, if_false]
    rcases Classical.em (xk = 1) with x1 | x1
    · simp only [x1, decide_true, Bool.true_or, if_true]
      subst x1
      rcases hop with rfl | rfl
      · exact dcmp_tr1_eq w hxv hyv x4 y4 rfl _ (by simp)
      · exact dcmp_tr1_ne w hxv hyv x4 y4 rfl _ (by simp)
    · rcases Classical.em (yk = 1) with y1 | y1
      · simp only [y1, decide_true, Bool.or_true, if_true]
        subst y1
        rcases hop with rfl | rfl
        · exact dcmp_tr2_eq w hxv hyv x4 y4 (kn x1) rfl _ (by simp)
        · exact dcmp_tr2_ne w hxv hyv x4 y4 (kn x1) rfl _ (by simp)
      · simp only [x1, y1, decide_false, Bool.or_self, Bool.false_eq_true, if_false]
        rcases Classical.em (xk = 3) with x3 | x3
        · rcases Classical.em (yk = 3) with y3 | y3
          · simp only [x3, y3, decide_true, Bool.and_self, if_true]
            subst x3 y3
            rcases hop with rfl | rfl
            · exact dcmp_tx_eq w hxv hyv x4 y4 (kn x1) (kn y1) rfl rfl _ (by simp)
            · exact dcmp_tx_ne w hxv hyv x4 y4 (kn x1) (kn y1) rfl rfl _ (by simp)
          · simp only [y3, decide_false, Bool.and_false, Bool.false_eq_true, if_false]
            rcases hop with rfl | rfl
            · exact dcmp_ny_eq w hxv hyv x4 y4 (kn x1) (kn y1) (kb x3) (kn y3) _ rfl
            · exact dcmp_ny_ne w hxv hyv x4 y4 (kn x1) (kn y1) (kb x3) (kn y3) _ rfl
        · simp only [x3, decide_false, Bool.false_and, Bool.false_eq_true, if_false]
          rcases hop with rfl | rfl
          · exact dcmp_nx_eq w hxv hyv x4 y4 (kn x1) (kn y1) (kn x3) _ rfl
          · exact dcmp_nx_ne w hxv hyv x4 y4 (kn x1) (kn y1) (kn x3) _ rfl

end Go.Proofs.YtoabgmpcdnikeaaGreatDoor
