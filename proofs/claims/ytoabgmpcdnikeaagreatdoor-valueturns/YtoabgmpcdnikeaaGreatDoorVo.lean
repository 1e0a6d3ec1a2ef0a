/- Two values held against each other: the program's held and Compare. -/
import Derived.Test.YtoabgmpcdnikeaaGreatDoorVn
namespace Go.Proofs.YtoabgmpcdnikeaaGreatDoor
open Go.RowKit
set_option linter.unusedVariables false

theorem held_any (w : World) (op : ByteArray) (ho : IsOp op) {xk xn yk yn : Int} {xb xo yb yo : Bool} {xt yt : ByteArray} {xa ya : Option Addr} {xc yc : Nat} {xL yL : List ByteArray} (hxv : VOk w ⟨xk, xb, xn, xo, xt, xL⟩ xa) (hyv : VOk w ⟨yk, yb, yn, yo, yt, yL⟩ ya) (G : Gl w) (lx : xk = 4 → xL.length ≤ 4194304) (ly : yk = 4 → yL.length ≤ 4194304) :
    Calls Tryz.prog 39 #[.string op, .agg #[.int .i64 xk, .bool xb, .int .i64 xn, .bool xo, .string xt, .slice xa xL.length xc], .agg #[.int .i64 yk, .bool yb, .int .i64 yn, .bool yo, .string yt, .slice ya yL.length yc]] w fun e w' => e = .returned (.bool (cmpV op ⟨xk, xb, xn, xo, xt, xL⟩ ⟨yk, yb, yn, yo, yt, yL⟩)) ∧ Below w.heap.size w w' := by
  unfold cmpV has2
  cases h1 : (decide (xk = 1) || decide (yk = 1)) with
  | true =>
    cases h4 : (decide (xk = 4) || decide (yk = 4)) with
    | true =>
      simp only [Bool.true_or, Bool.and_self, if_true]
      exact held_tr1 w op ho hxv hyv G h1 h4 rfl _ _ _ rfl rfl rfl
    | false =>
      cases hno : ordB op with
      | true =>
        simp only [Bool.not_true, Bool.or_self, Bool.and_false, if_true]
        exact held_ord2 w op ho hxv hyv G lx ly hno h1 h4 rfl _ rfl
      | false =>
        simp only [Bool.not_false, Bool.or_true, Bool.and_self, if_true]
        exact held_tr2 w op ho hxv hyv G hno h1 h4 rfl _ _ _ rfl rfl rfl
  | false =>
    simp only [Bool.false_and]
    cases hno : ordB op with
    | true => exact held_ord1 w op ho hxv hyv G lx ly hno h1 rfl rfl _ rfl
    | false =>
      cases h2 : (decide (xk = 2) || decide (yk = 2)) with
      | true => exact held_nums w op ho hxv hyv G lx ly hno h1 rfl h2 _ rfl
      | false => exact held_texts w op ho hxv hyv G hno h1 rfl h2 _ rfl


/-- What Compare answers. -/
def cmpR (op : ByteArray) (v u : Vl) : Bool × Int := if isOpB op = false then (false, 1) else if (v.can && u.can) = false then (false, 141) else (cmpV op v u, 0)
theorem can_len {k : Int} {t : Bs} {L : List ByteArray} (h : canV k t (L.map Tx) = true) : k = 4 → L.length ≤ 4194304 := by
  rintro rfl
  simp [canV] at h
  omega

set_option maxRecDepth 100000 in
theorem compare_any (w : World) (op : ByteArray) {xk xn yk yn : Int} {xb xo yb yo : Bool} {xt yt : ByteArray} {xa ya : Option Addr} {xc yc : Nat} {xL yL : List ByteArray} (hxv : VOk w ⟨xk, xb, xn, xo, xt, xL⟩ xa) (hyv : VOk w ⟨yk, yb, yn, yo, yt, yL⟩ ya) (G : Gl w) (R : Bool) (E : Int) (hR : cmpR op ⟨xk, xb, xn, xo, xt, xL⟩ ⟨yk, yb, yn, yo, yt, yL⟩ = (R, E)) :
    Calls Tryz.prog 12 #[.string op, .agg #[.int .i64 xk, .bool xb, .int .i64 xn, .bool xo, .string xt, .slice xa xL.length xc], .agg #[.int .i64 yk, .bool yb, .int .i64 yn, .bool yo, .string yt, .slice ya yL.length yc]] w fun e w' => e = .returned (.tuple #[.bool R, .int .i64 E]) ∧ Below w.heap.size w w' := by
  obtain ⟨W, hW⟩ : ∃ W, ((w.alloc (.cells #[.int .i64 xk, .bool xb, .int .i64 xn, .bool xo, .string xt, .slice xa xL.length xc] 24)).alloc (.cells #[.int .i64 yk, .bool yb, .int .i64 yn, .bool yo, .string yt, .slice ya yL.length yc] 24)) = W := ⟨_, rfl⟩
  have hbW : Below w.heap.size w W := by rw [← hW]; exact ((Below.refl _ _).alloc (Nat.le_refl _) _).alloc (by simp) _
  have hx : IsCells W w.heap.size #[.int .i64 xk, .bool xb, .int .i64 xn, .bool xo, .string xt, .slice xa xL.length xc] := by rw [← hW]; exact (isCells_new w _ 24).alloc _
  have hy : IsCells W (w.heap.size + 1) #[.int .i64 yk, .bool yb, .int .i64 yn, .bool yo, .string yt, .slice ya yL.length yc] := by
    have := isCells_new (w.alloc (.cells #[.int .i64 xk, .bool xb, .int .i64 xn, .bool xo, .string xt, .slice xa xL.length xc] 24)) #[.int .i64 yk, .bool yb, .int .i64 yn, .bool yo, .string yt, .slice ya yL.length yc] 24
    rw [hW] at this
    simpa using this
  have HW : Hid (((w.alloc (.cells #[.int .i64 xk, .bool xb, .int .i64 xn, .bool xo, .string xt, .slice xa xL.length xc] 24)).alloc (.cells #[.int .i64 yk, .bool yb, .int .i64 yn, .bool yo, .string yt, .slice ya yL.length yc] 24)) = W ∧ Below w.heap.size w W ∧ IsCells W w.heap.size #[.int .i64 xk, .bool xb, .int .i64 xn, .bool xo, .string xt, .slice xa xL.length xc] ∧ IsCells W (w.heap.size + 1) #[.int .i64 yk, .bool yb, .int .i64 yn, .bool yo, .string yt, .slice ya yL.length yc]) := ⟨hW, hbW, hx, hy⟩
  have hs := sign_any W op
  have HH : Hid (VOk w ⟨xk, xb, xn, xo, xt, xL⟩ xa ∧ VOk w ⟨yk, yb, yn, yo, yt, yL⟩ ya ∧ Gl w) := ⟨hxv, hyv, G⟩
  have hc1 := can_any W xk xn xb xo xt (c := xc) (hxv.bel hbW).at_ hxv.len
  have HC2 : Hid (∀ u, Below w.heap.size w u → Calls Tryz.prog 34 #[.agg #[.int .i64 yk, .bool yb, .int .i64 yn, .bool yo, .string yt, .slice ya yL.length yc]] u fun e w' => e = .returned (.bool (canV yk (Tx yt) (yL.map Tx))) ∧ Below u.heap.size u w') := fun u hu => can_any u yk yn yb yo yt (c := yc) (hyv.bel hu).at_ hyv.len
  obtain ⟨x0, x1, x2, x3, x4, x5, y0, y1, y2, y3, y4, y5⟩ := two_cells hx hy
  have HR : Hid (cmpR op ⟨xk, xb, xn, xo, xt, xL⟩ ⟨yk, yb, yn, yo, yt, yL⟩ = (R, E)) := hR
  clear hW hbW hx hy hxv hyv G hR
  unfold cmpR Vl.can at HR
  cases h0 : isOpB op with
  | false =>
    rw [h0] at hs
    obtain ⟨rfl, rfl⟩ : false = R ∧ 1 = E := by
      have := HR.out
      rw [h0, if_pos rfl] at this
      exact Prod.mk.inj this
    clear HC2 hc1
    go_enter Tryz.func12, Tryz.ntmps12
    go_wp2_with fail
    rw [HW.out.1]
    with_reducible refine hs.mono ?_
    rintro e W ⟨rfl, rfl⟩
    go_wp2
    go_ret2
    exact ⟨rfl, HW.out.2.1⟩
  | true =>
    rw [h0] at hs
    have HO : Hid (IsOp op) := isOpB_iff.1 h0
    cases h1 : canV xk (Tx xt) (xL.map Tx) with
    | false =>
      rw [h1] at hc1
      obtain ⟨rfl, rfl⟩ : false = R ∧ 141 = E := by
        have := HR.out
        simp only [h0, h1, Bool.false_and, if_true] at this
        exact Prod.mk.inj (by simpa using this)
      clear HC2 h0 h1 HR
      go_enter Tryz.func12, Tryz.ntmps12
      go_wp2_with fail
      rw [HW.out.1]
      with_reducible refine hs.mono ?_
      rintro e W ⟨rfl, rfl⟩
      go_wp2_with fail
      with_reducible refine hc1.mono ?_
      rintro e w1 ⟨rfl, hb⟩
      have HB : Hid (Below w.heap.size w w1) := HW.out.2.1.trans (hb.mono HW.out.2.1.size)
      clear hb x0 x1 x2 x3 x4 x5 y0 y1 y2 y3 y4 y5
      go_wp2
      go_ret2
      exact ⟨rfl, HB.out⟩
    | true =>
      rw [h1] at hc1
      cases h2 : canV yk (Tx yt) (yL.map Tx) with
      | false =>
        rw [h2] at HC2
        obtain ⟨rfl, rfl⟩ : false = R ∧ 141 = E := by
          have := HR.out
          simp only [h0, h1, h2, Bool.and_false, if_true] at this
          exact Prod.mk.inj (by simpa using this)
        clear h0 h1 h2 HR
        go_enter Tryz.func12, Tryz.ntmps12
        go_wp2_with fail
        rw [HW.out.1]
        with_reducible refine hs.mono ?_
        rintro e W ⟨rfl, rfl⟩
        go_wp2_with fail
        with_reducible refine hc1.mono ?_
        rintro e w1 ⟨rfl, hb⟩
        have HB : Hid (Below w.heap.size w w1 ∧ IsCells w1 w.heap.size #[.int .i64 xk, .bool xb, .int .i64 xn, .bool xo, .string xt, .slice xa xL.length xc] ∧ IsCells w1 (w.heap.size + 1) #[.int .i64 yk, .bool yb, .int .i64 yn, .bool yo, .string yt, .slice ya yL.length yc]) := ⟨HW.out.2.1.trans (hb.mono HW.out.2.1.size), HW.out.2.2.1.of_block (hb.block _ HW.out.2.2.1.lt), HW.out.2.2.2.of_block (hb.block _ HW.out.2.2.2.lt)⟩
        clear hb x0 x1 x2 x3 x4 x5 y0 y1 y2 y3 y4 y5
        obtain ⟨x0, x1, x2, x3, x4, x5, y0, y1, y2, y3, y4, y5⟩ := two_cells HB.out.2.1 HB.out.2.2
        have hc2 := HC2.out w1 HB.out.1
        go_wp2_with fail
        with_reducible refine hc2.mono ?_
        rintro e w2 ⟨rfl, hb⟩
        have HB2 : Hid (Below w.heap.size w w2) := HB.out.1.trans (hb.mono HB.out.1.size)
        clear hb x0 x1 x2 x3 x4 x5 y0 y1 y2 y3 y4 y5
        go_wp2
        go_ret2
        exact ⟨rfl, HB2.out⟩
      | true =>
        rw [h2] at HC2
        have HE : Hid (cmpV op ⟨xk, xb, xn, xo, xt, xL⟩ ⟨yk, yb, yn, yo, yt, yL⟩ = R ∧ xk = xk) := by
          refine ⟨?_, rfl⟩
          have := HR.out
          simp only [h0, h1, h2, Bool.and_self] at this
          exact (Prod.mk.inj (by simpa using this)).1
        obtain rfl : 0 = E := by
          have := HR.out
          simp only [h0, h1, h2, Bool.and_self] at this
          exact (Prod.mk.inj (by simpa using this)).2
        have HD : Hid (∀ u, Below w.heap.size w u → Calls Tryz.prog 39 #[.string op, .agg #[.int .i64 xk, .bool xb, .int .i64 xn, .bool xo, .string xt, .slice xa xL.length xc], .agg #[.int .i64 yk, .bool yb, .int .i64 yn, .bool yo, .string yt, .slice ya yL.length yc]] u fun e w' => e = .returned (.bool R) ∧ Below u.heap.size u w') := fun u hu => by
          have := held_any u op HO.out (xc := xc) (yc := yc) (HH.out.1.bel hu) (HH.out.2.1.bel hu) (HH.out.2.2.bel hu) (can_len h1) (can_len h2)
          rw [HE.out.1] at this
          exact this
        clear h0 h1 h2 HR HE
        go_enter Tryz.func12, Tryz.ntmps12
        go_wp2_with fail
        rw [HW.out.1]
        with_reducible refine hs.mono ?_
        rintro e W ⟨rfl, rfl⟩
        go_wp2_with fail
        with_reducible refine hc1.mono ?_
        rintro e w1 ⟨rfl, hb⟩
        have HB : Hid (Below w.heap.size w w1 ∧ IsCells w1 w.heap.size #[.int .i64 xk, .bool xb, .int .i64 xn, .bool xo, .string xt, .slice xa xL.length xc] ∧ IsCells w1 (w.heap.size + 1) #[.int .i64 yk, .bool yb, .int .i64 yn, .bool yo, .string yt, .slice ya yL.length yc]) := ⟨HW.out.2.1.trans (hb.mono HW.out.2.1.size), HW.out.2.2.1.of_block (hb.block _ HW.out.2.2.1.lt), HW.out.2.2.2.of_block (hb.block _ HW.out.2.2.2.lt)⟩
        clear hb x0 x1 x2 x3 x4 x5 y0 y1 y2 y3 y4 y5
        obtain ⟨x0, x1, x2, x3, x4, x5, y0, y1, y2, y3, y4, y5⟩ := two_cells HB.out.2.1 HB.out.2.2
        have hc2 := HC2.out w1 HB.out.1
        go_wp2_with fail
        with_reducible refine hc2.mono ?_
        rintro e w2 ⟨rfl, hb⟩
        have HB2 : Hid (Below w.heap.size w w2 ∧ IsCells w2 w.heap.size #[.int .i64 xk, .bool xb, .int .i64 xn, .bool xo, .string xt, .slice xa xL.length xc] ∧ IsCells w2 (w.heap.size + 1) #[.int .i64 yk, .bool yb, .int .i64 yn, .bool yo, .string yt, .slice ya yL.length yc]) := ⟨HB.out.1.trans (hb.mono HB.out.1.size), HB.out.2.1.of_block (hb.block _ HB.out.2.1.lt), HB.out.2.2.of_block (hb.block _ HB.out.2.2.lt)⟩
        clear hb x0 x1 x2 x3 x4 x5 y0 y1 y2 y3 y4 y5
        obtain ⟨x0, x1, x2, x3, x4, x5, y0, y1, y2, y3, y4, y5⟩ := two_cells HB2.out.2.1 HB2.out.2.2
        have hd := HD.out w2 HB2.out.1
        go_wp2_with fail
        with_reducible refine hd.mono ?_
        rintro e w3 ⟨rfl, hb⟩
        have HB3 : Hid (Below w.heap.size w w3) := HB2.out.1.trans (hb.mono HB2.out.1.size)
        clear hb x0 x1 x2 x3 x4 x5 y0 y1 y2 y3 y4 y5
        go_wp2
        go_ret2
        exact ⟨rfl, HB3.out⟩

end Go.Proofs.YtoabgmpcdnikeaaGreatDoor
