/- Two values held against each other: the program's held. Printed by tools/gen14_held.py. -/
import Derived.Test.YtoabgmpcdnikeaaGreatDoorVm
import Derived.Deep.RegionHeld3
import Derived.Deep.RegionWith
namespace Go.Proofs.YtoabgmpcdnikeaaGreatDoor
open Go.RowKit Go.Maps
set_option linter.unusedVariables false

theorem enters69 : ∀ args w, (callFunc 69 args).run Tryz.prog w = .ok (.enter 69 args) w := enters_of Tryz.func69 (by kernel_rfl) rfl
theorem held1_any (W : World) (A B : Nat) (K x y : Int) (hx : W.cell? ⟨A, 0, none⟩ = some (.int .i64 x)) (hy : W.cell? ⟨B, 0, none⟩ = some (.int .i64 y)) (z : Bool) (hz : (decide (x = K) || decide (y = K)) = z) : Calls Tryz.prog 69 #[.int .i64 K, .pointer (some ⟨A, 0, none⟩), .pointer (some ⟨B, 0, none⟩)] W fun e w' => e = .returned (.bool z) ∧ w' = W := by
  by_cases h1 : x = K
  · have q1 : (x == K) = true := by simpa using h1
    have hz2 : z = true := by rw [← hz]; simp [h1]
    subst hz2
    clear h1 hz
    go_enter Tryz.func69, Tryz.ntmps69
    go_wp2
    go_ret
    exact ⟨rfl, rfl⟩
  · have q1 : (x == K) = false := by simpa using h1
    have HZ : Hid ((y == K) = z) := by show _ = _; rw [← hz]; simp [h1]; by_cases h : y = K <;> simp [h]
    clear h1 hz
    go_enter Tryz.func69, Tryz.ntmps69
    go_wp2
    go_ret
    exact ⟨congrArg _ (v_bool HZ.out), rfl⟩
theorem ends_len (A : List Nm) : (ends A).length ≤ 2 := by
  unfold ends
  suffices h : ∀ (l : List Nm) (e : List Nm), e.length ≤ 2 → (l.foldl endS e).length ≤ 2 from h A [] (by simp)
  intro l
  induction l with
  | nil => exact fun e h => h
  | cons x r ih =>
    intro e h
    refine ih _ ?_
    unfold endS
    split
    · exact h
    · split <;> simp

theorem two_cells {X : World} {P Q : Nat} {x0 x1 x2 x3 x4 x5 y0 y1 y2 y3 y4 y5 : Value} (hx : IsCells X P #[x0, x1, x2, x3, x4, x5]) (hy : IsCells X Q #[y0, y1, y2, y3, y4, y5]) : X.cell? ⟨P, 0, none⟩ = some x0 ∧ X.cell? ⟨P, 1, none⟩ = some x1 ∧ X.cell? ⟨P, 2, none⟩ = some x2 ∧ X.cell? ⟨P, 3, none⟩ = some x3 ∧ X.cell? ⟨P, 4, none⟩ = some x4 ∧ X.cell? ⟨P, 5, none⟩ = some x5 ∧ X.cell? ⟨Q, 0, none⟩ = some y0 ∧ X.cell? ⟨Q, 1, none⟩ = some y1 ∧ X.cell? ⟨Q, 2, none⟩ = some y2 ∧ X.cell? ⟨Q, 3, none⟩ = some y3 ∧ X.cell? ⟨Q, 4, none⟩ = some y4 ∧ X.cell? ⟨Q, 5, none⟩ = some y5 :=
  ⟨hx.cell 0, hx.cell 1, hx.cell 2, hx.cell 3, hx.cell 4, hx.cell 5, hy.cell 0, hy.cell 1, hy.cell 2, hy.cell 3, hy.cell 4, hy.cell 5⟩

theorem VOk.texts_len {w : World} {v : Vl} {a : Option Addr} (h : VOk w v a) : v.texts.length ≤ 4611686018427387904 := by
  unfold Vl.texts
  split
  · exact h.len
  · simp
theorem VOk.texts_small {w : World} {v : Vl} {a : Option Addr} (h : VOk w v a) : ∀ s ∈ v.texts, s.size ≤ maxLen := by
  intro s hs
  unfold Vl.texts at hs
  unfold maxLen
  split at hs
  · have := h.ls s hs
    omega
  · simp at hs
    subst hs
    have := h.ts
    omega

set_option maxRecDepth 100000 in
set_option maxHeartbeats 4000000 in
theorem held_texts (w : World) (op : ByteArray) (ho : IsOp op) {xk xn yk yn : Int} {xb xo yb yo : Bool} {xt yt : ByteArray} {xa ya : Option Addr} {xc yc : Nat} {xL yL : List ByteArray} (hxv : VOk w ⟨xk, xb, xn, xo, xt, xL⟩ xa) (hyv : VOk w ⟨yk, yb, yn, yo, yt, yL⟩ ya) (G : Gl w) (hno : ordB op = false) (h1 : (decide (xk = 1) || decide (yk = 1)) = false) (h4 : (decide (xk = 4) || decide (yk = 4)) = (decide (xk = 4) || decide (yk = 4))) (h2 : (decide (xk = 2) || decide (yk = 2)) = false) (R : Bool) (hR : anyT op (Vl.texts ⟨xk, xb, xn, xo, xt, xL⟩) (Vl.texts ⟨yk, yb, yn, yo, yt, yL⟩) = R) :
    Calls Tryz.prog 39 #[.string op, .agg #[.int .i64 xk, .bool xb, .int .i64 xn, .bool xo, .string xt, .slice xa xL.length xc], .agg #[.int .i64 yk, .bool yb, .int .i64 yn, .bool yo, .string yt, .slice ya yL.length yc]] w fun e w' => e = .returned (.bool R) ∧ Below w.heap.size w w' := by
  obtain ⟨W, hW⟩ : ∃ W, ((w.alloc (.cells #[.int .i64 xk, .bool xb, .int .i64 xn, .bool xo, .string xt, .slice xa xL.length xc] 24)).alloc (.cells #[.int .i64 yk, .bool yb, .int .i64 yn, .bool yo, .string yt, .slice ya yL.length yc] 24)) = W := ⟨_, rfl⟩
  have hbW : Below w.heap.size w W := by rw [← hW]; exact ((Below.refl _ _).alloc (Nat.le_refl _) _).alloc (by simp) _
  have hx : IsCells W w.heap.size #[.int .i64 xk, .bool xb, .int .i64 xn, .bool xo, .string xt, .slice xa xL.length xc] := by rw [← hW]; exact (isCells_new w _ 24).alloc _
  have hy : IsCells W (w.heap.size + 1) #[.int .i64 yk, .bool yb, .int .i64 yn, .bool yo, .string yt, .slice ya yL.length yc] := by
    have := isCells_new (w.alloc (.cells #[.int .i64 xk, .bool xb, .int .i64 xn, .bool xo, .string xt, .slice xa xL.length xc] 24)) #[.int .i64 yk, .bool yb, .int .i64 yn, .bool yo, .string yt, .slice ya yL.length yc] 24
    rw [hW] at this
    simpa using this
  have HW : Hid (((w.alloc (.cells #[.int .i64 xk, .bool xb, .int .i64 xn, .bool xo, .string xt, .slice xa xL.length xc] 24)).alloc (.cells #[.int .i64 yk, .bool yb, .int .i64 yn, .bool yo, .string yt, .slice ya yL.length yc] 24)) = W ∧ Below w.heap.size w W ∧ IsCells W w.heap.size #[.int .i64 xk, .bool xb, .int .i64 xn, .bool xo, .string xt, .slice xa xL.length xc] ∧ IsCells W (w.heap.size + 1) #[.int .i64 yk, .bool yb, .int .i64 yn, .bool yo, .string yt, .slice ya yL.length yc]) := ⟨hW, hbW, hx, hy⟩
  have hor := orders_any W op ho
  have eg := enters69
  have hc1 := held1_any W w.heap.size (w.heap.size + 1) 1 xk yk (hx.cell 0) (hy.cell 0) false h1
  have hc2 := held1_any W w.heap.size (w.heap.size + 1) 2 xk yk (hx.cell 0) (hy.cell 0) false h2
  have HA : Hid (∀ u, Below W.heap.size W u → Calls Tryz.prog 76 #[.agg #[.int .i64 xk, .bool xb, .int .i64 xn, .bool xo, .string xt, .slice xa xL.length xc]] u (SP u (Vl.texts ⟨xk, xb, xn, xo, xt, xL⟩))) := fun u hu => texts_any u (hxv.bel (hbW.trans (hu.mono hbW.size)))
  have HC : Hid (∀ u, Below W.heap.size W u → Calls Tryz.prog 76 #[.agg #[.int .i64 yk, .bool yb, .int .i64 yn, .bool yo, .string yt, .slice ya yL.length yc]] u (SP u (Vl.texts ⟨yk, yb, yn, yo, yt, yL⟩))) := fun u hu => texts_any u (hyv.bel (hbW.trans (hu.mono hbW.size)))
  have la : (Vl.texts ⟨xk, xb, xn, xo, xt, xL⟩).length ≤ 4611686018427387904 := hxv.texts_len
  have lb : (Vl.texts ⟨yk, yb, yn, yo, yt, yL⟩).length ≤ 4611686018427387904 := hyv.texts_len
  have HS : Hid ((∀ s ∈ Vl.texts ⟨xk, xb, xn, xo, xt, xL⟩, s.size ≤ maxLen) ∧ (∀ s ∈ Vl.texts ⟨yk, yb, yn, yo, yt, yL⟩, s.size ≤ maxLen) ∧ IsOp op ∧ ordB op = false ∧ anyT op (Vl.texts ⟨xk, xb, xn, xo, xt, xL⟩) (Vl.texts ⟨yk, yb, yn, yo, yt, yL⟩) = R) := ⟨hxv.texts_small, hyv.texts_small, ho, hno, hR⟩
  clear hR ho
  generalize Vl.texts ⟨xk, xb, xn, xo, xt, xL⟩ = NA at *
  generalize Vl.texts ⟨yk, yb, yn, yo, yt, yL⟩ = NB at *
  rw [hno] at hor
  clear hW hbW hx hy h1 h4 h2 hxv hyv G hno
  go_enter Tryz.func39, Tryz.ntmps39
  go_wp2_with fail
  rw [HW.out.1]
  with_reducible refine hc1.mono ?_
  rintro e W ⟨rfl, rfl⟩
  go_wp2_with fail
  with_reducible refine hor.mono ?_
  rintro e W ⟨rfl, rfl⟩
  go_wp2_with fail
  with_reducible refine hc2.mono ?_
  rintro e W ⟨rfl, rfl⟩
  go_wp2_with fail
  have HB : Hid (Below W.heap.size W W.drew) := (Below.refl _ _).drew
  have hK := two_cells (X := W.drew) (HW.out.2.2.1.of_block rfl) (HW.out.2.2.2.of_block rfl)
  go_region_held3 (fun X => X.cell? ⟨w.heap.size, 0, none⟩ = some (.int .i64 xk) ∧ X.cell? ⟨w.heap.size, 1, none⟩ = some (.bool xb) ∧ X.cell? ⟨w.heap.size, 2, none⟩ = some (.int .i64 xn) ∧ X.cell? ⟨w.heap.size, 3, none⟩ = some (.bool xo) ∧ X.cell? ⟨w.heap.size, 4, none⟩ = some (.string xt) ∧ X.cell? ⟨w.heap.size, 5, none⟩ = some (.slice xa xL.length xc) ∧ X.cell? ⟨w.heap.size + 1, 0, none⟩ = some (.int .i64 yk) ∧ X.cell? ⟨w.heap.size + 1, 1, none⟩ = some (.bool yb) ∧ X.cell? ⟨w.heap.size + 1, 2, none⟩ = some (.int .i64 yn) ∧ X.cell? ⟨w.heap.size + 1, 3, none⟩ = some (.bool yo) ∧ X.cell? ⟨w.heap.size + 1, 4, none⟩ = some (.string yt) ∧ X.cell? ⟨w.heap.size + 1, 5, none⟩ = some (.slice ya yL.length yc)) (first | exact hK | go_keep) (first | (go_at_call 76; (with_reducible refine (HA.out _ HB.out).mono ?_); rintro e w' ⟨aa, ac, rfl, hn, hb⟩; have HB : Hid (Below W.heap.size W w') := HB.out.trans (hb.mono HB.out.size); have hK := two_cells (HW.out.2.2.1.of_block (HB.out.block _ HW.out.2.2.1.lt)) (HW.out.2.2.2.of_block (HB.out.block _ HW.out.2.2.2.lt)); have HNa : Hid (SsAt w' aa NA) := hn; clear hn; clear hb) | (go_at_call 76; (with_reducible refine (HC.out _ HB.out).mono ?_); rintro e w' ⟨ba, bc, rfl, hn, hb⟩; have HB : Hid (Below W.heap.size W w') := HB.out.trans (hb.mono HB.out.size); have hK := two_cells (HW.out.2.2.1.of_block (HB.out.block _ HW.out.2.2.1.lt)) (HW.out.2.2.2.of_block (HB.out.block _ HW.out.2.2.2.lt)); have HNb : Hid (SsAt w' ba NB) := hn; have HNa : Hid (SsAt w' aa NA) := HNa.out.bel hb; clear hn; clear hb) | (go_at_call 75; (with_reducible refine (sometexts_any _ op HS.out.2.2.1 HS.out.2.2.2.1 HNa.out HNb.out la lb HS.out.1 HS.out.2.1).mono ?_); rw [HS.out.2.2.2.2]; rintro e w' ⟨rfl, hb⟩; have HB : Hid (Below W.heap.size W w') := HB.out.trans (hb.mono HB.out.size); have hK := two_cells (HW.out.2.2.1.of_block (HB.out.block _ HW.out.2.2.1.lt)) (HW.out.2.2.2.of_block (HB.out.block _ HW.out.2.2.2.lt)); clear hb))
  all_goals go_wp2
  all_goals go_ret
  all_goals exact ⟨rfl, HW.out.2.1.trans (HB.out.mono HW.out.2.1.size)⟩
theorem nums_len {k n : Int} {b o : Bool} {t : ByteArray} {L : List ByteArray} (h : k = 4 → L.length ≤ 4194304) : (Vl.nums ⟨k, b, n, o, t, L⟩).length ≤ 4194304 := by
  unfold Vl.nums
  split
  · rename_i h4
    simpa using h h4
  · simp
set_option maxRecDepth 100000 in
set_option maxHeartbeats 4000000 in
theorem held_nums (w : World) (op : ByteArray) (ho : IsOp op) {xk xn yk yn : Int} {xb xo yb yo : Bool} {xt yt : ByteArray} {xa ya : Option Addr} {xc yc : Nat} {xL yL : List ByteArray} (hxv : VOk w ⟨xk, xb, xn, xo, xt, xL⟩ xa) (hyv : VOk w ⟨yk, yb, yn, yo, yt, yL⟩ ya) (G : Gl w) (lx : xk = 4 → xL.length ≤ 4194304) (ly : yk = 4 → yL.length ≤ 4194304) (hno : ordB op = false) (h1 : (decide (xk = 1) || decide (yk = 1)) = false) (h4 : (decide (xk = 4) || decide (yk = 4)) = (decide (xk = 4) || decide (yk = 4))) (h2 : (decide (xk = 2) || decide (yk = 2)) = true) (R : Bool) (hR : anyN op (Vl.nums ⟨xk, xb, xn, xo, xt, xL⟩) (Vl.nums ⟨yk, yb, yn, yo, yt, yL⟩) = R) :
    Calls Tryz.prog 39 #[.string op, .agg #[.int .i64 xk, .bool xb, .int .i64 xn, .bool xo, .string xt, .slice xa xL.length xc], .agg #[.int .i64 yk, .bool yb, .int .i64 yn, .bool yo, .string yt, .slice ya yL.length yc]] w fun e w' => e = .returned (.bool R) ∧ Below w.heap.size w w' := by
  obtain ⟨W, hW⟩ : ∃ W, ((w.alloc (.cells #[.int .i64 xk, .bool xb, .int .i64 xn, .bool xo, .string xt, .slice xa xL.length xc] 24)).alloc (.cells #[.int .i64 yk, .bool yb, .int .i64 yn, .bool yo, .string yt, .slice ya yL.length yc] 24)) = W := ⟨_, rfl⟩
  have hbW : Below w.heap.size w W := by rw [← hW]; exact ((Below.refl _ _).alloc (Nat.le_refl _) _).alloc (by simp) _
  have hx : IsCells W w.heap.size #[.int .i64 xk, .bool xb, .int .i64 xn, .bool xo, .string xt, .slice xa xL.length xc] := by rw [← hW]; exact (isCells_new w _ 24).alloc _
  have hy : IsCells W (w.heap.size + 1) #[.int .i64 yk, .bool yb, .int .i64 yn, .bool yo, .string yt, .slice ya yL.length yc] := by
    have := isCells_new (w.alloc (.cells #[.int .i64 xk, .bool xb, .int .i64 xn, .bool xo, .string xt, .slice xa xL.length xc] 24)) #[.int .i64 yk, .bool yb, .int .i64 yn, .bool yo, .string yt, .slice ya yL.length yc] 24
    rw [hW] at this
    simpa using this
  have HW : Hid (((w.alloc (.cells #[.int .i64 xk, .bool xb, .int .i64 xn, .bool xo, .string xt, .slice xa xL.length xc] 24)).alloc (.cells #[.int .i64 yk, .bool yb, .int .i64 yn, .bool yo, .string yt, .slice ya yL.length yc] 24)) = W ∧ Below w.heap.size w W ∧ IsCells W w.heap.size #[.int .i64 xk, .bool xb, .int .i64 xn, .bool xo, .string xt, .slice xa xL.length xc] ∧ IsCells W (w.heap.size + 1) #[.int .i64 yk, .bool yb, .int .i64 yn, .bool yo, .string yt, .slice ya yL.length yc]) := ⟨hW, hbW, hx, hy⟩
  have hor := orders_any W op ho
  have eg := enters69
  have hc1 := held1_any W w.heap.size (w.heap.size + 1) 1 xk yk (hx.cell 0) (hy.cell 0) false h1
  have hc2 := held1_any W w.heap.size (w.heap.size + 1) 2 xk yk (hx.cell 0) (hy.cell 0) true h2
  have HA : Hid (∀ u, Below W.heap.size W u → Calls Tryz.prog 74 #[.agg #[.int .i64 xk, .bool xb, .int .i64 xn, .bool xo, .string xt, .slice xa xL.length xc]] u (NP u (Vl.nums ⟨xk, xb, xn, xo, xt, xL⟩))) := fun u hu => numbers_any u (G.bel (hbW.trans (hu.mono hbW.size))) (hxv.bel (hbW.trans (hu.mono hbW.size))) lx
  have HC : Hid (∀ u, Below W.heap.size W u → Calls Tryz.prog 74 #[.agg #[.int .i64 yk, .bool yb, .int .i64 yn, .bool yo, .string yt, .slice ya yL.length yc]] u (NP u (Vl.nums ⟨yk, yb, yn, yo, yt, yL⟩))) := fun u hu => numbers_any u (G.bel (hbW.trans (hu.mono hbW.size))) (hyv.bel (hbW.trans (hu.mono hbW.size))) ly
  have la : (Vl.nums ⟨xk, xb, xn, xo, xt, xL⟩).length ≤ 4194304 := nums_len lx
  have lb : (Vl.nums ⟨yk, yb, yn, yo, yt, yL⟩).length ≤ 4194304 := nums_len ly
  have HS : Hid (IsOp op ∧ anyN op (Vl.nums ⟨xk, xb, xn, xo, xt, xL⟩) (Vl.nums ⟨yk, yb, yn, yo, yt, yL⟩) = R) := ⟨ho, hR⟩
  clear hR ho
  generalize Vl.nums ⟨xk, xb, xn, xo, xt, xL⟩ = NA at *
  generalize Vl.nums ⟨yk, yb, yn, yo, yt, yL⟩ = NB at *
  rw [hno] at hor
  clear hW hbW hx hy h1 h4 h2 hxv hyv G hno lx ly
  go_enter Tryz.func39, Tryz.ntmps39
  go_wp2_with fail
  rw [HW.out.1]
  with_reducible refine hc1.mono ?_
  rintro e W ⟨rfl, rfl⟩
  go_wp2_with fail
  with_reducible refine hor.mono ?_
  rintro e W ⟨rfl, rfl⟩
  go_wp2_with fail
  with_reducible refine hc2.mono ?_
  rintro e W ⟨rfl, rfl⟩
  go_wp2_with fail
  have HB : Hid (Below W.heap.size W W.drew) := (Below.refl _ _).drew
  have hK := two_cells (X := W.drew) (HW.out.2.2.1.of_block rfl) (HW.out.2.2.2.of_block rfl)
  go_region_held3 (fun X => X.cell? ⟨w.heap.size, 0, none⟩ = some (.int .i64 xk) ∧ X.cell? ⟨w.heap.size, 1, none⟩ = some (.bool xb) ∧ X.cell? ⟨w.heap.size, 2, none⟩ = some (.int .i64 xn) ∧ X.cell? ⟨w.heap.size, 3, none⟩ = some (.bool xo) ∧ X.cell? ⟨w.heap.size, 4, none⟩ = some (.string xt) ∧ X.cell? ⟨w.heap.size, 5, none⟩ = some (.slice xa xL.length xc) ∧ X.cell? ⟨w.heap.size + 1, 0, none⟩ = some (.int .i64 yk) ∧ X.cell? ⟨w.heap.size + 1, 1, none⟩ = some (.bool yb) ∧ X.cell? ⟨w.heap.size + 1, 2, none⟩ = some (.int .i64 yn) ∧ X.cell? ⟨w.heap.size + 1, 3, none⟩ = some (.bool yo) ∧ X.cell? ⟨w.heap.size + 1, 4, none⟩ = some (.string yt) ∧ X.cell? ⟨w.heap.size + 1, 5, none⟩ = some (.slice ya yL.length yc)) (first | exact hK | go_keep) (first | (go_at_call 74; (with_reducible refine (HA.out _ HB.out).mono ?_); rintro e w' ⟨aa, ac, rfl, hn, hb, -⟩; have HB : Hid (Below W.heap.size W w') := HB.out.trans (hb.mono HB.out.size); have hK := two_cells (HW.out.2.2.1.of_block (HB.out.block _ HW.out.2.2.1.lt)) (HW.out.2.2.2.of_block (HB.out.block _ HW.out.2.2.2.lt)); have HNa : Hid (NsAt w' aa NA) := hn; clear hn; clear hb) | (go_at_call 74; (with_reducible refine (HC.out _ HB.out).mono ?_); rintro e w' ⟨ba, bc, rfl, hn, hb, -⟩; have HB : Hid (Below W.heap.size W w') := HB.out.trans (hb.mono HB.out.size); have hK := two_cells (HW.out.2.2.1.of_block (HB.out.block _ HW.out.2.2.1.lt)) (HW.out.2.2.2.of_block (HB.out.block _ HW.out.2.2.2.lt)); have HNb : Hid (NsAt w' ba NB) := hn; have HNa : Hid (NsAt w' aa NA) := HNa.out.bel hb; clear hn; clear hb) | (go_at_call 72; (with_reducible refine (some_any _ op HS.out.1 HNa.out HNb.out (by omega) (by omega) R HS.out.2).mono ?_); rintro e w' ⟨rfl, hb⟩; have HB : Hid (Below W.heap.size W w') := HB.out.trans (hb.mono HB.out.size); have hK := two_cells (HW.out.2.2.1.of_block (HB.out.block _ HW.out.2.2.1.lt)) (HW.out.2.2.2.of_block (HB.out.block _ HW.out.2.2.2.lt)); clear hb))
  all_goals go_wp2
  all_goals go_ret
  all_goals exact ⟨rfl, HW.out.2.1.trans (HB.out.mono HW.out.2.1.size)⟩
set_option maxRecDepth 100000 in
set_option maxHeartbeats 4000000 in
theorem held_ord1 (w : World) (op : ByteArray) (ho : IsOp op) {xk xn yk yn : Int} {xb xo yb yo : Bool} {xt yt : ByteArray} {xa ya : Option Addr} {xc yc : Nat} {xL yL : List ByteArray} (hxv : VOk w ⟨xk, xb, xn, xo, xt, xL⟩ xa) (hyv : VOk w ⟨yk, yb, yn, yo, yt, yL⟩ ya) (G : Gl w) (lx : xk = 4 → xL.length ≤ 4194304) (ly : yk = 4 → yL.length ≤ 4194304) (hno : ordB op = true) (h1 : (decide (xk = 1) || decide (yk = 1)) = false) (h4 : (decide (xk = 4) || decide (yk = 4)) = (decide (xk = 4) || decide (yk = 4))) (h2 : (decide (xk = 2) || decide (yk = 2)) = (decide (xk = 2) || decide (yk = 2))) (R : Bool) (hR : anyN op (ends (Vl.nums ⟨xk, xb, xn, xo, xt, xL⟩)) (ends (Vl.nums ⟨yk, yb, yn, yo, yt, yL⟩)) = R) :
    Calls Tryz.prog 39 #[.string op, .agg #[.int .i64 xk, .bool xb, .int .i64 xn, .bool xo, .string xt, .slice xa xL.length xc], .agg #[.int .i64 yk, .bool yb, .int .i64 yn, .bool yo, .string yt, .slice ya yL.length yc]] w fun e w' => e = .returned (.bool R) ∧ Below w.heap.size w w' := by
  obtain ⟨W, hW⟩ : ∃ W, ((w.alloc (.cells #[.int .i64 xk, .bool xb, .int .i64 xn, .bool xo, .string xt, .slice xa xL.length xc] 24)).alloc (.cells #[.int .i64 yk, .bool yb, .int .i64 yn, .bool yo, .string yt, .slice ya yL.length yc] 24)) = W := ⟨_, rfl⟩
  have hbW : Below w.heap.size w W := by rw [← hW]; exact ((Below.refl _ _).alloc (Nat.le_refl _) _).alloc (by simp) _
  have hx : IsCells W w.heap.size #[.int .i64 xk, .bool xb, .int .i64 xn, .bool xo, .string xt, .slice xa xL.length xc] := by rw [← hW]; exact (isCells_new w _ 24).alloc _
  have hy : IsCells W (w.heap.size + 1) #[.int .i64 yk, .bool yb, .int .i64 yn, .bool yo, .string yt, .slice ya yL.length yc] := by
    have := isCells_new (w.alloc (.cells #[.int .i64 xk, .bool xb, .int .i64 xn, .bool xo, .string xt, .slice xa xL.length xc] 24)) #[.int .i64 yk, .bool yb, .int .i64 yn, .bool yo, .string yt, .slice ya yL.length yc] 24
    rw [hW] at this
    simpa using this
  have HW : Hid (((w.alloc (.cells #[.int .i64 xk, .bool xb, .int .i64 xn, .bool xo, .string xt, .slice xa xL.length xc] 24)).alloc (.cells #[.int .i64 yk, .bool yb, .int .i64 yn, .bool yo, .string yt, .slice ya yL.length yc] 24)) = W ∧ Below w.heap.size w W ∧ IsCells W w.heap.size #[.int .i64 xk, .bool xb, .int .i64 xn, .bool xo, .string xt, .slice xa xL.length xc] ∧ IsCells W (w.heap.size + 1) #[.int .i64 yk, .bool yb, .int .i64 yn, .bool yo, .string yt, .slice ya yL.length yc]) := ⟨hW, hbW, hx, hy⟩
  have hor := orders_any W op ho
  have eg := enters69
  have hc1 := held1_any W w.heap.size (w.heap.size + 1) 1 xk yk (hx.cell 0) (hy.cell 0) false h1
  have HA : Hid (∀ u, Below W.heap.size W u → Calls Tryz.prog 74 #[.agg #[.int .i64 xk, .bool xb, .int .i64 xn, .bool xo, .string xt, .slice xa xL.length xc]] u (NP u (Vl.nums ⟨xk, xb, xn, xo, xt, xL⟩))) := fun u hu => numbers_any u (G.bel (hbW.trans (hu.mono hbW.size))) (hxv.bel (hbW.trans (hu.mono hbW.size))) lx
  have HC : Hid (∀ u, Below W.heap.size W u → Calls Tryz.prog 74 #[.agg #[.int .i64 yk, .bool yb, .int .i64 yn, .bool yo, .string yt, .slice ya yL.length yc]] u (NP u (Vl.nums ⟨yk, yb, yn, yo, yt, yL⟩))) := fun u hu => numbers_any u (G.bel (hbW.trans (hu.mono hbW.size))) (hyv.bel (hbW.trans (hu.mono hbW.size))) ly
  have la : (Vl.nums ⟨xk, xb, xn, xo, xt, xL⟩).length ≤ 4194304 := nums_len lx
  have lb : (Vl.nums ⟨yk, yb, yn, yo, yt, yL⟩).length ≤ 4194304 := nums_len ly
  have HS : Hid (IsOp op ∧ anyN op (ends (Vl.nums ⟨xk, xb, xn, xo, xt, xL⟩)) (ends (Vl.nums ⟨yk, yb, yn, yo, yt, yL⟩)) = R) := ⟨ho, hR⟩
  clear hR ho
  generalize Vl.nums ⟨xk, xb, xn, xo, xt, xL⟩ = NA at *
  generalize Vl.nums ⟨yk, yb, yn, yo, yt, yL⟩ = NB at *
  have le := ends_len NA
  have lf := ends_len NB
  rw [hno] at hor
  clear hW hbW hx hy h1 h4 h2 hxv hyv G hno lx ly
  go_enter Tryz.func39, Tryz.ntmps39
  go_wp2_with fail
  rw [HW.out.1]
  with_reducible refine hc1.mono ?_
  rintro e W ⟨rfl, rfl⟩
  go_wp2_with fail
  with_reducible refine hor.mono ?_
  rintro e W ⟨rfl, rfl⟩
  go_wp2_with fail
  have HB : Hid (Below W.heap.size W W.drew) := (Below.refl _ _).drew
  have hK := two_cells (X := W.drew) (HW.out.2.2.1.of_block rfl) (HW.out.2.2.2.of_block rfl)
  go_region_held3 (fun X => X.cell? ⟨w.heap.size, 0, none⟩ = some (.int .i64 xk) ∧ X.cell? ⟨w.heap.size, 1, none⟩ = some (.bool xb) ∧ X.cell? ⟨w.heap.size, 2, none⟩ = some (.int .i64 xn) ∧ X.cell? ⟨w.heap.size, 3, none⟩ = some (.bool xo) ∧ X.cell? ⟨w.heap.size, 4, none⟩ = some (.string xt) ∧ X.cell? ⟨w.heap.size, 5, none⟩ = some (.slice xa xL.length xc) ∧ X.cell? ⟨w.heap.size + 1, 0, none⟩ = some (.int .i64 yk) ∧ X.cell? ⟨w.heap.size + 1, 1, none⟩ = some (.bool yb) ∧ X.cell? ⟨w.heap.size + 1, 2, none⟩ = some (.int .i64 yn) ∧ X.cell? ⟨w.heap.size + 1, 3, none⟩ = some (.bool yo) ∧ X.cell? ⟨w.heap.size + 1, 4, none⟩ = some (.string yt) ∧ X.cell? ⟨w.heap.size + 1, 5, none⟩ = some (.slice ya yL.length yc)) (first | exact hK | go_keep) (first | (go_at_call 74; (with_reducible refine (HA.out _ HB.out).mono ?_); rintro e w' ⟨aa, ac, rfl, hn, hb, -⟩; have HB : Hid (Below W.heap.size W w') := HB.out.trans (hb.mono HB.out.size); have hK := two_cells (HW.out.2.2.1.of_block (HB.out.block _ HW.out.2.2.1.lt)) (HW.out.2.2.2.of_block (HB.out.block _ HW.out.2.2.2.lt)); have HNa : Hid (NsAt w' aa NA) := hn; clear hn; clear hb) | (go_at_call 74; (with_reducible refine (HC.out _ HB.out).mono ?_); rintro e w' ⟨ba, bc, rfl, hn, hb, -⟩; have HB : Hid (Below W.heap.size W w') := HB.out.trans (hb.mono HB.out.size); have hK := two_cells (HW.out.2.2.1.of_block (HB.out.block _ HW.out.2.2.1.lt)) (HW.out.2.2.2.of_block (HB.out.block _ HW.out.2.2.2.lt)); have HNb : Hid (NsAt w' ba NB) := hn; have HEa : Hid (NsAt w' ea (ends NA)) := HEa.out.bel hb; clear hn; clear hb) | (go_at_call 73; (with_reducible refine (ends_any _ HNa.out (by omega)).mono ?_); rintro e w' ⟨ea, ec, rfl, hn, hb, -⟩; have HB : Hid (Below W.heap.size W w') := HB.out.trans (hb.mono HB.out.size); have hK := two_cells (HW.out.2.2.1.of_block (HB.out.block _ HW.out.2.2.1.lt)) (HW.out.2.2.2.of_block (HB.out.block _ HW.out.2.2.2.lt)); have HEa : Hid (NsAt w' ea (ends NA)) := hn; clear hn HNa; clear hb) | (go_at_call 73; (with_reducible refine (ends_any _ HNb.out (by omega)).mono ?_); rintro e w' ⟨fa, fc, rfl, hn, hb, -⟩; have HB : Hid (Below W.heap.size W w') := HB.out.trans (hb.mono HB.out.size); have hK := two_cells (HW.out.2.2.1.of_block (HB.out.block _ HW.out.2.2.1.lt)) (HW.out.2.2.2.of_block (HB.out.block _ HW.out.2.2.2.lt)); have HEb : Hid (NsAt w' fa (ends NB)) := hn; have HEa : Hid (NsAt w' ea (ends NA)) := HEa.out.bel hb; clear hn; clear hb) | (go_at_call 72; (with_reducible refine (some_any _ op HS.out.1 HEa.out HEb.out (by omega) (by omega) R HS.out.2).mono ?_); rintro e w' ⟨rfl, hb⟩; have HB : Hid (Below W.heap.size W w') := HB.out.trans (hb.mono HB.out.size); have hK := two_cells (HW.out.2.2.1.of_block (HB.out.block _ HW.out.2.2.1.lt)) (HW.out.2.2.2.of_block (HB.out.block _ HW.out.2.2.2.lt)); clear hb))
  all_goals go_wp2
  all_goals go_ret
  all_goals exact ⟨rfl, HW.out.2.1.trans (HB.out.mono HW.out.2.1.size)⟩
set_option maxRecDepth 100000 in
set_option maxHeartbeats 4000000 in
theorem held_ord2 (w : World) (op : ByteArray) (ho : IsOp op) {xk xn yk yn : Int} {xb xo yb yo : Bool} {xt yt : ByteArray} {xa ya : Option Addr} {xc yc : Nat} {xL yL : List ByteArray} (hxv : VOk w ⟨xk, xb, xn, xo, xt, xL⟩ xa) (hyv : VOk w ⟨yk, yb, yn, yo, yt, yL⟩ ya) (G : Gl w) (lx : xk = 4 → xL.length ≤ 4194304) (ly : yk = 4 → yL.length ≤ 4194304) (hno : ordB op = true) (h1 : (decide (xk = 1) || decide (yk = 1)) = true) (h4 : (decide (xk = 4) || decide (yk = 4)) = false) (h2 : (decide (xk = 2) || decide (yk = 2)) = (decide (xk = 2) || decide (yk = 2))) (R : Bool) (hR : anyN op (ends (Vl.nums ⟨xk, xb, xn, xo, xt, xL⟩)) (ends (Vl.nums ⟨yk, yb, yn, yo, yt, yL⟩)) = R) :
    Calls Tryz.prog 39 #[.string op, .agg #[.int .i64 xk, .bool xb, .int .i64 xn, .bool xo, .string xt, .slice xa xL.length xc], .agg #[.int .i64 yk, .bool yb, .int .i64 yn, .bool yo, .string yt, .slice ya yL.length yc]] w fun e w' => e = .returned (.bool R) ∧ Below w.heap.size w w' := by
  obtain ⟨W, hW⟩ : ∃ W, ((w.alloc (.cells #[.int .i64 xk, .bool xb, .int .i64 xn, .bool xo, .string xt, .slice xa xL.length xc] 24)).alloc (.cells #[.int .i64 yk, .bool yb, .int .i64 yn, .bool yo, .string yt, .slice ya yL.length yc] 24)) = W := ⟨_, rfl⟩
  have hbW : Below w.heap.size w W := by rw [← hW]; exact ((Below.refl _ _).alloc (Nat.le_refl _) _).alloc (by simp) _
  have hx : IsCells W w.heap.size #[.int .i64 xk, .bool xb, .int .i64 xn, .bool xo, .string xt, .slice xa xL.length xc] := by rw [← hW]; exact (isCells_new w _ 24).alloc _
  have hy : IsCells W (w.heap.size + 1) #[.int .i64 yk, .bool yb, .int .i64 yn, .bool yo, .string yt, .slice ya yL.length yc] := by
    have := isCells_new (w.alloc (.cells #[.int .i64 xk, .bool xb, .int .i64 xn, .bool xo, .string xt, .slice xa xL.length xc] 24)) #[.int .i64 yk, .bool yb, .int .i64 yn, .bool yo, .string yt, .slice ya yL.length yc] 24
    rw [hW] at this
    simpa using this
  have HW : Hid (((w.alloc (.cells #[.int .i64 xk, .bool xb, .int .i64 xn, .bool xo, .string xt, .slice xa xL.length xc] 24)).alloc (.cells #[.int .i64 yk, .bool yb, .int .i64 yn, .bool yo, .string yt, .slice ya yL.length yc] 24)) = W ∧ Below w.heap.size w W ∧ IsCells W w.heap.size #[.int .i64 xk, .bool xb, .int .i64 xn, .bool xo, .string xt, .slice xa xL.length xc] ∧ IsCells W (w.heap.size + 1) #[.int .i64 yk, .bool yb, .int .i64 yn, .bool yo, .string yt, .slice ya yL.length yc]) := ⟨hW, hbW, hx, hy⟩
  have hor := orders_any W op ho
  have eg := enters69
  have hc1 := held1_any W w.heap.size (w.heap.size + 1) 1 xk yk (hx.cell 0) (hy.cell 0) true h1
  have hc4 := held1_any W w.heap.size (w.heap.size + 1) 4 xk yk (hx.cell 0) (hy.cell 0) false h4
  have HA : Hid (∀ u, Below W.heap.size W u → Calls Tryz.prog 74 #[.agg #[.int .i64 xk, .bool xb, .int .i64 xn, .bool xo, .string xt, .slice xa xL.length xc]] u (NP u (Vl.nums ⟨xk, xb, xn, xo, xt, xL⟩))) := fun u hu => numbers_any u (G.bel (hbW.trans (hu.mono hbW.size))) (hxv.bel (hbW.trans (hu.mono hbW.size))) lx
  have HC : Hid (∀ u, Below W.heap.size W u → Calls Tryz.prog 74 #[.agg #[.int .i64 yk, .bool yb, .int .i64 yn, .bool yo, .string yt, .slice ya yL.length yc]] u (NP u (Vl.nums ⟨yk, yb, yn, yo, yt, yL⟩))) := fun u hu => numbers_any u (G.bel (hbW.trans (hu.mono hbW.size))) (hyv.bel (hbW.trans (hu.mono hbW.size))) ly
  have la : (Vl.nums ⟨xk, xb, xn, xo, xt, xL⟩).length ≤ 4194304 := nums_len lx
  have lb : (Vl.nums ⟨yk, yb, yn, yo, yt, yL⟩).length ≤ 4194304 := nums_len ly
  have HS : Hid (IsOp op ∧ anyN op (ends (Vl.nums ⟨xk, xb, xn, xo, xt, xL⟩)) (ends (Vl.nums ⟨yk, yb, yn, yo, yt, yL⟩)) = R) := ⟨ho, hR⟩
  clear hR ho
  generalize Vl.nums ⟨xk, xb, xn, xo, xt, xL⟩ = NA at *
  generalize Vl.nums ⟨yk, yb, yn, yo, yt, yL⟩ = NB at *
  have le := ends_len NA
  have lf := ends_len NB
  rw [hno] at hor
  clear hW hbW hx hy h1 h4 h2 hxv hyv G hno lx ly
  go_enter Tryz.func39, Tryz.ntmps39
  go_wp2_with fail
  rw [HW.out.1]
  with_reducible refine hc1.mono ?_
  rintro e W ⟨rfl, rfl⟩
  go_wp2_with fail
  with_reducible refine hc4.mono ?_
  rintro e W ⟨rfl, rfl⟩
  go_wp2_with fail
  with_reducible refine hor.mono ?_
  rintro e W ⟨rfl, rfl⟩
  go_wp2_with fail
  with_reducible refine hor.mono ?_
  rintro e W ⟨rfl, rfl⟩
  go_wp2_with fail
  have HB : Hid (Below W.heap.size W W.drew) := (Below.refl _ _).drew
  have hK := two_cells (X := W.drew) (HW.out.2.2.1.of_block rfl) (HW.out.2.2.2.of_block rfl)
  go_region_held3 (fun X => X.cell? ⟨w.heap.size, 0, none⟩ = some (.int .i64 xk) ∧ X.cell? ⟨w.heap.size, 1, none⟩ = some (.bool xb) ∧ X.cell? ⟨w.heap.size, 2, none⟩ = some (.int .i64 xn) ∧ X.cell? ⟨w.heap.size, 3, none⟩ = some (.bool xo) ∧ X.cell? ⟨w.heap.size, 4, none⟩ = some (.string xt) ∧ X.cell? ⟨w.heap.size, 5, none⟩ = some (.slice xa xL.length xc) ∧ X.cell? ⟨w.heap.size + 1, 0, none⟩ = some (.int .i64 yk) ∧ X.cell? ⟨w.heap.size + 1, 1, none⟩ = some (.bool yb) ∧ X.cell? ⟨w.heap.size + 1, 2, none⟩ = some (.int .i64 yn) ∧ X.cell? ⟨w.heap.size + 1, 3, none⟩ = some (.bool yo) ∧ X.cell? ⟨w.heap.size + 1, 4, none⟩ = some (.string yt) ∧ X.cell? ⟨w.heap.size + 1, 5, none⟩ = some (.slice ya yL.length yc)) (first | exact hK | go_keep) (first | (go_at_call 74; (with_reducible refine (HA.out _ HB.out).mono ?_); rintro e w' ⟨aa, ac, rfl, hn, hb, -⟩; have HB : Hid (Below W.heap.size W w') := HB.out.trans (hb.mono HB.out.size); have hK := two_cells (HW.out.2.2.1.of_block (HB.out.block _ HW.out.2.2.1.lt)) (HW.out.2.2.2.of_block (HB.out.block _ HW.out.2.2.2.lt)); have HNa : Hid (NsAt w' aa NA) := hn; clear hn; clear hb) | (go_at_call 74; (with_reducible refine (HC.out _ HB.out).mono ?_); rintro e w' ⟨ba, bc, rfl, hn, hb, -⟩; have HB : Hid (Below W.heap.size W w') := HB.out.trans (hb.mono HB.out.size); have hK := two_cells (HW.out.2.2.1.of_block (HB.out.block _ HW.out.2.2.1.lt)) (HW.out.2.2.2.of_block (HB.out.block _ HW.out.2.2.2.lt)); have HNb : Hid (NsAt w' ba NB) := hn; have HEa : Hid (NsAt w' ea (ends NA)) := HEa.out.bel hb; clear hn; clear hb) | (go_at_call 73; (with_reducible refine (ends_any _ HNa.out (by omega)).mono ?_); rintro e w' ⟨ea, ec, rfl, hn, hb, -⟩; have HB : Hid (Below W.heap.size W w') := HB.out.trans (hb.mono HB.out.size); have hK := two_cells (HW.out.2.2.1.of_block (HB.out.block _ HW.out.2.2.1.lt)) (HW.out.2.2.2.of_block (HB.out.block _ HW.out.2.2.2.lt)); have HEa : Hid (NsAt w' ea (ends NA)) := hn; clear hn HNa; clear hb) | (go_at_call 73; (with_reducible refine (ends_any _ HNb.out (by omega)).mono ?_); rintro e w' ⟨fa, fc, rfl, hn, hb, -⟩; have HB : Hid (Below W.heap.size W w') := HB.out.trans (hb.mono HB.out.size); have hK := two_cells (HW.out.2.2.1.of_block (HB.out.block _ HW.out.2.2.1.lt)) (HW.out.2.2.2.of_block (HB.out.block _ HW.out.2.2.2.lt)); have HEb : Hid (NsAt w' fa (ends NB)) := hn; have HEa : Hid (NsAt w' ea (ends NA)) := HEa.out.bel hb; clear hn; clear hb) | (go_at_call 72; (with_reducible refine (some_any _ op HS.out.1 HEa.out HEb.out (by omega) (by omega) R HS.out.2).mono ?_); rintro e w' ⟨rfl, hb⟩; have HB : Hid (Below W.heap.size W w') := HB.out.trans (hb.mono HB.out.size); have hK := two_cells (HW.out.2.2.1.of_block (HB.out.block _ HW.out.2.2.1.lt)) (HW.out.2.2.2.of_block (HB.out.block _ HW.out.2.2.2.lt)); clear hb))
  all_goals go_wp2
  all_goals go_ret
  all_goals exact ⟨rfl, HW.out.2.1.trans (HB.out.mono HW.out.2.1.size)⟩
set_option maxRecDepth 100000 in
set_option maxHeartbeats 4000000 in
theorem held_tr1 (w : World) (op : ByteArray) (ho : IsOp op) {xk xn yk yn : Int} {xb xo yb yo : Bool} {xt yt : ByteArray} {xa ya : Option Addr} {xc yc : Nat} {xL yL : List ByteArray} (hxv : VOk w ⟨xk, xb, xn, xo, xt, xL⟩ xa) (hyv : VOk w ⟨yk, yb, yn, yo, yt, yL⟩ ya) (G : Gl w) (h1 : (decide (xk = 1) || decide (yk = 1)) = true) (h4 : (decide (xk = 4) || decide (yk = 4)) = true) (h2 : (decide (xk = 2) || decide (yk = 2)) = (decide (xk = 2) || decide (yk = 2))) (p q R : Bool) (hp : trB xk xb xn xo (Tx xt) xL.length = p) (hq : trB yk yb yn yo (Tx yt) yL.length = q) (hR : nmB op (if p then 1 else 0) true (if q then 1 else 0) true = R) :
    Calls Tryz.prog 39 #[.string op, .agg #[.int .i64 xk, .bool xb, .int .i64 xn, .bool xo, .string xt, .slice xa xL.length xc], .agg #[.int .i64 yk, .bool yb, .int .i64 yn, .bool yo, .string yt, .slice ya yL.length yc]] w fun e w' => e = .returned (.bool R) ∧ Below w.heap.size w w' := by
  obtain ⟨W, hW⟩ : ∃ W, ((w.alloc (.cells #[.int .i64 xk, .bool xb, .int .i64 xn, .bool xo, .string xt, .slice xa xL.length xc] 24)).alloc (.cells #[.int .i64 yk, .bool yb, .int .i64 yn, .bool yo, .string yt, .slice ya yL.length yc] 24)) = W := ⟨_, rfl⟩
  have hbW : Below w.heap.size w W := by rw [← hW]; exact ((Below.refl _ _).alloc (Nat.le_refl _) _).alloc (by simp) _
  have hx : IsCells W w.heap.size #[.int .i64 xk, .bool xb, .int .i64 xn, .bool xo, .string xt, .slice xa xL.length xc] := by rw [← hW]; exact (isCells_new w _ 24).alloc _
  have hy : IsCells W (w.heap.size + 1) #[.int .i64 yk, .bool yb, .int .i64 yn, .bool yo, .string yt, .slice ya yL.length yc] := by
    have := isCells_new (w.alloc (.cells #[.int .i64 xk, .bool xb, .int .i64 xn, .bool xo, .string xt, .slice xa xL.length xc] 24)) #[.int .i64 yk, .bool yb, .int .i64 yn, .bool yo, .string yt, .slice ya yL.length yc] 24
    rw [hW] at this
    simpa using this
  have HW : Hid (((w.alloc (.cells #[.int .i64 xk, .bool xb, .int .i64 xn, .bool xo, .string xt, .slice xa xL.length xc] 24)).alloc (.cells #[.int .i64 yk, .bool yb, .int .i64 yn, .bool yo, .string yt, .slice ya yL.length yc] 24)) = W ∧ Below w.heap.size w W ∧ IsCells W w.heap.size #[.int .i64 xk, .bool xb, .int .i64 xn, .bool xo, .string xt, .slice xa xL.length xc] ∧ IsCells W (w.heap.size + 1) #[.int .i64 yk, .bool yb, .int .i64 yn, .bool yo, .string yt, .slice ya yL.length yc]) := ⟨hW, hbW, hx, hy⟩
  have hor := orders_any W op ho
  have eg := enters69
  have hc1 := held1_any W w.heap.size (w.heap.size + 1) 1 xk yk (hx.cell 0) (hy.cell 0) true h1
  have hc4 := held1_any W w.heap.size (w.heap.size + 1) 4 xk yk (hx.cell 0) (hy.cell 0) true h4
  have HA := fun u => truth_any u xk xn xb xo xt xa xL.length xc
  have HC := fun u => truth_any u yk yn yb yo yt ya yL.length yc
  rw [hp] at HA
  rw [hq] at HC
  have HM := fun u => meet_any u op ho (if p then 1 else 0) (if q then 1 else 0) true true
  rw [hR] at HM
  have HBA := fun u => bit_any u p
  have HBC := fun u => bit_any u q
  generalize (if p = true then (1 : Int) else 0) = zp at *
  generalize (if q = true then (1 : Int) else 0) = zq at *
  clear hR ho hp hq
  clear hW hbW hx hy h1 h4 h2 hxv hyv G
  go_enter Tryz.func39, Tryz.ntmps39
  go_wp2_with fail
  rw [HW.out.1]
  with_reducible refine hc1.mono ?_
  rintro e W ⟨rfl, rfl⟩
  go_wp2_with fail
  with_reducible refine hc4.mono ?_
  rintro e W ⟨rfl, rfl⟩
  go_wp2_with fail
  have HB : Hid (Below W.heap.size W W.drew) := (Below.refl _ _).drew
  have hK := two_cells (X := W.drew) (HW.out.2.2.1.of_block rfl) (HW.out.2.2.2.of_block rfl)
  go_region_held3 (fun X => X.cell? ⟨w.heap.size, 0, none⟩ = some (.int .i64 xk) ∧ X.cell? ⟨w.heap.size, 1, none⟩ = some (.bool xb) ∧ X.cell? ⟨w.heap.size, 2, none⟩ = some (.int .i64 xn) ∧ X.cell? ⟨w.heap.size, 3, none⟩ = some (.bool xo) ∧ X.cell? ⟨w.heap.size, 4, none⟩ = some (.string xt) ∧ X.cell? ⟨w.heap.size, 5, none⟩ = some (.slice xa xL.length xc) ∧ X.cell? ⟨w.heap.size + 1, 0, none⟩ = some (.int .i64 yk) ∧ X.cell? ⟨w.heap.size + 1, 1, none⟩ = some (.bool yb) ∧ X.cell? ⟨w.heap.size + 1, 2, none⟩ = some (.int .i64 yn) ∧ X.cell? ⟨w.heap.size + 1, 3, none⟩ = some (.bool yo) ∧ X.cell? ⟨w.heap.size + 1, 4, none⟩ = some (.string yt) ∧ X.cell? ⟨w.heap.size + 1, 5, none⟩ = some (.slice ya yL.length yc)) (first | exact hK | go_keep) (first | (go_at_call 35; (with_reducible refine (HA _).mono ?_); rintro e w' ⟨rfl, hb⟩; have HB : Hid (Below W.heap.size W w') := HB.out.trans (hb.mono HB.out.size); have hK := two_cells (HW.out.2.2.1.of_block (HB.out.block _ HW.out.2.2.1.lt)) (HW.out.2.2.2.of_block (HB.out.block _ HW.out.2.2.2.lt)); clear hb) | (go_at_call 35; (with_reducible refine (HC _).mono ?_); rintro e w' ⟨rfl, hb⟩; have HB : Hid (Below W.heap.size W w') := HB.out.trans (hb.mono HB.out.size); have hK := two_cells (HW.out.2.2.1.of_block (HB.out.block _ HW.out.2.2.1.lt)) (HW.out.2.2.2.of_block (HB.out.block _ HW.out.2.2.2.lt)); clear hb) | (go_at_call 65; (with_reducible refine (HBA _).mono ?_); rintro e w' ⟨rfl, hb⟩; have HB : Hid (Below W.heap.size W w') := HB.out.trans (hb.mono HB.out.size); have hK := two_cells (HW.out.2.2.1.of_block (HB.out.block _ HW.out.2.2.1.lt)) (HW.out.2.2.2.of_block (HB.out.block _ HW.out.2.2.2.lt)); clear hb) | (go_at_call 65; (with_reducible refine (HBC _).mono ?_); rintro e w' ⟨rfl, hb⟩; have HB : Hid (Below W.heap.size W w') := HB.out.trans (hb.mono HB.out.size); have hK := two_cells (HW.out.2.2.1.of_block (HB.out.block _ HW.out.2.2.1.lt)) (HW.out.2.2.2.of_block (HB.out.block _ HW.out.2.2.2.lt)); clear hb) | (go_at_call 71; (with_reducible refine (HM _).mono ?_); rintro e w' ⟨rfl, hb⟩; have HB : Hid (Below W.heap.size W w') := HB.out.trans (hb.mono HB.out.size); have hK := two_cells (HW.out.2.2.1.of_block (HB.out.block _ HW.out.2.2.1.lt)) (HW.out.2.2.2.of_block (HB.out.block _ HW.out.2.2.2.lt)); clear hb))
  all_goals go_wp2
  all_goals go_ret
  all_goals exact ⟨rfl, HW.out.2.1.trans (HB.out.mono HW.out.2.1.size)⟩
set_option maxRecDepth 100000 in
set_option maxHeartbeats 4000000 in
theorem held_tr2 (w : World) (op : ByteArray) (ho : IsOp op) {xk xn yk yn : Int} {xb xo yb yo : Bool} {xt yt : ByteArray} {xa ya : Option Addr} {xc yc : Nat} {xL yL : List ByteArray} (hxv : VOk w ⟨xk, xb, xn, xo, xt, xL⟩ xa) (hyv : VOk w ⟨yk, yb, yn, yo, yt, yL⟩ ya) (G : Gl w) (hno : ordB op = false) (h1 : (decide (xk = 1) || decide (yk = 1)) = true) (h4 : (decide (xk = 4) || decide (yk = 4)) = false) (h2 : (decide (xk = 2) || decide (yk = 2)) = (decide (xk = 2) || decide (yk = 2))) (p q R : Bool) (hp : trB xk xb xn xo (Tx xt) xL.length = p) (hq : trB yk yb yn yo (Tx yt) yL.length = q) (hR : nmB op (if p then 1 else 0) true (if q then 1 else 0) true = R) :
    Calls Tryz.prog 39 #[.string op, .agg #[.int .i64 xk, .bool xb, .int .i64 xn, .bool xo, .string xt, .slice xa xL.length xc], .agg #[.int .i64 yk, .bool yb, .int .i64 yn, .bool yo, .string yt, .slice ya yL.length yc]] w fun e w' => e = .returned (.bool R) ∧ Below w.heap.size w w' := by
  obtain ⟨W, hW⟩ : ∃ W, ((w.alloc (.cells #[.int .i64 xk, .bool xb, .int .i64 xn, .bool xo, .string xt, .slice xa xL.length xc] 24)).alloc (.cells #[.int .i64 yk, .bool yb, .int .i64 yn, .bool yo, .string yt, .slice ya yL.length yc] 24)) = W := ⟨_, rfl⟩
  have hbW : Below w.heap.size w W := by rw [← hW]; exact ((Below.refl _ _).alloc (Nat.le_refl _) _).alloc (by simp) _
  have hx : IsCells W w.heap.size #[.int .i64 xk, .bool xb, .int .i64 xn, .bool xo, .string xt, .slice xa xL.length xc] := by rw [← hW]; exact (isCells_new w _ 24).alloc _
  have hy : IsCells W (w.heap.size + 1) #[.int .i64 yk, .bool yb, .int .i64 yn, .bool yo, .string yt, .slice ya yL.length yc] := by
    have := isCells_new (w.alloc (.cells #[.int .i64 xk, .bool xb, .int .i64 xn, .bool xo, .string xt, .slice xa xL.length xc] 24)) #[.int .i64 yk, .bool yb, .int .i64 yn, .bool yo, .string yt, .slice ya yL.length yc] 24
    rw [hW] at this
    simpa using this
  have HW : Hid (((w.alloc (.cells #[.int .i64 xk, .bool xb, .int .i64 xn, .bool xo, .string xt, .slice xa xL.length xc] 24)).alloc (.cells #[.int .i64 yk, .bool yb, .int .i64 yn, .bool yo, .string yt, .slice ya yL.length yc] 24)) = W ∧ Below w.heap.size w W ∧ IsCells W w.heap.size #[.int .i64 xk, .bool xb, .int .i64 xn, .bool xo, .string xt, .slice xa xL.length xc] ∧ IsCells W (w.heap.size + 1) #[.int .i64 yk, .bool yb, .int .i64 yn, .bool yo, .string yt, .slice ya yL.length yc]) := ⟨hW, hbW, hx, hy⟩
  have hor := orders_any W op ho
  have eg := enters69
  have hc1 := held1_any W w.heap.size (w.heap.size + 1) 1 xk yk (hx.cell 0) (hy.cell 0) true h1
  have hc4 := held1_any W w.heap.size (w.heap.size + 1) 4 xk yk (hx.cell 0) (hy.cell 0) false h4
  have HA := fun u => truth_any u xk xn xb xo xt xa xL.length xc
  have HC := fun u => truth_any u yk yn yb yo yt ya yL.length yc
  rw [hp] at HA
  rw [hq] at HC
  have HM := fun u => meet_any u op ho (if p then 1 else 0) (if q then 1 else 0) true true
  rw [hR] at HM
  have HBA := fun u => bit_any u p
  have HBC := fun u => bit_any u q
  generalize (if p = true then (1 : Int) else 0) = zp at *
  generalize (if q = true then (1 : Int) else 0) = zq at *
  clear hR ho hp hq
  rw [hno] at hor
  clear hno
  clear hW hbW hx hy h1 h4 h2 hxv hyv G
  go_enter Tryz.func39, Tryz.ntmps39
  go_wp2_with fail
  rw [HW.out.1]
  with_reducible refine hc1.mono ?_
  rintro e W ⟨rfl, rfl⟩
  go_wp2_with fail
  with_reducible refine hc4.mono ?_
  rintro e W ⟨rfl, rfl⟩
  go_wp2_with fail
  with_reducible refine hor.mono ?_
  rintro e W ⟨rfl, rfl⟩
  go_wp2_with fail
  have HB : Hid (Below W.heap.size W W.drew) := (Below.refl _ _).drew
  have hK := two_cells (X := W.drew) (HW.out.2.2.1.of_block rfl) (HW.out.2.2.2.of_block rfl)
  go_region_held3 (fun X => X.cell? ⟨w.heap.size, 0, none⟩ = some (.int .i64 xk) ∧ X.cell? ⟨w.heap.size, 1, none⟩ = some (.bool xb) ∧ X.cell? ⟨w.heap.size, 2, none⟩ = some (.int .i64 xn) ∧ X.cell? ⟨w.heap.size, 3, none⟩ = some (.bool xo) ∧ X.cell? ⟨w.heap.size, 4, none⟩ = some (.string xt) ∧ X.cell? ⟨w.heap.size, 5, none⟩ = some (.slice xa xL.length xc) ∧ X.cell? ⟨w.heap.size + 1, 0, none⟩ = some (.int .i64 yk) ∧ X.cell? ⟨w.heap.size + 1, 1, none⟩ = some (.bool yb) ∧ X.cell? ⟨w.heap.size + 1, 2, none⟩ = some (.int .i64 yn) ∧ X.cell? ⟨w.heap.size + 1, 3, none⟩ = some (.bool yo) ∧ X.cell? ⟨w.heap.size + 1, 4, none⟩ = some (.string yt) ∧ X.cell? ⟨w.heap.size + 1, 5, none⟩ = some (.slice ya yL.length yc)) (first | exact hK | go_keep) (first | (go_at_call 35; (with_reducible refine (HA _).mono ?_); rintro e w' ⟨rfl, hb⟩; have HB : Hid (Below W.heap.size W w') := HB.out.trans (hb.mono HB.out.size); have hK := two_cells (HW.out.2.2.1.of_block (HB.out.block _ HW.out.2.2.1.lt)) (HW.out.2.2.2.of_block (HB.out.block _ HW.out.2.2.2.lt)); clear hb) | (go_at_call 35; (with_reducible refine (HC _).mono ?_); rintro e w' ⟨rfl, hb⟩; have HB : Hid (Below W.heap.size W w') := HB.out.trans (hb.mono HB.out.size); have hK := two_cells (HW.out.2.2.1.of_block (HB.out.block _ HW.out.2.2.1.lt)) (HW.out.2.2.2.of_block (HB.out.block _ HW.out.2.2.2.lt)); clear hb) | (go_at_call 65; (with_reducible refine (HBA _).mono ?_); rintro e w' ⟨rfl, hb⟩; have HB : Hid (Below W.heap.size W w') := HB.out.trans (hb.mono HB.out.size); have hK := two_cells (HW.out.2.2.1.of_block (HB.out.block _ HW.out.2.2.1.lt)) (HW.out.2.2.2.of_block (HB.out.block _ HW.out.2.2.2.lt)); clear hb) | (go_at_call 65; (with_reducible refine (HBC _).mono ?_); rintro e w' ⟨rfl, hb⟩; have HB : Hid (Below W.heap.size W w') := HB.out.trans (hb.mono HB.out.size); have hK := two_cells (HW.out.2.2.1.of_block (HB.out.block _ HW.out.2.2.1.lt)) (HW.out.2.2.2.of_block (HB.out.block _ HW.out.2.2.2.lt)); clear hb) | (go_at_call 71; (with_reducible refine (HM _).mono ?_); rintro e w' ⟨rfl, hb⟩; have HB : Hid (Below W.heap.size W w') := HB.out.trans (hb.mono HB.out.size); have hK := two_cells (HW.out.2.2.1.of_block (HB.out.block _ HW.out.2.2.1.lt)) (HW.out.2.2.2.of_block (HB.out.block _ HW.out.2.2.2.lt)); clear hb))
  all_goals go_wp2
  all_goals go_ret
  all_goals exact ⟨rfl, HW.out.2.1.trans (HB.out.mono HW.out.2.1.size)⟩
end Go.Proofs.YtoabgmpcdnikeaaGreatDoor
