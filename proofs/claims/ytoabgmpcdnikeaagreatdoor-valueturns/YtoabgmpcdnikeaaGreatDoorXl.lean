/- The document's Compare where one of the two is nodes; and of any two values that can be. Printed by tools/gen16_cmp2.py. -/
import Derived.Test.YtoabgmpcdnikeaaGreatDoorXk
namespace Go.Proofs.YtoabgmpcdnikeaaGreatDoor
open Go.RowKit
set_option linter.unusedVariables false
attribute [local go_sem] Bel.cell Bel.fz

theorem sal_ok (w : World) {s : ByteArray} (h : s.size ≤ 281474976710656) : VOk w (saL s) none := ⟨fun i z hz => by simp at hz, by simp, by show (-9223372036854775808 : Int) ≤ 0; decide, by show (0 : Int) ≤ 9223372036854775807; decide, h, fun z hz => by simp at hz⟩
theorem trl_ok (w : World) (b : Bool) : VOk w (trL b) none := ⟨fun i z hz => by simp at hz, by simp, by show (-9223372036854775808 : Int) ≤ 0; decide, by show (0 : Int) ≤ 9223372036854775807; decide, by show (⟨#[]⟩ : ByteArray).size ≤ _; decide, fun z hz => by simp at hz⟩

set_option maxRecDepth 100000 in
set_option maxHeartbeats 2000000 in
theorem dcmp_a1 (w : World) (op : ByteArray) {xk xn yk yn : Int} {xb xo yb yo : Bool} {xt yt : ByteArray} {xa ya : Option Addr} {xc yc : Nat} {xL yL : List ByteArray} (kx : (xk == 4) = true) (ky : (yk == 1) = true) (R p : Bool) (hp : Vl.tr ⟨xk, xb, xn, xo, xt, xL⟩ = p) (hF : ∀ u, Below w.heap.size w u → Calls Tryz.prog 19 #[.string op, mkV 1 p 0 false ⟨#[]⟩, .agg #[.int .i64 yk, .bool yb, .int .i64 yn, .bool yo, .string yt, .slice ya yL.length yc]] u fun e w' => e = .returned (.bool R) ∧ Below u.heap.size u w') :
    Calls Tryz.prog 19 #[.string op, .agg #[.int .i64 xk, .bool xb, .int .i64 xn, .bool xo, .string xt, .slice xa xL.length xc], .agg #[.int .i64 yk, .bool yb, .int .i64 yn, .bool yo, .string yt, .slice ya yL.length yc]] w fun e w' => e = .returned (.bool R) ∧ Below w.heap.size w w' := by
  obtain ⟨W, hW⟩ : ∃ W, ((w.alloc (.cells #[.int .i64 xk, .bool xb, .int .i64 xn, .bool xo, .string xt, .slice xa xL.length xc] 24)).alloc (.cells #[.int .i64 yk, .bool yb, .int .i64 yn, .bool yo, .string yt, .slice ya yL.length yc] 24)) = W := ⟨_, rfl⟩
  have hbW : Below w.heap.size w W := by rw [← hW]; exact below2 _ _ _
  have hx : IsCells W w.heap.size #[.int .i64 xk, .bool xb, .int .i64 xn, .bool xo, .string xt, .slice xa xL.length xc] := by rw [← hW]; exact (isCells_new w _ 24).alloc _
  have hy : IsCells W (w.heap.size + 1) #[.int .i64 yk, .bool yb, .int .i64 yn, .bool yo, .string yt, .slice ya yL.length yc] := by
    have := isCells_new (w.alloc (.cells #[.int .i64 xk, .bool xb, .int .i64 xn, .bool xo, .string xt, .slice xa xL.length xc] 24)) #[.int .i64 yk, .bool yb, .int .i64 yn, .bool yo, .string yt, .slice ya yL.length yc] 24
    rw [hW] at this
    simpa using this
  have HW : Hid (((w.alloc (.cells #[.int .i64 xk, .bool xb, .int .i64 xn, .bool xo, .string xt, .slice xa xL.length xc] 24)).alloc (.cells #[.int .i64 yk, .bool yb, .int .i64 yn, .bool yo, .string yt, .slice ya yL.length yc] 24)) = W ∧ Below w.heap.size w W ∧ IsCells W w.heap.size #[.int .i64 xk, .bool xb, .int .i64 xn, .bool xo, .string xt, .slice xa xL.length xc] ∧ IsCells W (w.heap.size + 1) #[.int .i64 yk, .bool yb, .int .i64 yn, .bool yo, .string yt, .slice ya yL.length yc]) := ⟨hW, hbW, hx, hy⟩
  obtain ⟨x0, x1, x2, x3, x4, x5, y0, y1, y2, y3, y4, y5⟩ := two_cells hx hy
  have b1 := hx.lt
  have b2 := hy.lt
  clear hW hbW hx hy
  have HC1 : Hid (∀ u, Below W.heap.size W u → Calls Tryz.prog 16 #[.agg #[.int .i64 xk, .bool xb, .int .i64 xn, .bool xo, .string xt, .slice xa xL.length xc]] u fun e w' => e = .returned (.bool p) ∧ Below u.heap.size u w') := fun u hu => by
    have h := dbool_any u xk xn xb xo xt xa xL.length xc
    rw [show trB _ _ _ _ _ _ = p from hp] at h
    exact h
  have HC2 : Hid (∀ u, Below W.heap.size W u → Calls Tryz.prog 44 #[.bool p] u fun e w' => e = .returned (mkV 1 p 0 false ⟨#[]⟩) ∧ Below u.heap.size u w') := fun u hu => dtruth_any u p
  have HC3 : Hid (∀ u, Below W.heap.size W u → Calls Tryz.prog 19 #[.string op, mkV 1 p 0 false ⟨#[]⟩, .agg #[.int .i64 yk, .bool yb, .int .i64 yn, .bool yo, .string yt, .slice ya yL.length yc]] u fun e w' => e = .returned (.bool R) ∧ Below u.heap.size u w') := fun u hu => hF u (HW.out.2.1.trans (hu.mono HW.out.2.1.size))
  clear hp hF
  go_enter Tryz.func19, Tryz.ntmps19
  go_wp2_with fail
  rw [HW.out.1]
  refine wp_region_bel (by kernel_rfl) (by kernel_rfl) ?_
  intro hne
  repeat go_big_quiet_step (first | (go_at_call 16; with_reducible exact Calls.bel_of (HC1.out _ (Bel.h _))) | (go_at_call 44; with_reducible exact Calls.bel_of (HC2.out _ (Bel.h _))) | (go_at_call 19; with_reducible exact Calls.bel_of (HC3.out _ (Bel.h _))))
  refine wpQuiet_nil ?_
  rintro _ ⟨u, rfl⟩
  have HU : Hid (Below w.heap.size w u.w) := HW.out.2.1.trans (u.h.mono HW.out.2.1.size)
  generalize u.w = W6 at *
  clear x0 x1 x2 x3 x4 x5 y0 y1 y2 y3 y4 y5 hne
  go_wp2
  go_ret
  exact ⟨rfl, HU.out⟩

set_option maxRecDepth 100000 in
set_option maxHeartbeats 2000000 in
theorem dcmp_a2 (w : World) (op : ByteArray) {xk xn yk yn : Int} {xb xo yb yo : Bool} {xt yt : ByteArray} {xa ya : Option Addr} {xc yc : Nat} {xL yL : List ByteArray} (kx : (xk == 4) = false) (kx1 : (xk == 1) = true) (ky : (yk == 4) = true) (ky1 : (yk == 1) = false) (R p : Bool) (hp : Vl.tr ⟨yk, yb, yn, yo, yt, yL⟩ = p) (hF : ∀ u, Below w.heap.size w u → Calls Tryz.prog 19 #[.string op, .agg #[.int .i64 xk, .bool xb, .int .i64 xn, .bool xo, .string xt, .slice xa xL.length xc], mkV 1 p 0 false ⟨#[]⟩] u fun e w' => e = .returned (.bool R) ∧ Below u.heap.size u w') :
    Calls Tryz.prog 19 #[.string op, .agg #[.int .i64 xk, .bool xb, .int .i64 xn, .bool xo, .string xt, .slice xa xL.length xc], .agg #[.int .i64 yk, .bool yb, .int .i64 yn, .bool yo, .string yt, .slice ya yL.length yc]] w fun e w' => e = .returned (.bool R) ∧ Below w.heap.size w w' := by
  obtain ⟨W, hW⟩ : ∃ W, ((w.alloc (.cells #[.int .i64 xk, .bool xb, .int .i64 xn, .bool xo, .string xt, .slice xa xL.length xc] 24)).alloc (.cells #[.int .i64 yk, .bool yb, .int .i64 yn, .bool yo, .string yt, .slice ya yL.length yc] 24)) = W := ⟨_, rfl⟩
  have hbW : Below w.heap.size w W := by rw [← hW]; exact below2 _ _ _
  have hx : IsCells W w.heap.size #[.int .i64 xk, .bool xb, .int .i64 xn, .bool xo, .string xt, .slice xa xL.length xc] := by rw [← hW]; exact (isCells_new w _ 24).alloc _
  have hy : IsCells W (w.heap.size + 1) #[.int .i64 yk, .bool yb, .int .i64 yn, .bool yo, .string yt, .slice ya yL.length yc] := by
    have := isCells_new (w.alloc (.cells #[.int .i64 xk, .bool xb, .int .i64 xn, .bool xo, .string xt, .slice xa xL.length xc] 24)) #[.int .i64 yk, .bool yb, .int .i64 yn, .bool yo, .string yt, .slice ya yL.length yc] 24
    rw [hW] at this
    simpa using this
  have HW : Hid (((w.alloc (.cells #[.int .i64 xk, .bool xb, .int .i64 xn, .bool xo, .string xt, .slice xa xL.length xc] 24)).alloc (.cells #[.int .i64 yk, .bool yb, .int .i64 yn, .bool yo, .string yt, .slice ya yL.length yc] 24)) = W ∧ Below w.heap.size w W ∧ IsCells W w.heap.size #[.int .i64 xk, .bool xb, .int .i64 xn, .bool xo, .string xt, .slice xa xL.length xc] ∧ IsCells W (w.heap.size + 1) #[.int .i64 yk, .bool yb, .int .i64 yn, .bool yo, .string yt, .slice ya yL.length yc]) := ⟨hW, hbW, hx, hy⟩
  obtain ⟨x0, x1, x2, x3, x4, x5, y0, y1, y2, y3, y4, y5⟩ := two_cells hx hy
  have b1 := hx.lt
  have b2 := hy.lt
  clear hW hbW hx hy
  have HC1 : Hid (∀ u, Below W.heap.size W u → Calls Tryz.prog 16 #[.agg #[.int .i64 yk, .bool yb, .int .i64 yn, .bool yo, .string yt, .slice ya yL.length yc]] u fun e w' => e = .returned (.bool p) ∧ Below u.heap.size u w') := fun u hu => by
    have h := dbool_any u yk yn yb yo yt ya yL.length yc
    rw [show trB _ _ _ _ _ _ = p from hp] at h
    exact h
  have HC2 : Hid (∀ u, Below W.heap.size W u → Calls Tryz.prog 44 #[.bool p] u fun e w' => e = .returned (mkV 1 p 0 false ⟨#[]⟩) ∧ Below u.heap.size u w') := fun u hu => dtruth_any u p
  have HC3 : Hid (∀ u, Below W.heap.size W u → Calls Tryz.prog 19 #[.string op, .agg #[.int .i64 xk, .bool xb, .int .i64 xn, .bool xo, .string xt, .slice xa xL.length xc], mkV 1 p 0 false ⟨#[]⟩] u fun e w' => e = .returned (.bool R) ∧ Below u.heap.size u w') := fun u hu => hF u (HW.out.2.1.trans (hu.mono HW.out.2.1.size))
  clear hp hF
  go_enter Tryz.func19, Tryz.ntmps19
  go_wp2_with fail
  rw [HW.out.1]
  refine wp_region_bel (by kernel_rfl) (by kernel_rfl) ?_
  intro hne
  repeat go_big_quiet_step (first | (go_at_call 16; with_reducible exact Calls.bel_of (HC1.out _ (Bel.h _))) | (go_at_call 44; with_reducible exact Calls.bel_of (HC2.out _ (Bel.h _))) | (go_at_call 19; with_reducible exact Calls.bel_of (HC3.out _ (Bel.h _))))
  refine wpQuiet_nil ?_
  rintro _ ⟨u, rfl⟩
  have HU : Hid (Below w.heap.size w u.w) := HW.out.2.1.trans (u.h.mono HW.out.2.1.size)
  generalize u.w = W6 at *
  clear x0 x1 x2 x3 x4 x5 y0 y1 y2 y3 y4 y5 hne
  go_wp2
  go_ret
  exact ⟨rfl, HU.out⟩

set_option maxRecDepth 100000 in
set_option maxHeartbeats 4000000 in
theorem dcmp_l1 (w : World) (op : ByteArray) {xn yk yn : Int} {xb xo yb yo : Bool} {xt yt : ByteArray} {xa ya : Option Addr} {xc yc : Nat} {xL yL : List ByteArray} (ky : (yk == 1) = false) (ky4 : (yk == 4) = false) (hat : SsAt w xa xL) (hlen : xL.length ≤ 4611686018427387904) (f : ByteArray → Bool) (R : Bool) (hR : xL.any f = R) (hF : ∀ u, Below w.heap.size w u → ∀ s ∈ xL, Calls Tryz.prog 19 #[.string op, mkV 3 false 0 false s, .agg #[.int .i64 yk, .bool yb, .int .i64 yn, .bool yo, .string yt, .slice ya yL.length yc]] u fun e w' => e = .returned (.bool (f s)) ∧ Below u.heap.size u w') :
    Calls Tryz.prog 19 #[.string op, .agg #[.int .i64 4, .bool xb, .int .i64 xn, .bool xo, .string xt, .slice xa xL.length xc], .agg #[.int .i64 yk, .bool yb, .int .i64 yn, .bool yo, .string yt, .slice ya yL.length yc]] w fun e w' => e = .returned (.bool R) ∧ Below w.heap.size w w' := by
  obtain ⟨W, hW⟩ : ∃ W, ((w.alloc (.cells #[.int .i64 4, .bool xb, .int .i64 xn, .bool xo, .string xt, .slice xa xL.length xc] 24)).alloc (.cells #[.int .i64 yk, .bool yb, .int .i64 yn, .bool yo, .string yt, .slice ya yL.length yc] 24)) = W := ⟨_, rfl⟩
  have hbW : Below w.heap.size w W := by rw [← hW]; exact below2 _ _ _
  have hx : IsCells W w.heap.size #[.int .i64 4, .bool xb, .int .i64 xn, .bool xo, .string xt, .slice xa xL.length xc] := by rw [← hW]; exact (isCells_new w _ 24).alloc _
  have hy : IsCells W (w.heap.size + 1) #[.int .i64 yk, .bool yb, .int .i64 yn, .bool yo, .string yt, .slice ya yL.length yc] := by
    have := isCells_new (w.alloc (.cells #[.int .i64 4, .bool xb, .int .i64 xn, .bool xo, .string xt, .slice xa xL.length xc] 24)) #[.int .i64 yk, .bool yb, .int .i64 yn, .bool yo, .string yt, .slice ya yL.length yc] 24
    rw [hW] at this
    simpa using this
  have HW : Hid (((w.alloc (.cells #[.int .i64 4, .bool xb, .int .i64 xn, .bool xo, .string xt, .slice xa xL.length xc] 24)).alloc (.cells #[.int .i64 yk, .bool yb, .int .i64 yn, .bool yo, .string yt, .slice ya yL.length yc] 24)) = W ∧ Below w.heap.size w W ∧ IsCells W w.heap.size #[.int .i64 4, .bool xb, .int .i64 xn, .bool xo, .string xt, .slice xa xL.length xc] ∧ IsCells W (w.heap.size + 1) #[.int .i64 yk, .bool yb, .int .i64 yn, .bool yo, .string yt, .slice ya yL.length yc]) := ⟨hW, hbW, hx, hy⟩
  obtain ⟨x0, x1, x2, x3, x4, x5, y0, y1, y2, y3, y4, y5⟩ := two_cells hx hy
  have b1 := hx.lt
  have b2 := hy.lt
  clear hW hbW hx hy
  have HF : Hid (SsAt w xa xL ∧ xL.any f = R ∧ ∀ u, Below w.heap.size w u → ∀ s ∈ xL, Calls Tryz.prog 19 #[.string op, mkV 3 false 0 false s, .agg #[.int .i64 yk, .bool yb, .int .i64 yn, .bool yo, .string yt, .slice ya yL.length yc]] u fun e w' => e = .returned (.bool (f s)) ∧ Below u.heap.size u w') := ⟨hat, hR, hF⟩
  clear hat hR hF
  go_enter Tryz.func19, Tryz.ntmps19
  go_wp2_with fail
  rw [HW.out.1]
  go_loopw [7] (fun v wr => ∃ i : Nat, i ≤ xL.length ∧ v = .int .i64 (i : Int) ∧ Hid (Below w.heap.size w wr ∧ IsCells wr w.heap.size #[.int .i64 4, .bool xb, .int .i64 xn, .bool xo, .string xt, .slice xa xL.length xc] ∧ IsCells wr (w.heap.size + 1) #[.int .i64 yk, .bool yb, .int .i64 yn, .bool yo, .string yt, .slice ya yL.length yc] ∧ (xL.take i).any f = false)) (fun v _ => xL.length - (intOf v).toNat)
  case atStart => exact ⟨0, by omega, rfl, HW.out.2.1, HW.out.2.2.1, HW.out.2.2.2, rfl⟩
  case round =>
    obtain ⟨i, hi, rfl, HS⟩ := hrel
    clear x0 x1 x2 x3 x4 x5 y0 y1 y2 y3 y4 y5 b1 b2
    obtain ⟨x0, x1, x2, x3, x4, x5, y0, y1, y2, y3, y4, y5⟩ := two_cells HS.out.2.1 HS.out.2.2.1
    have b1 := HS.out.2.1.lt
    have b2 := HS.out.2.2.1.lt
    by_cases hlt : i < xL.length
    · have hltz : (i : Int) < (xL.length : Int) := by omega
      obtain ⟨s, hs⟩ : ∃ s, xL[i]? = some s := ⟨_, List.getElem?_eq_getElem hlt⟩
      obtain ⟨bb, o1, rfl, hb1, hcell⟩ := (HF.out.1.bel HS.out.1) i s hs
      have HC1 : Hid (∀ u, Below wr.heap.size wr u → Calls Tryz.prog 45 #[.string s] u fun e w' => e = .returned (mkV 3 false 0 false s) ∧ Below u.heap.size u w') := fun u hu => dsaid_any u s
      have HC2 : Hid (∀ u, Below wr.heap.size wr u → Calls Tryz.prog 19 #[.string op, mkV 3 false 0 false s, .agg #[.int .i64 yk, .bool yb, .int .i64 yn, .bool yo, .string yt, .slice ya yL.length yc]] u fun e w' => e = .returned (.bool (f s)) ∧ Below u.heap.size u w') := fun u hu => HF.out.2.2 u (HS.out.1.trans (hu.mono HS.out.1.size)) s (List.mem_of_getElem? hs)
      have HT : Hid ((xL.take (i + 1)).any f = f s) := by
        show _ = _
        rw [List.take_add_one, hs, List.any_append, HS.out.2.2.2]
        simp
      have HR : Hid (f s = true → R = true) := fun h => by
        rw [← HF.out.2.1, List.any_eq_true]
        exact ⟨s, List.mem_of_getElem? hs, h⟩
      clear hs
      generalize f s = q at *
      go_wp2_with fail
      refine wp_region_bel (by kernel_rfl) (by kernel_rfl) ?_
      intro hne
      repeat go_big_quiet_step (first | (go_at_call 45; with_reducible exact Calls.bel_of (HC1.out _ (Bel.h _))) | (go_at_call 19; with_reducible exact Calls.bel_of (HC2.out _ (Bel.h _))))
      refine wpQuiet_nil ?_
      rintro _ ⟨u, rfl⟩
      have HU : Hid (Below wr.heap.size wr u.w) := u.h
      generalize u.w = W6 at *
      clear x0 x1 x2 x3 x4 x5 y0 y1 y2 y3 y4 y5 hne HC1 HC2
      cases q with
      | true =>
        obtain rfl := HR.out rfl
        go_wp2
        go_ret
        exact ⟨rfl, HS.out.1.trans (HU.out.mono HS.out.1.size)⟩
      | false =>
        go_wp2
        go_roundw
        case rel => exact ⟨i + 1, by omega, by go_num, HS.out.1.trans (HU.out.mono HS.out.1.size), HS.out.2.1.of_block (HU.out.block _ b1), HS.out.2.2.1.of_block (HU.out.block _ b2), HT.out⟩
        case measure => simp [intOf]; omega
    · have hltz : ¬ (i : Int) < (xL.length : Int) := by omega
      have hfin : R = false := by
        have h5 := HS.out.2.2.2
        rw [List.take_of_length_le (by omega), HF.out.2.1] at h5
        exact h5
      subst hfin
      go_wp2
      go_ret
      exact ⟨rfl, HS.out.1⟩

set_option maxRecDepth 100000 in
set_option maxHeartbeats 4000000 in
theorem dcmp_l3 (w : World) (op : ByteArray) {xn yn : Int} {xb xo yb yo : Bool} {xt yt : ByteArray} {xa ya : Option Addr} {xc yc : Nat} {xL yL : List ByteArray}  (hat : SsAt w xa xL) (hlen : xL.length ≤ 4611686018427387904) (f : ByteArray → Bool) (R : Bool) (hR : xL.any f = R) (hF : ∀ u, Below w.heap.size w u → ∀ s ∈ xL, Calls Tryz.prog 19 #[.string op, mkV 3 false 0 false s, .agg #[.int .i64 4, .bool yb, .int .i64 yn, .bool yo, .string yt, .slice ya yL.length yc]] u fun e w' => e = .returned (.bool (f s)) ∧ Below u.heap.size u w') :
    Calls Tryz.prog 19 #[.string op, .agg #[.int .i64 4, .bool xb, .int .i64 xn, .bool xo, .string xt, .slice xa xL.length xc], .agg #[.int .i64 4, .bool yb, .int .i64 yn, .bool yo, .string yt, .slice ya yL.length yc]] w fun e w' => e = .returned (.bool R) ∧ Below w.heap.size w w' := by
  obtain ⟨W, hW⟩ : ∃ W, ((w.alloc (.cells #[.int .i64 4, .bool xb, .int .i64 xn, .bool xo, .string xt, .slice xa xL.length xc] 24)).alloc (.cells #[.int .i64 4, .bool yb, .int .i64 yn, .bool yo, .string yt, .slice ya yL.length yc] 24)) = W := ⟨_, rfl⟩
  have hbW : Below w.heap.size w W := by rw [← hW]; exact below2 _ _ _
  have hx : IsCells W w.heap.size #[.int .i64 4, .bool xb, .int .i64 xn, .bool xo, .string xt, .slice xa xL.length xc] := by rw [← hW]; exact (isCells_new w _ 24).alloc _
  have hy : IsCells W (w.heap.size + 1) #[.int .i64 4, .bool yb, .int .i64 yn, .bool yo, .string yt, .slice ya yL.length yc] := by
    have := isCells_new (w.alloc (.cells #[.int .i64 4, .bool xb, .int .i64 xn, .bool xo, .string xt, .slice xa xL.length xc] 24)) #[.int .i64 4, .bool yb, .int .i64 yn, .bool yo, .string yt, .slice ya yL.length yc] 24
    rw [hW] at this
    simpa using this
  have HW : Hid (((w.alloc (.cells #[.int .i64 4, .bool xb, .int .i64 xn, .bool xo, .string xt, .slice xa xL.length xc] 24)).alloc (.cells #[.int .i64 4, .bool yb, .int .i64 yn, .bool yo, .string yt, .slice ya yL.length yc] 24)) = W ∧ Below w.heap.size w W ∧ IsCells W w.heap.size #[.int .i64 4, .bool xb, .int .i64 xn, .bool xo, .string xt, .slice xa xL.length xc] ∧ IsCells W (w.heap.size + 1) #[.int .i64 4, .bool yb, .int .i64 yn, .bool yo, .string yt, .slice ya yL.length yc]) := ⟨hW, hbW, hx, hy⟩
  obtain ⟨x0, x1, x2, x3, x4, x5, y0, y1, y2, y3, y4, y5⟩ := two_cells hx hy
  have b1 := hx.lt
  have b2 := hy.lt
  clear hW hbW hx hy
  have HF : Hid (SsAt w xa xL ∧ xL.any f = R ∧ ∀ u, Below w.heap.size w u → ∀ s ∈ xL, Calls Tryz.prog 19 #[.string op, mkV 3 false 0 false s, .agg #[.int .i64 4, .bool yb, .int .i64 yn, .bool yo, .string yt, .slice ya yL.length yc]] u fun e w' => e = .returned (.bool (f s)) ∧ Below u.heap.size u w') := ⟨hat, hR, hF⟩
  clear hat hR hF
  go_enter Tryz.func19, Tryz.ntmps19
  go_wp2_with fail
  rw [HW.out.1]
  go_loopw [7] (fun v wr => ∃ i : Nat, i ≤ xL.length ∧ v = .int .i64 (i : Int) ∧ Hid (Below w.heap.size w wr ∧ IsCells wr w.heap.size #[.int .i64 4, .bool xb, .int .i64 xn, .bool xo, .string xt, .slice xa xL.length xc] ∧ IsCells wr (w.heap.size + 1) #[.int .i64 4, .bool yb, .int .i64 yn, .bool yo, .string yt, .slice ya yL.length yc] ∧ (xL.take i).any f = false)) (fun v _ => xL.length - (intOf v).toNat)
  case atStart => exact ⟨0, by omega, rfl, HW.out.2.1, HW.out.2.2.1, HW.out.2.2.2, rfl⟩
  case round =>
    obtain ⟨i, hi, rfl, HS⟩ := hrel
    clear x0 x1 x2 x3 x4 x5 y0 y1 y2 y3 y4 y5 b1 b2
    obtain ⟨x0, x1, x2, x3, x4, x5, y0, y1, y2, y3, y4, y5⟩ := two_cells HS.out.2.1 HS.out.2.2.1
    have b1 := HS.out.2.1.lt
    have b2 := HS.out.2.2.1.lt
    by_cases hlt : i < xL.length
    · have hltz : (i : Int) < (xL.length : Int) := by omega
      obtain ⟨s, hs⟩ : ∃ s, xL[i]? = some s := ⟨_, List.getElem?_eq_getElem hlt⟩
      obtain ⟨bb, o1, rfl, hb1, hcell⟩ := (HF.out.1.bel HS.out.1) i s hs
      have HC1 : Hid (∀ u, Below wr.heap.size wr u → Calls Tryz.prog 45 #[.string s] u fun e w' => e = .returned (mkV 3 false 0 false s) ∧ Below u.heap.size u w') := fun u hu => dsaid_any u s
      have HC2 : Hid (∀ u, Below wr.heap.size wr u → Calls Tryz.prog 19 #[.string op, mkV 3 false 0 false s, .agg #[.int .i64 4, .bool yb, .int .i64 yn, .bool yo, .string yt, .slice ya yL.length yc]] u fun e w' => e = .returned (.bool (f s)) ∧ Below u.heap.size u w') := fun u hu => HF.out.2.2 u (HS.out.1.trans (hu.mono HS.out.1.size)) s (List.mem_of_getElem? hs)
      have HT : Hid ((xL.take (i + 1)).any f = f s) := by
        show _ = _
        rw [List.take_add_one, hs, List.any_append, HS.out.2.2.2]
        simp
      have HR : Hid (f s = true → R = true) := fun h => by
        rw [← HF.out.2.1, List.any_eq_true]
        exact ⟨s, List.mem_of_getElem? hs, h⟩
      clear hs
      generalize f s = q at *
      go_wp2_with fail
      refine wp_region_bel (by kernel_rfl) (by kernel_rfl) ?_
      intro hne
      repeat go_big_quiet_step (first | (go_at_call 45; with_reducible exact Calls.bel_of (HC1.out _ (Bel.h _))) | (go_at_call 19; with_reducible exact Calls.bel_of (HC2.out _ (Bel.h _))))
      refine wpQuiet_nil ?_
      rintro _ ⟨u, rfl⟩
      have HU : Hid (Below wr.heap.size wr u.w) := u.h
      generalize u.w = W6 at *
      clear x0 x1 x2 x3 x4 x5 y0 y1 y2 y3 y4 y5 hne HC1 HC2
      cases q with
      | true =>
        obtain rfl := HR.out rfl
        go_wp2
        go_ret
        exact ⟨rfl, HS.out.1.trans (HU.out.mono HS.out.1.size)⟩
      | false =>
        go_wp2
        go_roundw
        case rel => exact ⟨i + 1, by omega, by go_num, HS.out.1.trans (HU.out.mono HS.out.1.size), HS.out.2.1.of_block (HU.out.block _ b1), HS.out.2.2.1.of_block (HU.out.block _ b2), HT.out⟩
        case measure => simp [intOf]; omega
    · have hltz : ¬ (i : Int) < (xL.length : Int) := by omega
      have hfin : R = false := by
        have h5 := HS.out.2.2.2
        rw [List.take_of_length_le (by omega), HF.out.2.1] at h5
        exact h5
      subst hfin
      go_wp2
      go_ret
      exact ⟨rfl, HS.out.1⟩

set_option maxRecDepth 100000 in
set_option maxHeartbeats 4000000 in
theorem dcmp_l2 (w : World) (op : ByteArray) {xk xn yn : Int} {xb xo yb yo : Bool} {xt yt : ByteArray} {xa ya : Option Addr} {xc yc : Nat} {xL yL : List ByteArray} (kx : (xk == 4) = false) (kx1 : (xk == 1) = false)  (hat : SsAt w ya yL) (hlen : yL.length ≤ 4611686018427387904) (f : ByteArray → Bool) (R : Bool) (hR : yL.any f = R) (hF : ∀ u, Below w.heap.size w u → ∀ s ∈ yL, Calls Tryz.prog 19 #[.string op, .agg #[.int .i64 xk, .bool xb, .int .i64 xn, .bool xo, .string xt, .slice xa xL.length xc], mkV 3 false 0 false s] u fun e w' => e = .returned (.bool (f s)) ∧ Below u.heap.size u w') :
    Calls Tryz.prog 19 #[.string op, .agg #[.int .i64 xk, .bool xb, .int .i64 xn, .bool xo, .string xt, .slice xa xL.length xc], .agg #[.int .i64 4, .bool yb, .int .i64 yn, .bool yo, .string yt, .slice ya yL.length yc]] w fun e w' => e = .returned (.bool R) ∧ Below w.heap.size w w' := by
  obtain ⟨W, hW⟩ : ∃ W, ((w.alloc (.cells #[.int .i64 xk, .bool xb, .int .i64 xn, .bool xo, .string xt, .slice xa xL.length xc] 24)).alloc (.cells #[.int .i64 4, .bool yb, .int .i64 yn, .bool yo, .string yt, .slice ya yL.length yc] 24)) = W := ⟨_, rfl⟩
  have hbW : Below w.heap.size w W := by rw [← hW]; exact below2 _ _ _
  have hx : IsCells W w.heap.size #[.int .i64 xk, .bool xb, .int .i64 xn, .bool xo, .string xt, .slice xa xL.length xc] := by rw [← hW]; exact (isCells_new w _ 24).alloc _
  have hy : IsCells W (w.heap.size + 1) #[.int .i64 4, .bool yb, .int .i64 yn, .bool yo, .string yt, .slice ya yL.length yc] := by
    have := isCells_new (w.alloc (.cells #[.int .i64 xk, .bool xb, .int .i64 xn, .bool xo, .string xt, .slice xa xL.length xc] 24)) #[.int .i64 4, .bool yb, .int .i64 yn, .bool yo, .string yt, .slice ya yL.length yc] 24
    rw [hW] at this
    simpa using this
  have HW : Hid (((w.alloc (.cells #[.int .i64 xk, .bool xb, .int .i64 xn, .bool xo, .string xt, .slice xa xL.length xc] 24)).alloc (.cells #[.int .i64 4, .bool yb, .int .i64 yn, .bool yo, .string yt, .slice ya yL.length yc] 24)) = W ∧ Below w.heap.size w W ∧ IsCells W w.heap.size #[.int .i64 xk, .bool xb, .int .i64 xn, .bool xo, .string xt, .slice xa xL.length xc] ∧ IsCells W (w.heap.size + 1) #[.int .i64 4, .bool yb, .int .i64 yn, .bool yo, .string yt, .slice ya yL.length yc]) := ⟨hW, hbW, hx, hy⟩
  obtain ⟨x0, x1, x2, x3, x4, x5, y0, y1, y2, y3, y4, y5⟩ := two_cells hx hy
  have b1 := hx.lt
  have b2 := hy.lt
  clear hW hbW hx hy
  have HF : Hid (SsAt w ya yL ∧ yL.any f = R ∧ ∀ u, Below w.heap.size w u → ∀ s ∈ yL, Calls Tryz.prog 19 #[.string op, .agg #[.int .i64 xk, .bool xb, .int .i64 xn, .bool xo, .string xt, .slice xa xL.length xc], mkV 3 false 0 false s] u fun e w' => e = .returned (.bool (f s)) ∧ Below u.heap.size u w') := ⟨hat, hR, hF⟩
  clear hat hR hF
  go_enter Tryz.func19, Tryz.ntmps19
  go_wp2_with fail
  rw [HW.out.1]
  go_loopw [8] (fun v wr => ∃ i : Nat, i ≤ yL.length ∧ v = .int .i64 (i : Int) ∧ Hid (Below w.heap.size w wr ∧ IsCells wr w.heap.size #[.int .i64 xk, .bool xb, .int .i64 xn, .bool xo, .string xt, .slice xa xL.length xc] ∧ IsCells wr (w.heap.size + 1) #[.int .i64 4, .bool yb, .int .i64 yn, .bool yo, .string yt, .slice ya yL.length yc] ∧ (yL.take i).any f = false)) (fun v _ => yL.length - (intOf v).toNat)
  case atStart => exact ⟨0, by omega, rfl, HW.out.2.1, HW.out.2.2.1, HW.out.2.2.2, rfl⟩
  case round =>
    obtain ⟨i, hi, rfl, HS⟩ := hrel
    clear x0 x1 x2 x3 x4 x5 y0 y1 y2 y3 y4 y5 b1 b2
    obtain ⟨x0, x1, x2, x3, x4, x5, y0, y1, y2, y3, y4, y5⟩ := two_cells HS.out.2.1 HS.out.2.2.1
    have b1 := HS.out.2.1.lt
    have b2 := HS.out.2.2.1.lt
    by_cases hlt : i < yL.length
    · have hltz : (i : Int) < (yL.length : Int) := by omega
      obtain ⟨s, hs⟩ : ∃ s, yL[i]? = some s := ⟨_, List.getElem?_eq_getElem hlt⟩
      obtain ⟨bb, o1, rfl, hb1, hcell⟩ := (HF.out.1.bel HS.out.1) i s hs
      have HC1 : Hid (∀ u, Below wr.heap.size wr u → Calls Tryz.prog 45 #[.string s] u fun e w' => e = .returned (mkV 3 false 0 false s) ∧ Below u.heap.size u w') := fun u hu => dsaid_any u s
      have HC2 : Hid (∀ u, Below wr.heap.size wr u → Calls Tryz.prog 19 #[.string op, .agg #[.int .i64 xk, .bool xb, .int .i64 xn, .bool xo, .string xt, .slice xa xL.length xc], mkV 3 false 0 false s] u fun e w' => e = .returned (.bool (f s)) ∧ Below u.heap.size u w') := fun u hu => HF.out.2.2 u (HS.out.1.trans (hu.mono HS.out.1.size)) s (List.mem_of_getElem? hs)
      have HT : Hid ((yL.take (i + 1)).any f = f s) := by
        show _ = _
        rw [List.take_add_one, hs, List.any_append, HS.out.2.2.2]
        simp
      have HR : Hid (f s = true → R = true) := fun h => by
        rw [← HF.out.2.1, List.any_eq_true]
        exact ⟨s, List.mem_of_getElem? hs, h⟩
      clear hs
      generalize f s = q at *
      go_wp2_with fail
      refine wp_region_bel (by kernel_rfl) (by kernel_rfl) ?_
      intro hne
      repeat go_big_quiet_step (first | (go_at_call 45; with_reducible exact Calls.bel_of (HC1.out _ (Bel.h _))) | (go_at_call 19; with_reducible exact Calls.bel_of (HC2.out _ (Bel.h _))))
      refine wpQuiet_nil ?_
      rintro _ ⟨u, rfl⟩
      have HU : Hid (Below wr.heap.size wr u.w) := u.h
      generalize u.w = W6 at *
      clear x0 x1 x2 x3 x4 x5 y0 y1 y2 y3 y4 y5 hne HC1 HC2
      cases q with
      | true =>
        obtain rfl := HR.out rfl
        go_wp2
        go_ret
        exact ⟨rfl, HS.out.1.trans (HU.out.mono HS.out.1.size)⟩
      | false =>
        go_wp2
        go_roundw
        case rel => exact ⟨i + 1, by omega, by go_num, HS.out.1.trans (HU.out.mono HS.out.1.size), HS.out.2.1.of_block (HU.out.block _ b1), HS.out.2.2.1.of_block (HU.out.block _ b2), HT.out⟩
        case measure => simp [intOf]; omega
    · have hltz : ¬ (i : Int) < (yL.length : Int) := by omega
      have hfin : R = false := by
        have h5 := HS.out.2.2.2
        rw [List.take_of_length_le (by omega), HF.out.2.1] at h5
        exact h5
      subst hfin
      go_wp2
      go_ret
      exact ⟨rfl, HS.out.1⟩

/-- The first one is not nodes. -/
theorem dcmp1_any (w : World) (op : ByteArray) (ho : IsOp op) {xk xn yk yn : Int} {xb xo yb yo : Bool} {xt yt : ByteArray} {xa ya : Option Addr} {xc yc : Nat} {xL yL : List ByteArray} (hxv : VOk w ⟨xk, xb, xn, xo, xt, xL⟩ xa) (hyv : VOk w ⟨yk, yb, yn, yo, yt, yL⟩ ya) (kx : xk = 1 ∨ xk = 2 ∨ xk = 3) (ky : yk = 1 ∨ yk = 2 ∨ yk = 3 ∨ yk = 4) :
    Calls Tryz.prog 19 #[.string op, .agg #[.int .i64 xk, .bool xb, .int .i64 xn, .bool xo, .string xt, .slice xa xL.length xc], .agg #[.int .i64 yk, .bool yb, .int .i64 yn, .bool yo, .string yt, .slice ya yL.length yc]] w fun e w' => e = .returned (.bool (cmpV op ⟨xk, xb, xn, xo, xt, xL⟩ ⟨yk, yb, yn, yo, yt, yL⟩)) ∧ Below w.heap.size w w' := by
  rcases Classical.em (yk = 4) with y4 | y4
  · subst y4
    have x4 : (xk == 4) = false := kn (by omega)
    rcases Classical.em (xk = 1) with x1 | x1
    · subst x1
      rw [cmp_tr2 ho (v := ⟨1, xb, xn, xo, xt, xL⟩) (u := ⟨4, yb, yn, yo, yt, yL⟩) rfl rfl]
      exact dcmp_a2 w op x4 rfl rfl rfl _ _ rfl (fun u hu => dcmp0_any u op ho (hxv.bel hu) (trl_ok u _) kx (.inl rfl) (yc := 0))
    · rw [cmp_any2 ho (v := ⟨xk, xb, xn, xo, xt, xL⟩) (u := ⟨4, yb, yn, yo, yt, yL⟩) x1 rfl]
      exact dcmp_l2 w op x4 (kn x1) hyv.at_ hyv.len _ _ rfl (fun u hu s hs => dcmp0_any u op ho (hxv.bel hu) (sal_ok u (hyv.ls s hs)) kx (.inr (.inr rfl)) (yc := 0))
  · exact dcmp0_any w op ho hxv hyv kx (by omega)
/-- Of any two values that can be. -/
theorem dcompare_any (w : World) (op : ByteArray) (ho : IsOp op) {xk xn yk yn : Int} {xb xo yb yo : Bool} {xt yt : ByteArray} {xa ya : Option Addr} {xc yc : Nat} {xL yL : List ByteArray} (hxv : VOk w ⟨xk, xb, xn, xo, xt, xL⟩ xa) (hyv : VOk w ⟨yk, yb, yn, yo, yt, yL⟩ ya) (kx : xk = 1 ∨ xk = 2 ∨ xk = 3 ∨ xk = 4) (ky : yk = 1 ∨ yk = 2 ∨ yk = 3 ∨ yk = 4) :
    Calls Tryz.prog 19 #[.string op, .agg #[.int .i64 xk, .bool xb, .int .i64 xn, .bool xo, .string xt, .slice xa xL.length xc], .agg #[.int .i64 yk, .bool yb, .int .i64 yn, .bool yo, .string yt, .slice ya yL.length yc]] w fun e w' => e = .returned (.bool (cmpV op ⟨xk, xb, xn, xo, xt, xL⟩ ⟨yk, yb, yn, yo, yt, yL⟩)) ∧ Below w.heap.size w w' := by
  rcases Classical.em (xk = 4) with x4 | x4
  · subst x4
    rcases Classical.em (yk = 1) with y1 | y1
    · subst y1
      rw [cmp_tr1 ho (v := ⟨4, xb, xn, xo, xt, xL⟩) (u := ⟨1, yb, yn, yo, yt, yL⟩) rfl rfl]
      exact dcmp_a1 w op rfl rfl _ _ rfl (fun u hu => dcmp0_any u op ho (trl_ok u _) (hyv.bel hu) (.inl rfl) (.inl rfl) (xc := 0))
    · rw [cmp_any1 ho (v := ⟨4, xb, xn, xo, xt, xL⟩) (u := ⟨yk, yb, yn, yo, yt, yL⟩) rfl y1]
      have hF : ∀ u, Below w.heap.size w u → ∀ s ∈ xL, Calls Tryz.prog 19 #[.string op, mkV 3 false 0 false s, .agg #[.int .i64 yk, .bool yb, .int .i64 yn, .bool yo, .string yt, .slice ya yL.length yc]] u fun e w' => e = .returned (.bool (cmpV op (saL s) ⟨yk, yb, yn, yo, yt, yL⟩)) ∧ Below u.heap.size u w' := fun u hu s hs => dcmp1_any u op ho (sal_ok u (hxv.ls s hs)) (hyv.bel hu) (.inr (.inr rfl)) ky (xc := 0)
      rcases Classical.em (yk = 4) with y4 | y4
      · subst y4
        exact dcmp_l3 w op hxv.at_ hxv.len _ _ rfl hF
      · exact dcmp_l1 w op (kn y1) (kn y4) hxv.at_ hxv.len _ _ rfl hF
  · exact dcmp1_any w op ho hxv hyv (by omega) ky

end Go.Proofs.YtoabgmpcdnikeaaGreatDoor
