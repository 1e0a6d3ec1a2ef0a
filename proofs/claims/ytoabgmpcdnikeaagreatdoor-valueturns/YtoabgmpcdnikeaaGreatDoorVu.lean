/- How many arguments a function has; Call. Printed by tools/gen14_call.py. -/
import Derived.Test.YtoabgmpcdnikeaaGreatDoorVs
namespace Go.Proofs.YtoabgmpcdnikeaaGreatDoor
open Go.RowKit
set_option linter.unusedVariables false

def Fn0 (nm : ByteArray) : Prop := nm = ⟨#[116, 114, 117, 101]⟩ ∨ nm = ⟨#[102, 97, 108, 115, 101]⟩ ∨ nm = ⟨#[112, 111, 115, 105, 116, 105, 111, 110]⟩ ∨ nm = ⟨#[108, 97, 115, 116]⟩ ∨ nm = ⟨#[110, 97, 109, 101]⟩
def Fn1 (nm : ByteArray) : Prop := nm = ⟨#[110, 111, 116]⟩ ∨ nm = ⟨#[115, 116, 114, 105, 110, 103]⟩ ∨ nm = ⟨#[110, 117, 109, 98, 101, 114]⟩ ∨ nm = ⟨#[99, 111, 117, 110, 116]⟩ ∨ nm = ⟨#[115, 117, 109]⟩ ∨ nm = ⟨#[108, 101, 110, 103, 116, 104]⟩
def Fn2 (nm : ByteArray) : Prop := nm = ⟨#[99, 111, 110, 116, 97, 105, 110, 115]⟩ ∨ nm = ⟨#[115, 116, 97, 114, 116, 115]⟩
set_option maxRecDepth 100000 in
theorem args0 (w : World) (nm : ByteArray) (h : Fn0 nm) : Calls Tryz.prog 47 #[.string nm] w fun e w' => e = .returned (.tuple #[.int .i64 0, .bool true]) ∧ w' = w := by
  rcases h with rfl | rfl | rfl | rfl | rfl <;> (go_enter Tryz.func47, Tryz.ntmps47; go_wp2; go_ret2; exact ⟨rfl, rfl⟩)
set_option maxRecDepth 100000 in
theorem args1 (w : World) (nm : ByteArray) (h : Fn1 nm) : Calls Tryz.prog 47 #[.string nm] w fun e w' => e = .returned (.tuple #[.int .i64 1, .bool true]) ∧ w' = w := by
  rcases h with rfl | rfl | rfl | rfl | rfl | rfl <;> (go_enter Tryz.func47, Tryz.ntmps47; go_wp2; go_ret2; exact ⟨rfl, rfl⟩)
set_option maxRecDepth 100000 in
theorem args2 (w : World) (nm : ByteArray) (h : Fn2 nm) : Calls Tryz.prog 47 #[.string nm] w fun e w' => e = .returned (.tuple #[.int .i64 2, .bool true]) ∧ w' = w := by
  rcases h with rfl | rfl <;> (go_enter Tryz.func47, Tryz.ntmps47; go_wp2; go_ret2; exact ⟨rfl, rfl⟩)
set_option maxRecDepth 100000 in
theorem argsno (w : World) (nm : ByteArray) (h0 : ¬ Fn0 nm) (h1 : ¬ Fn1 nm) (h2 : ¬ Fn2 nm) : Calls Tryz.prog 47 #[.string nm] w fun e w' => e = .returned (.tuple #[.int .i64 0, .bool false]) ∧ w' = w := by
  have q0 : (nm.toList == [116, 114, 117, 101]) = false := ba_ne (c := #[116, 114, 117, 101]) (fun e => h0 (.inl e))
  have q1 : (nm.toList == [102, 97, 108, 115, 101]) = false := ba_ne (c := #[102, 97, 108, 115, 101]) (fun e => h0 (.inr (.inl e)))
  have q2 : (nm.toList == [112, 111, 115, 105, 116, 105, 111, 110]) = false := ba_ne (c := #[112, 111, 115, 105, 116, 105, 111, 110]) (fun e => h0 (.inr (.inr (.inl e))))
  have q3 : (nm.toList == [108, 97, 115, 116]) = false := ba_ne (c := #[108, 97, 115, 116]) (fun e => h0 (.inr (.inr (.inr (.inl e)))))
  have q4 : (nm.toList == [110, 97, 109, 101]) = false := ba_ne (c := #[110, 97, 109, 101]) (fun e => h0 (.inr (.inr (.inr (.inr (e))))))
  have q5 : (nm.toList == [110, 111, 116]) = false := ba_ne (c := #[110, 111, 116]) (fun e => h1 (.inl e))
  have q6 : (nm.toList == [115, 116, 114, 105, 110, 103]) = false := ba_ne (c := #[115, 116, 114, 105, 110, 103]) (fun e => h1 (.inr (.inl e)))
  have q7 : (nm.toList == [110, 117, 109, 98, 101, 114]) = false := ba_ne (c := #[110, 117, 109, 98, 101, 114]) (fun e => h1 (.inr (.inr (.inl e))))
  have q8 : (nm.toList == [99, 111, 117, 110, 116]) = false := ba_ne (c := #[99, 111, 117, 110, 116]) (fun e => h1 (.inr (.inr (.inr (.inl e)))))
  have q9 : (nm.toList == [115, 117, 109]) = false := ba_ne (c := #[115, 117, 109]) (fun e => h1 (.inr (.inr (.inr (.inr (.inl e))))))
  have q10 : (nm.toList == [108, 101, 110, 103, 116, 104]) = false := ba_ne (c := #[108, 101, 110, 103, 116, 104]) (fun e => h1 (.inr (.inr (.inr (.inr (.inr (e)))))))
  have q11 : (nm.toList == [99, 111, 110, 116, 97, 105, 110, 115]) = false := ba_ne (c := #[99, 111, 110, 116, 97, 105, 110, 115]) (fun e => h2 (.inl e))
  have q12 : (nm.toList == [115, 116, 97, 114, 116, 115]) = false := ba_ne (c := #[115, 116, 97, 114, 116, 115]) (fun e => h2 (.inr (e)))
  clear h0 h1 h2
  go_enter Tryz.func47, Tryz.ntmps47
  go_wp2
  go_ret2
  exact ⟨rfl, rfl⟩

set_option maxRecDepth 100000 in
set_option maxHeartbeats 4000000 in
theorem call_func (w : World) (name : ByteArray) {ps la : Int} {nm tx : ByteArray} {ta : Option Addr} {tl tc : Nat} {aa : Option Addr} {ac : Nat} {A : List Vl} (N : Int) (p : Bool) (hargs : ∀ u, Calls Tryz.prog 47 #[.string name] u fun e w' => e = .returned (.tuple #[.int .i64 N, .bool p]) ∧ w' = u) (hbad : p = false ∨ (p = true ∧ (A.length : Int) ≠ N)) :
    Calls Tryz.prog 20 #[.string name, .agg #[.int .i64 ps, .int .i64 la, .string nm, .string tx, .slice ta tl tc], .slice aa A.length ac] w fun e w' => e = .returned (.tuple #[mkV 0 false 0 false ⟨#[]⟩, .int .i64 140]) ∧ Below w.heap.size w w' := by
  obtain ⟨W, hW⟩ : ∃ W, ((w.alloc (.cells #[.int .i64 ps, .int .i64 la, .string nm, .string tx, .slice ta tl tc] 45)).alloc (.cells #[.int .i64 0, .bool false, .int .i64 0, .bool false, .string ⟨#[]⟩, .slice none 0 0] 24)) = W := ⟨_, rfl⟩
  have hbW : Below w.heap.size w W := by rw [← hW]; exact below2 _ _ _
  have hx : IsCells W w.heap.size #[.int .i64 ps, .int .i64 la, .string nm, .string tx, .slice ta tl tc] := by rw [← hW]; exact (isCells_new w _ 45).alloc _
  have hy : IsCells W (w.heap.size + 1) #[.int .i64 0, .bool false, .int .i64 0, .bool false, .string ⟨#[]⟩, .slice none 0 0] := by
    have := isCells_new (w.alloc (.cells #[.int .i64 ps, .int .i64 la, .string nm, .string tx, .slice ta tl tc] 45)) #[.int .i64 0, .bool false, .int .i64 0, .bool false, .string ⟨#[]⟩, .slice none 0 0] 24
    rw [hW] at this
    simpa using this
  have HW : Hid (((w.alloc (.cells #[.int .i64 ps, .int .i64 la, .string nm, .string tx, .slice ta tl tc] 45)).alloc (.cells #[.int .i64 0, .bool false, .int .i64 0, .bool false, .string ⟨#[]⟩, .slice none 0 0] 24)) = W ∧ Below w.heap.size w W ∧ IsCells W w.heap.size #[.int .i64 ps, .int .i64 la, .string nm, .string tx, .slice ta tl tc] ∧ IsCells W (w.heap.size + 1) #[.int .i64 0, .bool false, .int .i64 0, .bool false, .string ⟨#[]⟩, .slice none 0 0]) := ⟨hW, hbW, hx, hy⟩
  have ha := hargs W
  obtain ⟨z0, z1, z2, z3, z4, z5⟩ := six_cells hy
  obtain ⟨f0, f1, f2, f3, f4, f5⟩ := six_frozen hy
  clear hW hbW hx hy hargs
  rcases hbad with rfl | ⟨rfl, hne⟩
  · go_enter Tryz.func20, Tryz.ntmps20
    go_wp2_with fail
    rw [HW.out.1]
    with_reducible refine ha.mono ?_
    rintro e W ⟨rfl, rfl⟩
    go_wp2
    obtain ⟨y0, y1, y2, y3, y4, y5⟩ := six_cells (set6 HW.out.2.2.2 (.int .i64 0) (.bool false) (.int .i64 0) (.bool false) (.string ⟨#[]⟩) (.slice none 0 0))
    exact bodyPost_ret (v := .tuple #[mkV 0 false 0 false ⟨#[]⟩, .int .i64 140]) (by simp [results, Tryz.results20, go_sem, y0, y1, y2, y3, y4, y5]) rfl ⟨rfl, below6 HW.out.2.1 (Nat.le_succ _) _ _ _ _ _ _⟩
  · have l1 : ((A.length : Int) != N) = true := by simpa using hne
    have l2 : ((A.length : Int) == N) = false := by simpa using hne
    clear hne
    generalize A.length = m at *
    go_enter Tryz.func20, Tryz.ntmps20
    go_wp2_with fail
    rw [HW.out.1]
    with_reducible refine ha.mono ?_
    rintro e W ⟨rfl, rfl⟩
    go_wp2
    obtain ⟨y0, y1, y2, y3, y4, y5⟩ := six_cells (set6 HW.out.2.2.2 (.int .i64 0) (.bool false) (.int .i64 0) (.bool false) (.string ⟨#[]⟩) (.slice none 0 0))
    exact bodyPost_ret (v := .tuple #[mkV 0 false 0 false ⟨#[]⟩, .int .i64 140]) (by simp [results, Tryz.results20, go_sem, y0, y1, y2, y3, y4, y5]) rfl ⟨rfl, below6 HW.out.2.1 (Nat.le_succ _) _ _ _ _ _ _⟩

set_option maxRecDepth 100000 in
set_option maxHeartbeats 4000000 in
theorem call_ok (w : World) (name : ByteArray) {ps la : Int} {nm tx : ByteArray} {ta : Option Addr} {tl tc : Nat} {aa : Option Addr} {ac : Nat} {A : List Vl} (hA : AsAt w aa A) (la2 : A.length ≤ 4) (N : Nat) (hN : A.length = N) (hargs : ∀ u, Calls Tryz.prog 47 #[.string name] u fun e w' => e = .returned (.tuple #[.int .i64 (N : Int), .bool true]) ∧ w' = u) (hcan : A.all Vl.can = true) {k n : Int} {b no : Bool} {t : ByteArray} (hcl : ∀ u, Below w.heap.size w u → Calls Tryz.prog 48 #[.string name, .agg #[.int .i64 ps, .int .i64 la, .string nm, .string tx, .slice ta tl tc], .slice aa A.length ac] u fun e w' => e = .returned (mkV k b n no t) ∧ Below u.heap.size u w') :
    Calls Tryz.prog 20 #[.string name, .agg #[.int .i64 ps, .int .i64 la, .string nm, .string tx, .slice ta tl tc], .slice aa A.length ac] w fun e w' => e = .returned (.tuple #[mkV k b n no t, .int .i64 0]) ∧ Below w.heap.size w w' := by
  obtain ⟨W, hW⟩ : ∃ W, ((w.alloc (.cells #[.int .i64 ps, .int .i64 la, .string nm, .string tx, .slice ta tl tc] 45)).alloc (.cells #[.int .i64 0, .bool false, .int .i64 0, .bool false, .string ⟨#[]⟩, .slice none 0 0] 24)) = W := ⟨_, rfl⟩
  have hbW : Below w.heap.size w W := by rw [← hW]; exact below2 _ _ _
  have hx : IsCells W w.heap.size #[.int .i64 ps, .int .i64 la, .string nm, .string tx, .slice ta tl tc] := by rw [← hW]; exact (isCells_new w _ 45).alloc _
  have hy : IsCells W (w.heap.size + 1) #[.int .i64 0, .bool false, .int .i64 0, .bool false, .string ⟨#[]⟩, .slice none 0 0] := by
    have := isCells_new (w.alloc (.cells #[.int .i64 ps, .int .i64 la, .string nm, .string tx, .slice ta tl tc] 45)) #[.int .i64 0, .bool false, .int .i64 0, .bool false, .string ⟨#[]⟩, .slice none 0 0] 24
    rw [hW] at this
    simpa using this
  have HW : Hid (((w.alloc (.cells #[.int .i64 ps, .int .i64 la, .string nm, .string tx, .slice ta tl tc] 45)).alloc (.cells #[.int .i64 0, .bool false, .int .i64 0, .bool false, .string ⟨#[]⟩, .slice none 0 0] 24)) = W ∧ Below w.heap.size w W ∧ IsCells W w.heap.size #[.int .i64 ps, .int .i64 la, .string nm, .string tx, .slice ta tl tc] ∧ IsCells W (w.heap.size + 1) #[.int .i64 0, .bool false, .int .i64 0, .bool false, .string ⟨#[]⟩, .slice none 0 0]) := ⟨hW, hbW, hx, hy⟩
  have ha := hargs W
  have l1 : ((A.length : Int) != (N : Int)) = false := by simp [hN]
  have l2 : ((A.length : Int) == (N : Int)) = true := by simp [hN]
  have l3 : (A.length == N) = true := by simp [hN]
  have l4 : (A.length != N) = false := by simp [hN]
  have HH : Hid (AsAt w aa A ∧ A.all Vl.can = true) := ⟨hA, hcan⟩
  have HCL : Hid (∀ u, Below w.heap.size w u → Calls Tryz.prog 48 #[.string name, .agg #[.int .i64 ps, .int .i64 la, .string nm, .string tx, .slice ta tl tc], .slice aa A.length ac] u fun e w' => e = .returned (mkV k b n no t) ∧ Below u.heap.size u w') := hcl
  clear hcl
  clear hW hbW hx hy hargs hA hcan hN
  go_enter Tryz.func20, Tryz.ntmps20
  go_wp2_with fail
  rw [HW.out.1]
  with_reducible refine ha.mono ?_
  rintro e W ⟨rfl, rfl⟩
  go_wp2
  go_loopw [11, 28] (fun _ u wr => ∃ i : Nat, i ≤ A.length ∧ u = .int .i64 (i : Int) ∧ Hid (Below w.heap.size w wr ∧ IsCells wr w.heap.size #[.int .i64 ps, .int .i64 la, .string nm, .string tx, .slice ta tl tc] ∧ IsCells wr (w.heap.size + 1) #[.int .i64 0, .bool false, .int .i64 0, .bool false, .string ⟨#[]⟩, .slice none 0 0] ∧ (A.take i).all Vl.can = true)) (fun _ u _ => A.length - (intOf u).toNat)
  case atStart => exact ⟨0, by omega, rfl, HW.out.2.1, HW.out.2.2.1, HW.out.2.2.2, rfl⟩
  case round =>
    obtain ⟨i, hi, rfl, HK⟩ := hrel
    by_cases hlt : i < A.length
    · have hltz : (i : Int) < (A.length : Int) := by omega
      obtain ⟨v, hv⟩ : ∃ v, A[i]? = some v := ⟨_, List.getElem?_eq_getElem hlt⟩
      obtain ⟨xa, xc, b9, o9, hao⟩ := (HH.out.1.bel HK.out.1) i v hv
      obtain ⟨rfl, lt0, c0, c1, c2, c3, c4, c5, ok0⟩ := hao
      have HT : Hid ((A.take (i + 1)).all Vl.can = v.can) := by show _ = _; rw [List.take_add_one, hv, List.all_append, HK.out.2.2.2]; simp
      have HM : Hid (v ∈ A) := List.mem_of_getElem? hv
      clear hv
      obtain ⟨xk, xb, xn, xo, xt, xL⟩ := v
      simp only at c0 c1 c2 c3 c4 c5
      obtain ⟨W2, hW2⟩ : ∃ W2, (wr.alloc (.cells #[.int .i64 xk, .bool xb, .int .i64 xn, .bool xo, .string xt, .slice xa xL.length xc] 24)) = W2 := ⟨_, rfl⟩
      have hb2 : Below wr.heap.size wr W2 := by rw [← hW2]; exact below1 _ _
      have HW2 : Hid ((wr.alloc (.cells #[.int .i64 xk, .bool xb, .int .i64 xn, .bool xo, .string xt, .slice xa xL.length xc] 24)) = W2 ∧ Below w.heap.size w W2 ∧ IsCells W2 w.heap.size #[.int .i64 ps, .int .i64 la, .string nm, .string tx, .slice ta tl tc] ∧ IsCells W2 (w.heap.size + 1) #[.int .i64 0, .bool false, .int .i64 0, .bool false, .string ⟨#[]⟩, .slice none 0 0]) := ⟨hW2, HK.out.1.trans (hb2.mono HK.out.1.size), HK.out.2.1.of_block (hb2.block _ HK.out.2.1.lt), HK.out.2.2.1.of_block (hb2.block _ HK.out.2.2.1.lt)⟩
      have hc := can_any W2 xk xn xb xo xt (c := xc) (ok0.bel hb2).at_ ok0.len
      obtain ⟨q, HQ⟩ : ∃ q, Hid (canV xk (Tx xt) (xL.map Tx) = q) := ⟨_, rfl⟩
      rw [HQ.out] at hc
      have HT2 : Hid ((A.take (i + 1)).all Vl.can = q) := HT.out.trans HQ.out
      have HM2 : Hid (q = false → A.all Vl.can = false) := fun h => by rw [List.all_eq_false]; exact ⟨_, HM.out, by simpa using (show Vl.can ⟨xk, xb, xn, xo, xt, xL⟩ = false from HQ.out.trans h)⟩
      clear hW2 hb2 ok0 HT HM HQ
      go_wp2_with fail
      rw [HW2.out.1]
      with_reducible refine hc.mono ?_
      rintro e w3 ⟨rfl, hb⟩
      have HB : Hid (Below w.heap.size w w3 ∧ IsCells w3 w.heap.size #[.int .i64 ps, .int .i64 la, .string nm, .string tx, .slice ta tl tc] ∧ IsCells w3 (w.heap.size + 1) #[.int .i64 0, .bool false, .int .i64 0, .bool false, .string ⟨#[]⟩, .slice none 0 0]) := ⟨HW2.out.2.1.trans (hb.mono HW2.out.2.1.size), HW2.out.2.2.1.of_block (hb.block _ HW2.out.2.2.1.lt), HW2.out.2.2.2.of_block (hb.block _ HW2.out.2.2.2.lt)⟩
      clear hb hc c0 c1 c2 c3 c4 c5
      cases q with
      | true =>
        go_wp2
        go_roundw
        case rel => exact ⟨i + 1, by omega, by go_num, HB.out.1, HB.out.2.1, HB.out.2.2, HT2.out⟩
        case measure => simp [intOf]; omega
      | false =>
        exact absurd (HM2.out rfl) (by rw [HH.out.2]; simp)
    · have hltz : ¬ (i : Int) < (A.length : Int) := by omega
      obtain ⟨e0, e1, e2, e3, e4⟩ : wr.cell? ⟨w.heap.size, 0, none⟩ = some (.int .i64 ps) ∧ wr.cell? ⟨w.heap.size, 1, none⟩ = some (.int .i64 la) ∧ wr.cell? ⟨w.heap.size, 2, none⟩ = some (.string nm) ∧ wr.cell? ⟨w.heap.size, 3, none⟩ = some (.string tx) ∧ wr.cell? ⟨w.heap.size, 4, none⟩ = some (.slice ta tl tc) := ⟨HK.out.2.1.cell 0, HK.out.2.1.cell 1, HK.out.2.1.cell 2, HK.out.2.1.cell 3, HK.out.2.1.cell 4⟩
      have hc := HCL.out wr HK.out.1
      go_wp2_with fail
      with_reducible refine hc.mono ?_
      rintro e w3 ⟨rfl, hb⟩
      have HB : Hid (Below w.heap.size w w3 ∧ IsCells w3 (w.heap.size + 1) #[.int .i64 0, .bool false, .int .i64 0, .bool false, .string ⟨#[]⟩, .slice none 0 0]) := ⟨HK.out.1.trans (hb.mono HK.out.1.size), HK.out.2.2.1.of_block (hb.block _ HK.out.2.2.1.lt)⟩
      clear hb hc e0 e1 e2 e3 e4
      obtain ⟨z0, z1, z2, z3, z4, z5⟩ := six_cells HB.out.2
      obtain ⟨f0, f1, f2, f3, f4, f5⟩ := six_frozen HB.out.2
      go_wp2
      obtain ⟨y0, y1, y2, y3, y4, y5⟩ := six_cells (set6 HB.out.2 (.int .i64 k) (.bool b) (.int .i64 n) (.bool no) (.string t) (.slice none 0 0))
      exact bodyPost_ret (v := .tuple #[mkV k b n no t, .int .i64 0]) (by simp [results, Tryz.results20, go_sem, y0, y1, y2, y3, y4, y5]) rfl ⟨rfl, below6 HB.out.1 (Nat.le_succ _) _ _ _ _ _ _⟩

set_option maxRecDepth 100000 in
set_option maxHeartbeats 4000000 in
theorem call_bad (w : World) (name : ByteArray) {ps la : Int} {nm tx : ByteArray} {ta : Option Addr} {tl tc : Nat} {aa : Option Addr} {ac : Nat} {A : List Vl} (hA : AsAt w aa A) (la2 : A.length ≤ 4) (N : Nat) (hN : A.length = N) (hargs : ∀ u, Calls Tryz.prog 47 #[.string name] u fun e w' => e = .returned (.tuple #[.int .i64 (N : Int), .bool true]) ∧ w' = u) (hcan : A.all Vl.can = false) :
    Calls Tryz.prog 20 #[.string name, .agg #[.int .i64 ps, .int .i64 la, .string nm, .string tx, .slice ta tl tc], .slice aa A.length ac] w fun e w' => e = .returned (.tuple #[mkV 0 false 0 false ⟨#[]⟩, .int .i64 141]) ∧ Below w.heap.size w w' := by
  obtain ⟨W, hW⟩ : ∃ W, ((w.alloc (.cells #[.int .i64 ps, .int .i64 la, .string nm, .string tx, .slice ta tl tc] 45)).alloc (.cells #[.int .i64 0, .bool false, .int .i64 0, .bool false, .string ⟨#[]⟩, .slice none 0 0] 24)) = W := ⟨_, rfl⟩
  have hbW : Below w.heap.size w W := by rw [← hW]; exact below2 _ _ _
  have hx : IsCells W w.heap.size #[.int .i64 ps, .int .i64 la, .string nm, .string tx, .slice ta tl tc] := by rw [← hW]; exact (isCells_new w _ 45).alloc _
  have hy : IsCells W (w.heap.size + 1) #[.int .i64 0, .bool false, .int .i64 0, .bool false, .string ⟨#[]⟩, .slice none 0 0] := by
    have := isCells_new (w.alloc (.cells #[.int .i64 ps, .int .i64 la, .string nm, .string tx, .slice ta tl tc] 45)) #[.int .i64 0, .bool false, .int .i64 0, .bool false, .string ⟨#[]⟩, .slice none 0 0] 24
    rw [hW] at this
    simpa using this
  have HW : Hid (((w.alloc (.cells #[.int .i64 ps, .int .i64 la, .string nm, .string tx, .slice ta tl tc] 45)).alloc (.cells #[.int .i64 0, .bool false, .int .i64 0, .bool false, .string ⟨#[]⟩, .slice none 0 0] 24)) = W ∧ Below w.heap.size w W ∧ IsCells W w.heap.size #[.int .i64 ps, .int .i64 la, .string nm, .string tx, .slice ta tl tc] ∧ IsCells W (w.heap.size + 1) #[.int .i64 0, .bool false, .int .i64 0, .bool false, .string ⟨#[]⟩, .slice none 0 0]) := ⟨hW, hbW, hx, hy⟩
  have ha := hargs W
  have l1 : ((A.length : Int) != (N : Int)) = false := by simp [hN]
  have l2 : ((A.length : Int) == (N : Int)) = true := by simp [hN]
  have l3 : (A.length == N) = true := by simp [hN]
  have l4 : (A.length != N) = false := by simp [hN]
  have HH : Hid (AsAt w aa A ∧ A.all Vl.can = false) := ⟨hA, hcan⟩
  clear hW hbW hx hy hargs hA hcan hN
  go_enter Tryz.func20, Tryz.ntmps20
  go_wp2_with fail
  rw [HW.out.1]
  with_reducible refine ha.mono ?_
  rintro e W ⟨rfl, rfl⟩
  go_wp2
  go_loopw [11, 28] (fun _ u wr => ∃ i : Nat, i ≤ A.length ∧ u = .int .i64 (i : Int) ∧ Hid (Below w.heap.size w wr ∧ IsCells wr w.heap.size #[.int .i64 ps, .int .i64 la, .string nm, .string tx, .slice ta tl tc] ∧ IsCells wr (w.heap.size + 1) #[.int .i64 0, .bool false, .int .i64 0, .bool false, .string ⟨#[]⟩, .slice none 0 0] ∧ (A.take i).all Vl.can = true)) (fun _ u _ => A.length - (intOf u).toNat)
  case atStart => exact ⟨0, by omega, rfl, HW.out.2.1, HW.out.2.2.1, HW.out.2.2.2, rfl⟩
  case round =>
    obtain ⟨i, hi, rfl, HK⟩ := hrel
    by_cases hlt : i < A.length
    · have hltz : (i : Int) < (A.length : Int) := by omega
      obtain ⟨v, hv⟩ : ∃ v, A[i]? = some v := ⟨_, List.getElem?_eq_getElem hlt⟩
      obtain ⟨xa, xc, b9, o9, hao⟩ := (HH.out.1.bel HK.out.1) i v hv
      obtain ⟨rfl, lt0, c0, c1, c2, c3, c4, c5, ok0⟩ := hao
      have HT : Hid ((A.take (i + 1)).all Vl.can = v.can) := by show _ = _; rw [List.take_add_one, hv, List.all_append, HK.out.2.2.2]; simp
      have HM : Hid (v ∈ A) := List.mem_of_getElem? hv
      clear hv
      obtain ⟨xk, xb, xn, xo, xt, xL⟩ := v
      simp only at c0 c1 c2 c3 c4 c5
      obtain ⟨W2, hW2⟩ : ∃ W2, (wr.alloc (.cells #[.int .i64 xk, .bool xb, .int .i64 xn, .bool xo, .string xt, .slice xa xL.length xc] 24)) = W2 := ⟨_, rfl⟩
      have hb2 : Below wr.heap.size wr W2 := by rw [← hW2]; exact below1 _ _
      have HW2 : Hid ((wr.alloc (.cells #[.int .i64 xk, .bool xb, .int .i64 xn, .bool xo, .string xt, .slice xa xL.length xc] 24)) = W2 ∧ Below w.heap.size w W2 ∧ IsCells W2 w.heap.size #[.int .i64 ps, .int .i64 la, .string nm, .string tx, .slice ta tl tc] ∧ IsCells W2 (w.heap.size + 1) #[.int .i64 0, .bool false, .int .i64 0, .bool false, .string ⟨#[]⟩, .slice none 0 0]) := ⟨hW2, HK.out.1.trans (hb2.mono HK.out.1.size), HK.out.2.1.of_block (hb2.block _ HK.out.2.1.lt), HK.out.2.2.1.of_block (hb2.block _ HK.out.2.2.1.lt)⟩
      have hc := can_any W2 xk xn xb xo xt (c := xc) (ok0.bel hb2).at_ ok0.len
      obtain ⟨q, HQ⟩ : ∃ q, Hid (canV xk (Tx xt) (xL.map Tx) = q) := ⟨_, rfl⟩
      rw [HQ.out] at hc
      have HT2 : Hid ((A.take (i + 1)).all Vl.can = q) := HT.out.trans HQ.out
      have HM2 : Hid (q = false → A.all Vl.can = false) := fun h => by rw [List.all_eq_false]; exact ⟨_, HM.out, by simpa using (show Vl.can ⟨xk, xb, xn, xo, xt, xL⟩ = false from HQ.out.trans h)⟩
      clear hW2 hb2 ok0 HT HM HQ
      go_wp2_with fail
      rw [HW2.out.1]
      with_reducible refine hc.mono ?_
      rintro e w3 ⟨rfl, hb⟩
      have HB : Hid (Below w.heap.size w w3 ∧ IsCells w3 w.heap.size #[.int .i64 ps, .int .i64 la, .string nm, .string tx, .slice ta tl tc] ∧ IsCells w3 (w.heap.size + 1) #[.int .i64 0, .bool false, .int .i64 0, .bool false, .string ⟨#[]⟩, .slice none 0 0]) := ⟨HW2.out.2.1.trans (hb.mono HW2.out.2.1.size), HW2.out.2.2.1.of_block (hb.block _ HW2.out.2.2.1.lt), HW2.out.2.2.2.of_block (hb.block _ HW2.out.2.2.2.lt)⟩
      clear hb hc c0 c1 c2 c3 c4 c5
      cases q with
      | true =>
        go_wp2
        go_roundw
        case rel => exact ⟨i + 1, by omega, by go_num, HB.out.1, HB.out.2.1, HB.out.2.2, HT2.out⟩
        case measure => simp [intOf]; omega
      | false =>
        obtain ⟨z0, z1, z2, z3, z4, z5⟩ := six_cells HB.out.2.2
        obtain ⟨f0, f1, f2, f3, f4, f5⟩ := six_frozen HB.out.2.2
        go_wp2
        obtain ⟨y0, y1, y2, y3, y4, y5⟩ := six_cells (set6 HB.out.2.2 (.int .i64 0) (.bool false) (.int .i64 0) (.bool false) (.string ⟨#[]⟩) (.slice none 0 0))
        exact bodyPost_ret (v := .tuple #[mkV 0 false 0 false ⟨#[]⟩, .int .i64 141]) (by simp [results, Tryz.results20, go_sem, y0, y1, y2, y3, y4, y5]) rfl ⟨rfl, below6 HB.out.1 (Nat.le_succ _) _ _ _ _ _ _⟩
    · have hltz : ¬ (i : Int) < (A.length : Int) := by omega
      have h5 := HK.out.2.2.2
      rw [List.take_of_length_le (by omega), HH.out.2] at h5
      cases h5

end Go.Proofs.YtoabgmpcdnikeaaGreatDoor
