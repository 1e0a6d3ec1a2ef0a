/- What must come, whatever else is asked: the law's lives. -/
import Derived.Test.YtoabgmpcdnikeabGreatDoorVu
namespace Go.Proofs.YtoabgmpcdnikeabGreatDoor
open Go.RowKit
set_option linter.unusedVariables false

theorem vok_made (w : World) (k n : Int) (b no : Bool) (t : ByteArray) (h0 : -9223372036854775808 ≤ n) (h1 : n ≤ 9223372036854775807) (ht : t.size ≤ 281474976710656) : VOk w ⟨k, b, n, no, t, []⟩ none :=
  ⟨fun i s h => by simp at h, by simp, h0, h1, ht, fun s h => by simp at h⟩
theorem vok_two {w : World} {B : Nat} {s t : ByteArray} (h : IsCells w B #[.string s, .string t]) (hs : s.size ≤ 281474976710656) (ht : t.size ≤ 281474976710656) : VOk w ⟨4, false, 0, false, ⟨#[]⟩, [s, t]⟩ (some ⟨B, 0, none⟩) :=
  ⟨fun i x hx => by
    match i, hx with
    | 0, hx =>
      simp at hx
      subst hx
      exact ⟨B, 0, rfl, h.lt, by simpa using h.cell 0⟩
    | 1, hx =>
      simp at hx
      subst hx
      exact ⟨B, 0, rfl, h.lt, by simpa using h.cell 1⟩
    | j + 2, hx => simp at hx, by simp, (by decide : (-9223372036854775808 : Int) ≤ 0), (by decide : (0 : Int) ≤ 9223372036854775807), (by decide : (⟨#[]⟩ : ByteArray).size ≤ 281474976710656), fun x hx => by
    simp at hx
    rcases hx with rfl | rfl
    · exact hs
    · exact ht⟩

theorem lv1 : cmpR ⟨#[60]⟩ ⟨3, false, 0, false, ⟨#[49, 48]⟩, []⟩ ⟨3, false, 0, false, ⟨#[57]⟩, []⟩ = (false, 0) := by kernel_rfl
theorem lv2 : cmpR ⟨#[61]⟩ ⟨4, false, 0, false, ⟨#[]⟩, [⟨#[49]⟩, ⟨#[120]⟩]⟩ ⟨2, false, 1, false, ⟨#[]⟩, []⟩ = (true, 0) := by kernel_rfl
theorem lv3 : cmpR ⟨#[33, 61]⟩ ⟨4, false, 0, false, ⟨#[]⟩, [⟨#[49]⟩, ⟨#[120]⟩]⟩ ⟨2, false, 1, false, ⟨#[]⟩, []⟩ = (true, 0) := by kernel_rfl
theorem lv4 : sumV ⟨4, false, 0, false, ⟨#[]⟩, [⟨#[49]⟩, ⟨#[50]⟩]⟩ = (3, true) := by kernel_rfl
theorem lv5 : [(⟨4, false, 0, false, ⟨#[]⟩, [⟨#[49]⟩, ⟨#[50]⟩]⟩ : Vl)].all Vl.can = true := by kernel_rfl
theorem lv6 : nmV 3 false 0 false ⟨#[32, 45, 55, 10]⟩ [] = (-7, true) := by kernel_rfl
theorem lv7 : canV 3 (Tx ⟨#[32, 45, 55, 10]⟩) (([] : List ByteArray).map Tx) = true := by kernel_rfl


set_option maxRecDepth 100000 in
set_option maxHeartbeats 4000000 in
theorem lives_any (w : World) (G : Gl w) : Calls Tryz.prog 5 #[] w fun e w' => e = .returned (.bool true) ∧ Below w.heap.size w w' := by
  have HG : Hid (∀ u, Below w.heap.size w u → Gl u) := fun u hu => G.bel hu
  have Hw : Hid (Below w.heap.size w w) := Below.refl _ _
  clear G
  go_enter Tryz.func5, Tryz.ntmps5
  go_wp2_with fail
  with_reducible refine (mktext_any w ⟨#[49, 48]⟩).mono ?_
  rintro e w1 ⟨rfl, hb⟩
  have Hw1 : Hid (Below w.heap.size w w1) := Hw.out.trans (hb.mono Hw.out.size)
  clear hb
  go_wp2_with fail
  with_reducible refine (mktext_any w1 ⟨#[57]⟩).mono ?_
  rintro e w2 ⟨rfl, hb⟩
  have Hw2 : Hid (Below w.heap.size w w2) := Hw1.out.trans (hb.mono Hw1.out.size)
  clear hb
  have hc := compare_any w2 ⟨#[60]⟩ (xc := 0) (yc := 0) (vok_made w2 3 0 false false ⟨#[49, 48]⟩ (by decide) (by decide) (by decide)) (vok_made w2 3 0 false false ⟨#[57]⟩ (by decide) (by decide) (by decide)) (HG.out w2 Hw2.out) false 0 lv1
  simp only [List.length_nil] at hc
  go_wp2_with fail
  with_reducible refine (hc).mono ?_
  rintro e w3 ⟨rfl, hb⟩
  have Hw3 : Hid (Below w.heap.size w w3) := Hw2.out.trans (hb.mono Hw2.out.size)
  clear hb hc
  obtain ⟨x3, hx3⟩ : ∃ x3, (w3.alloc (.cells #[.string ⟨#[49]⟩, .string ⟨#[120]⟩] 9)) = x3 := ⟨_, rfl⟩
  have Hx3 : Hid (Below w.heap.size w x3) := by show Below _ _ _; rw [← hx3]; exact Hw3.out.alloc Hw3.out.size _
  have Cx3 : Hid ((w3.alloc (.cells #[.string ⟨#[49]⟩, .string ⟨#[120]⟩] 9)) = x3 ∧ IsCells x3 w3.heap.size #[.string ⟨#[49]⟩, .string ⟨#[120]⟩]) := ⟨hx3, by rw [← hx3]; exact isCells_new _ _ _⟩
  clear hx3
  go_wp2_with fail
  rw [Cx3.out.1]
  with_reducible refine (mknodes_any x3 (some ⟨w3.heap.size, 0, none⟩) 2 2).mono ?_
  rintro e w4 ⟨rfl, hb⟩
  have Hw4 : Hid (Below w.heap.size w w4) := Hx3.out.trans (hb.mono Hx3.out.size)
  have Cw4 : Hid (IsCells w4 w3.heap.size #[.string ⟨#[49]⟩, .string ⟨#[120]⟩]) := Cx3.out.2.of_block (hb.block _ Cx3.out.2.lt)
  clear hb
  go_wp2_with fail
  with_reducible refine (mknum_any w4 1).mono ?_
  rintro e w5 ⟨rfl, hb⟩
  have Hw5 : Hid (Below w.heap.size w w5) := Hw4.out.trans (hb.mono Hw4.out.size)
  have Cw5 : Hid (IsCells w5 w3.heap.size #[.string ⟨#[49]⟩, .string ⟨#[120]⟩]) := Cw4.out.of_block (hb.block _ Cw4.out.lt)
  clear hb
  have hc := compare_any w5 ⟨#[61]⟩ (xc := 2) (yc := 0) (vok_two Cw5.out (by decide) (by decide)) (vok_made w5 2 1 false false ⟨#[]⟩ (by decide) (by decide) (by decide)) (HG.out w5 Hw5.out) true 0 lv2
  simp only [List.length_cons, List.length_nil, Nat.zero_add, Nat.reduceAdd] at hc
  go_wp2_with fail
  with_reducible refine (hc).mono ?_
  rintro e w6 ⟨rfl, hb⟩
  have Hw6 : Hid (Below w.heap.size w w6) := Hw5.out.trans (hb.mono Hw5.out.size)
  clear hb hc
  obtain ⟨x6, hx6⟩ : ∃ x6, (w6.alloc (.cells #[.string ⟨#[49]⟩, .string ⟨#[120]⟩] 9)) = x6 := ⟨_, rfl⟩
  have Hx6 : Hid (Below w.heap.size w x6) := by show Below _ _ _; rw [← hx6]; exact Hw6.out.alloc Hw6.out.size _
  have Cx6 : Hid ((w6.alloc (.cells #[.string ⟨#[49]⟩, .string ⟨#[120]⟩] 9)) = x6 ∧ IsCells x6 w6.heap.size #[.string ⟨#[49]⟩, .string ⟨#[120]⟩]) := ⟨hx6, by rw [← hx6]; exact isCells_new _ _ _⟩
  clear hx6
  go_wp2_with fail
  rw [Cx6.out.1]
  with_reducible refine (mknodes_any x6 (some ⟨w6.heap.size, 0, none⟩) 2 2).mono ?_
  rintro e w7 ⟨rfl, hb⟩
  have Hw7 : Hid (Below w.heap.size w w7) := Hx6.out.trans (hb.mono Hx6.out.size)
  have Cw7 : Hid (IsCells w7 w6.heap.size #[.string ⟨#[49]⟩, .string ⟨#[120]⟩]) := Cx6.out.2.of_block (hb.block _ Cx6.out.2.lt)
  clear hb
  go_wp2_with fail
  with_reducible refine (mknum_any w7 1).mono ?_
  rintro e w8 ⟨rfl, hb⟩
  have Hw8 : Hid (Below w.heap.size w w8) := Hw7.out.trans (hb.mono Hw7.out.size)
  have Cw8 : Hid (IsCells w8 w6.heap.size #[.string ⟨#[49]⟩, .string ⟨#[120]⟩]) := Cw7.out.of_block (hb.block _ Cw7.out.lt)
  clear hb
  have hc := compare_any w8 ⟨#[33, 61]⟩ (xc := 2) (yc := 0) (vok_two Cw8.out (by decide) (by decide)) (vok_made w8 2 1 false false ⟨#[]⟩ (by decide) (by decide) (by decide)) (HG.out w8 Hw8.out) true 0 lv3
  simp only [List.length_cons, List.length_nil, Nat.zero_add, Nat.reduceAdd] at hc
  go_wp2_with fail
  with_reducible refine (hc).mono ?_
  rintro e w9 ⟨rfl, hb⟩
  have Hw9 : Hid (Below w.heap.size w w9) := Hw8.out.trans (hb.mono Hw8.out.size)
  clear hb hc
  obtain ⟨x9, hx9⟩ : ∃ x9, (w9.alloc (.cells #[.string ⟨#[49]⟩, .string ⟨#[50]⟩] 9)) = x9 := ⟨_, rfl⟩
  have Hx9 : Hid (Below w.heap.size w x9) := by show Below _ _ _; rw [← hx9]; exact Hw9.out.alloc Hw9.out.size _
  have Cx9 : Hid ((w9.alloc (.cells #[.string ⟨#[49]⟩, .string ⟨#[50]⟩] 9)) = x9 ∧ IsCells x9 w9.heap.size #[.string ⟨#[49]⟩, .string ⟨#[50]⟩]) := ⟨hx9, by rw [← hx9]; exact isCells_new _ _ _⟩
  clear hx9
  go_wp2_with fail
  rw [Cx9.out.1]
  with_reducible refine (mknodes_any x9 (some ⟨w9.heap.size, 0, none⟩) 2 2).mono ?_
  rintro e wa ⟨rfl, hb⟩
  have Hwa : Hid (Below w.heap.size w wa) := Hx9.out.trans (hb.mono Hx9.out.size)
  have Cwa : Hid (IsCells wa w9.heap.size #[.string ⟨#[49]⟩, .string ⟨#[50]⟩]) := Cx9.out.2.of_block (hb.block _ Cx9.out.2.lt)
  clear hb
  obtain ⟨xb, hxb⟩ : ∃ xb, (wa.alloc (.cells #[.int .i64 4, .bool false, .int .i64 0, .bool false, .string ⟨#[]⟩, .slice (some ⟨w9.heap.size, 0, none⟩) 2 2] 24)) = xb := ⟨_, rfl⟩
  have Hxb : Hid (Below w.heap.size w xb) := by show Below _ _ _; rw [← hxb]; exact Hwa.out.alloc Hwa.out.size _
  have Cxb : Hid ((wa.alloc (.cells #[.int .i64 4, .bool false, .int .i64 0, .bool false, .string ⟨#[]⟩, .slice (some ⟨w9.heap.size, 0, none⟩) 2 2] 24)) = xb ∧ IsCells xb wa.heap.size #[.int .i64 4, .bool false, .int .i64 0, .bool false, .string ⟨#[]⟩, .slice (some ⟨w9.heap.size, 0, none⟩) 2 2] ∧ IsCells xb w9.heap.size #[.string ⟨#[49]⟩, .string ⟨#[50]⟩]) := ⟨hxb, by rw [← hxb]; exact isCells_new _ _ _, by rw [← hxb]; exact Cwa.out.alloc _⟩
  clear hxb
  have hA0 : AOk xb (some ⟨wa.heap.size, 0, none⟩) 0 ⟨4, false, 0, false, ⟨#[]⟩, [⟨#[49]⟩, ⟨#[50]⟩]⟩ (some ⟨w9.heap.size, 0, none⟩) 2 wa.heap.size 0 :=
    ⟨rfl, Cxb.out.2.1.lt, Cxb.out.2.1.cell 0, Cxb.out.2.1.cell 1, Cxb.out.2.1.cell 2, Cxb.out.2.1.cell 3, Cxb.out.2.1.cell 4, Cxb.out.2.1.cell 5, vok_two Cxb.out.2.2 (by decide) (by decide)⟩
  have hAs : AsAt xb (some ⟨wa.heap.size, 0, none⟩) [⟨4, false, 0, false, ⟨#[]⟩, [⟨#[49]⟩, ⟨#[50]⟩]⟩] := fun i v hv => by
    match i, hv with
    | 0, hv =>
      simp only [List.getElem?_cons_zero, Option.some.injEq] at hv
      subst hv
      exact ⟨_, _, _, _, hA0⟩
    | j + 1, hv => simp at hv
  have hcall : Calls Tryz.prog 11 #[.string ⟨#[115, 117, 109]⟩, .agg #[.int .i64 0, .int .i64 0, .string ⟨#[]⟩, .string ⟨#[]⟩, .slice none 0 0], .slice (some ⟨wa.heap.size, 0, none⟩) 1 1] xb fun e w' => e = .returned (.tuple #[mkV 2 false 3 false ⟨#[]⟩, .int .i64 0]) ∧ Below xb.heap.size xb w' := by
    refine call_ok (A := [⟨4, false, 0, false, ⟨#[]⟩, [⟨#[49]⟩, ⟨#[50]⟩]⟩]) xb ⟨#[115, 117, 109]⟩ hAs (by simp) 1 rfl (fun u => args1 u _ (by simp [Fn1])) lv5 (fun u hu => ?_)
    have := called_sum u (HG.out u (Hxb.out.trans (hu.mono Hxb.out.size))) (ps := 0) (la := 0) (nm := ⟨#[]⟩) (tx := ⟨#[]⟩) (ta := none) (tl := 0) (tc := 0) (ac := 1) (hA0.bel hu) (fun _ => by simp)
    rw [lv4] at this
    exact this
  clear hA0 hAs
  go_wp2_with fail
  rw [Cxb.out.1]
  with_reducible refine hcall.mono ?_
  rintro e wc ⟨rfl, hb⟩
  have Hwc : Hid (Below w.heap.size w wc) := Hxb.out.trans (hb.mono Hxb.out.size)
  clear hb hcall
  obtain ⟨xd, hxd⟩ : ∃ xd, (wc.alloc (.cells #[.int .i64 2, .bool false, .int .i64 3, .bool false, .string ⟨#[]⟩, .slice none 0 0] 24)) = xd := ⟨_, rfl⟩
  have Hxd : Hid (Below w.heap.size w xd) := by show Below _ _ _; rw [← hxd]; exact Hwc.out.alloc Hwc.out.size _
  have Cxd : Hid ((wc.alloc (.cells #[.int .i64 2, .bool false, .int .i64 3, .bool false, .string ⟨#[]⟩, .slice none 0 0] 24)) = xd ∧ IsCells xd wc.heap.size #[.int .i64 2, .bool false, .int .i64 3, .bool false, .string ⟨#[]⟩, .slice none 0 0]) := ⟨hxd, by rw [← hxd]; exact isCells_new _ _ _⟩
  clear hxd
  go_wp2_with fail
  rw [Cxd.out.1]
  with_reducible refine (mktext_any xd ⟨#[32, 45, 55, 10]⟩).mono ?_
  rintro e we ⟨rfl, hb⟩
  have Hwe : Hid (Below w.heap.size w we ∧ IsCells we wc.heap.size #[.int .i64 2, .bool false, .int .i64 3, .bool false, .string ⟨#[]⟩, .slice none 0 0]) := ⟨Hxd.out.trans (hb.mono Hxd.out.size), Cxd.out.2.of_block (hb.block _ Cxd.out.2.lt)⟩
  clear hb
  have hn := number_call we (c := 0) (HG.out we Hwe.out.1) (vok_made we 3 0 false false ⟨#[32, 45, 55, 10]⟩ (by decide) (by decide) (by decide)) true lv7
  rw [lv6] at hn
  simp only [List.length_nil, if_true, Bool.true_and] at hn
  go_wp2_with fail
  with_reducible refine hn.mono ?_
  rintro e wf ⟨rfl, hb⟩
  have Hwf : Hid (Below w.heap.size w wf ∧ IsCells wf wc.heap.size #[.int .i64 2, .bool false, .int .i64 3, .bool false, .string ⟨#[]⟩, .slice none 0 0]) := ⟨Hwe.out.1.trans (hb.mono Hwe.out.1.size), Hwe.out.2.of_block (hb.block _ Hwe.out.2.lt)⟩
  clear hb hn
  obtain ⟨z0, z1, z2, z3, z4, z5⟩ := six_cells Hwf.out.2
  go_wp2
  go_ret
  exact ⟨rfl, Hwf.out.1⟩

end Go.Proofs.YtoabgmpcdnikeabGreatDoor
