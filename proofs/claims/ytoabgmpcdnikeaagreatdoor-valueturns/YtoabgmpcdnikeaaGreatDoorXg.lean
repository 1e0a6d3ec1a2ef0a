/- The document's Number. -/
import Derived.Test.YtoabgmpcdnikeaaGreatDoorXf
namespace Go.Proofs.YtoabgmpcdnikeaaGreatDoor
open Go.RowKit
set_option linter.unusedVariables false

set_option maxRecDepth 100000 in
theorem dnum_any (w : World) {k n : Int} {b no : Bool} {t : ByteArray} {a : Option Addr} {c : Nat} {L : List ByteArray} (h : VOk w ⟨k, b, n, no, t, L⟩ a) :
    Calls Tryz.prog 15 #[.agg #[.int .i64 k, .bool b, .int .i64 n, .bool no, .string t, .slice a L.length c]] w fun e w' => e = .returned (.agg #[.bool (nmV k b n no t L).2, .int .i64 (nmV k b n no t L).1]) ∧ Below w.heap.size w w' := by
  obtain ⟨zn, zb, HZ⟩ : ∃ zn zb, Hid (nmV k b n no t L = (zn, zb)) := ⟨_, _, rfl⟩
  rw [HZ.out]
  obtain ⟨W, hW⟩ : ∃ W, ((w.alloc (.cells #[.int .i64 k, .bool b, .int .i64 n, .bool no, .string t, .slice a L.length c] 24)).alloc (.cells #[.bool false, .int .i64 0] 37)) = W := ⟨_, rfl⟩
  have hbW : Below w.heap.size w W := by rw [← hW]; exact below2 _ _ _
  have hx : IsCells W w.heap.size #[.int .i64 k, .bool b, .int .i64 n, .bool no, .string t, .slice a L.length c] := by rw [← hW]; exact (isCells_new w _ 24).alloc _
  have hy : IsCells W (w.heap.size + 1) #[.bool false, .int .i64 0] := by rw [← hW]; have := isCells_new (w.alloc (.cells #[.int .i64 k, .bool b, .int .i64 n, .bool no, .string t, .slice a L.length c] 24)) #[.bool false, .int .i64 0] 37; simpa using this
  have HW : Hid (((w.alloc (.cells #[.int .i64 k, .bool b, .int .i64 n, .bool no, .string t, .slice a L.length c] 24)).alloc (.cells #[.bool false, .int .i64 0] 37)) = W ∧ Below w.heap.size w W ∧ IsCells W (w.heap.size + 1) #[.bool false, .int .i64 0]) := ⟨hW, hbW, hy⟩
  have HH : Hid (VOk w ⟨k, b, n, no, t, L⟩ a) := h
  clear h hbW hW hy
  obtain ⟨x0, x1, x2, x3, x4, x5⟩ := six_cells hx
  clear hx
  by_cases h1 : k = 1
  · subst h1
    obtain ⟨rfl, rfl⟩ : zn = (if b then 1 else 0) ∧ zb = true := Prod.mk.inj HZ.out.symm
    clear x0 x1 x2 x3 x4 x5
    cases b with
    | true =>
      go_enter Tryz.func15, Tryz.ntmps15
      go_wp2
      exact bodyPost_ret (v := .agg #[.bool true, .int .i64 1]) (by simp [results, Tryz.results15, go_sem]) rfl ⟨rfl, below2 _ _ _⟩
    | false =>
      go_enter Tryz.func15, Tryz.ntmps15
      go_wp2
      exact bodyPost_ret (v := .agg #[.bool true, .int .i64 0]) (by simp [results, Tryz.results15, go_sem]) rfl ⟨rfl, below2 _ _ _⟩
  by_cases h2 : k = 2
  · subst h2
    clear x0 x1 x2 x3 x4 x5
    cases no with
    | true =>
      obtain ⟨rfl, rfl⟩ : zn = 0 ∧ zb = false := Prod.mk.inj HZ.out.symm
      go_enter Tryz.func15, Tryz.ntmps15
      go_wp2
      exact bodyPost_ret (v := .agg #[.bool false, .int .i64 0]) (by simp [results, Tryz.results15, go_sem]) rfl ⟨rfl, below2 _ _ _⟩
    | false =>
      obtain ⟨rfl, rfl⟩ : zn = n ∧ zb = true := Prod.mk.inj HZ.out.symm
      go_enter Tryz.func15, Tryz.ntmps15
      go_wp2
      exact bodyPost_ret (v := .agg #[.bool true, .int .i64 zn]) (by simp [results, Tryz.results15, go_sem]) rfl ⟨rfl, below2 _ _ _⟩
  by_cases h3 : k = 3
  · subst h3
    have HQ : Hid (rdN (Tx t) = (zn, zb)) := HZ.out
    have hr := dread_any W t HH.out.ts
    rw [HQ.out] at hr
    clear HZ HQ
    go_enter Tryz.func15, Tryz.ntmps15
    go_wp2_with fail
    rw [HW.out.1]
    with_reducible refine hr.mono ?_
    rintro e w2 ⟨rfl, hb⟩
    have HB : Hid (Below w.heap.size w w2 ∧ IsCells w2 (w.heap.size + 1) #[.bool false, .int .i64 0]) := ⟨HW.out.2.1.trans (hb.mono HW.out.2.1.size), HW.out.2.2.of_block (hb.block _ HW.out.2.2.lt)⟩
    have c0 := HB.out.2.cell 0
    have c1 := HB.out.2.cell 1
    have f0 := HB.out.2.frozen 0
    have f1 := HB.out.2.frozen 1
    simp at c0 c1
    clear hb hr x0 x1 x2 x3 x4 x5
    go_wp2
    have hy3 := (HB.out.2.set 0 (.bool zb)).set 1 (.int .i64 zn)
    have y0 := hy3.cell 0
    have y1 := hy3.cell 1
    simp at y0 y1
    exact bodyPost_ret (v := .agg #[.bool zb, .int .i64 zn]) (by simp [results, Tryz.results15, go_sem, y0, y1]) rfl ⟨rfl, (HB.out.1.setCell (p := ⟨w.heap.size + 1, 0, none⟩) (Nat.le_succ _) _).setCell (p := ⟨w.heap.size + 1, 1, none⟩) (Nat.le_succ _) _⟩
  · have q1 : (k == 1) = false := by simpa using h1
    have q2 : (k == 2) = false := by simpa using h2
    have q3 : (k == 3) = false := by simpa using h3
    have HQ : Hid (rdN (Tx (L.headD ⟨#[]⟩)) = (zn, zb)) := by show _ = _; rw [← HZ.out]; simp [nmV, txV, h1, h2, h3]
    have hf := dfirst_any W (c := c) (HH.out.bel HW.out.2.1)
    clear h1 h2 h3 HZ
    cases L with
    | nil =>
      obtain ⟨rfl, rfl⟩ : zn = 0 ∧ zb = false := by
        have h7 := HQ.out
        rw [show rdN (Tx (([] : List ByteArray).headD ⟨#[]⟩)) = (0, false) from by kernel_rfl] at h7
        exact ⟨(Prod.mk.inj h7).1.symm, (Prod.mk.inj h7).2.symm⟩
      rw [show decide (([] : List ByteArray) ≠ []) = false from by simp] at hf
      generalize ([] : List ByteArray).headD ⟨#[]⟩ = z at *
      have HW2 := HW.out.1
      simp only [List.length_nil] at HW2 hf
      go_enter Tryz.func15, Tryz.ntmps15
      go_wp2_with fail
      clear HW2
      with_reducible refine hf.mono ?_
      rintro e w2 ⟨rfl, hb⟩
      have HB : Hid (Below w.heap.size w w2 ∧ IsCells w2 (w.heap.size + 1) #[.bool false, .int .i64 0]) := ⟨HW.out.2.1.trans (hb.mono HW.out.2.1.size), HW.out.2.2.of_block (hb.block _ HW.out.2.2.lt)⟩
      have c0 := HB.out.2.cell 0
      have c1 := HB.out.2.cell 1
      have f0 := HB.out.2.frozen 0
      have f1 := HB.out.2.frozen 1
      simp at c0 c1
      clear hb hf x0 x1 x2 x3 x4 x5
      go_wp2
      have hy3 := (HB.out.2.set 0 (.bool false)).set 1 (.int .i64 0)
      have y0 := hy3.cell 0
      have y1 := hy3.cell 1
      simp at y0 y1
      exact bodyPost_ret (v := .agg #[.bool false, .int .i64 0]) (by simp [results, Tryz.results15, go_sem, y0, y1]) rfl ⟨rfl, (HB.out.1.setCell (p := ⟨w.heap.size + 1, 0, none⟩) (Nat.le_succ _) _).setCell (p := ⟨w.heap.size + 1, 1, none⟩) (Nat.le_succ _) _⟩
    | cons z r =>
      rw [show decide ((z :: r) ≠ []) = true from by simp, show (z :: r).headD (⟨#[]⟩ : ByteArray) = z from rfl] at hf
      have HQ2 : Hid (rdN (Tx z) = (zn, zb)) := HQ.out
      have hzs : z.size ≤ 281474976710656 := HH.out.ls z (by simp)
      clear HQ
      generalize (z :: r).length = m at *
      go_enter Tryz.func15, Tryz.ntmps15
      go_wp2_with fail
      rw [HW.out.1]
      with_reducible refine hf.mono ?_
      rintro e w1 ⟨rfl, hb⟩
      have HB1 : Hid (Below w.heap.size w w1 ∧ IsCells w1 (w.heap.size + 1) #[.bool false, .int .i64 0]) := ⟨HW.out.2.1.trans (hb.mono HW.out.2.1.size), HW.out.2.2.of_block (hb.block _ HW.out.2.2.lt)⟩
      clear hb hf x0 x1 x2 x3 x4 x5
      have hr := dread_any w1 z hzs
      rw [HQ2.out] at hr
      go_wp2_with fail
      with_reducible refine hr.mono ?_
      rintro e w2 ⟨rfl, hb⟩
      have HB : Hid (Below w.heap.size w w2 ∧ IsCells w2 (w.heap.size + 1) #[.bool false, .int .i64 0]) := ⟨HB1.out.1.trans (hb.mono HB1.out.1.size), HB1.out.2.of_block (hb.block _ HB1.out.2.lt)⟩
      have c0 := HB.out.2.cell 0
      have c1 := HB.out.2.cell 1
      have f0 := HB.out.2.frozen 0
      have f1 := HB.out.2.frozen 1
      simp at c0 c1
      clear hb hr
      go_wp2
      have hy3 := (HB.out.2.set 0 (.bool zb)).set 1 (.int .i64 zn)
      have y0 := hy3.cell 0
      have y1 := hy3.cell 1
      simp at y0 y1
      exact bodyPost_ret (v := .agg #[.bool zb, .int .i64 zn]) (by simp [results, Tryz.results15, go_sem, y0, y1]) rfl ⟨rfl, (HB.out.1.setCell (p := ⟨w.heap.size + 1, 0, none⟩) (Nat.le_succ _) _).setCell (p := ⟨w.heap.size + 1, 1, none⟩) (Nat.le_succ _) _⟩

end Go.Proofs.YtoabgmpcdnikeaaGreatDoor
