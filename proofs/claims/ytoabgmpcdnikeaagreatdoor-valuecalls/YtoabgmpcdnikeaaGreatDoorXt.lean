/- What the document's Call answers, function by function. Printed by tools/gen16_call.py. -/
import Derived.Test.YtoabgmpcdnikeaaGreatDoorXs
import Derived.Test.YtoabgmpcdnikeaaGreatDoorXq
import Derived.Test.YtoabgmpcdnikeaaGreatDoorXm
import Derived.Deep.RegionHeld3
import Derived.Deep.RegionWith
import Derived.BigQuiet
namespace Go.Proofs.YtoabgmpcdnikeaaGreatDoor
open Go.RowKit
set_option linter.unusedVariables false
attribute [local go_sem] Bel.cell Bel.fz

theorem dnum_t (w : World) (n : Int) : Calls Tryz.prog 49 #[.agg #[.bool true, .int .i64 n]] w fun e w' => e = .returned (mkV 2 false n false ⟨#[]⟩) ∧ Below w.heap.size w w' := dnumber_any w n true
theorem rd_zero2 {s : Bs} (h : (rdN s).2 = false) : (rdN s).1 = 0 := by
  unfold rdN at h ⊢
  split
  · rename_i v hv
    rw [hv] at h
    simp only at h
    split at h
    · rename_i h2
      rw [if_pos h2]
    · cases h
  · rfl
theorem nm_zero2 {k n : Int} {b no : Bool} {t : ByteArray} {L : List ByteArray} (h : (nmV k b n no t L).2 = false) : (nmV k b n no t L).1 = 0 := by
  unfold nmV at h ⊢
  split
  · rename_i h1
    rw [if_pos h1] at h
    cases h
  · rename_i h1
    rw [if_neg h1] at h
    split
    · rename_i h2
      rw [if_pos h2] at h
      cases no
      · cases h
      · rfl
    · rename_i h2
      rw [if_neg h2] at h
      exact rd_zero2 h
theorem cnt_eq (k : Int) (m : Nat) : cntV k m = (if (k == 4) = true then (m : Int) else 0, k == 4) := by
  unfold cntV
  by_cases h : k = 4 <;> simp [h]
/-- A number that is none is 0. -/
theorem dnum_p (w : World) (n : Int) (p : Bool) (h : p = false → n = 0) : Calls Tryz.prog 49 #[.agg #[.bool p, .int .i64 n]] w fun e w' => e = .returned (mkV 2 false n (!p) ⟨#[]⟩) ∧ Below w.heap.size w w' := by
  have g := dnumber_any w n p
  cases p with
  | true => exact g
  | false =>
    obtain rfl := h rfl
    exact g
theorem sum_zero (v : Vl) : (sumV v).2 = false → (sumV v).1 = 0 := by
  intro h
  unfold sumV at h ⊢
  split
  · rename_i h4
    rw [if_pos h4] at h
    revert h
    suffices H : ∀ (l : List Nm) (a : Nm), (a.2 = false → a.1 = 0) → (l.foldl addN a).2 = false → (l.foldl addN a).1 = 0 from H _ _ (by simp)
    intro l
    induction l with
    | nil => exact fun a ha => ha
    | cons x r ih =>
      intro a ha
      rw [List.foldl_cons]
      refine ih _ ?_
      unfold addN
      split
      · simp
      · simp
  · rfl
theorem contains_iff (s t : Bs) : Lib.contains s t = true ↔ ∃ j, j ≤ s.length ∧ Lib.occAt s t j = true := by
  unfold Lib.contains
  rw [decide_eq_true_eq]
  rcases Lib.index_spec s t with ⟨h1, h2⟩ | ⟨i, h1, h2, h3, _⟩
  · rw [h1]
    constructor
    · intro h; omega
    · rintro ⟨j, hj, hq⟩
      rw [h2 j hj] at hq
      cases hq
  · rw [h1]
    exact ⟨fun _ => ⟨i, h2, h3⟩, fun _ => by omega⟩
theorem starts_occ (s t : Bs) : Lib.hasPrefix s t = Lib.occAt s t 0 := by
  unfold Lib.hasPrefix Lib.occAt
  rw [List.drop_zero]

set_option maxRecDepth 100000 in
theorem dcalled_true (w : World) {ps la : Int} {nm tx : ByteArray} {ta : Option Addr} {tl tc : Nat} {aa : Option Addr} {al ac : Nat} :
    Calls Tryz.prog 22 #[.string ⟨#[116, 114, 117, 101]⟩, .agg #[.int .i64 ps, .int .i64 la, .string nm, .string tx, .slice ta tl tc], .slice aa al ac] w fun e w' => e = .returned (mkV 1 true 0 false ⟨#[]⟩) ∧ Below w.heap.size w w' := by
  obtain ⟨W, hW⟩ : ∃ W, ((w.alloc (.cells #[.int .i64 ps, .int .i64 la, .string nm, .string tx, .slice ta tl tc] 45)).alloc (.cells #[.int .i64 0, .bool false, .int .i64 0, .bool false, .string ⟨#[]⟩, .slice none 0 0] 24)) = W := ⟨_, rfl⟩
  have hbW : Below w.heap.size w W := by rw [← hW]; exact below2 _ _ _
  have hx : IsCells W w.heap.size #[.int .i64 ps, .int .i64 la, .string nm, .string tx, .slice ta tl tc] := by rw [← hW]; exact (isCells_new w _ 45).alloc _
  have hy : IsCells W (w.heap.size + 1) #[.int .i64 0, .bool false, .int .i64 0, .bool false, .string ⟨#[]⟩, .slice none 0 0] := by
    have := isCells_new (w.alloc (.cells #[.int .i64 ps, .int .i64 la, .string nm, .string tx, .slice ta tl tc] 45)) #[.int .i64 0, .bool false, .int .i64 0, .bool false, .string ⟨#[]⟩, .slice none 0 0] 24
    rw [hW] at this
    simpa using this
  have HW : Hid (((w.alloc (.cells #[.int .i64 ps, .int .i64 la, .string nm, .string tx, .slice ta tl tc] 45)).alloc (.cells #[.int .i64 0, .bool false, .int .i64 0, .bool false, .string ⟨#[]⟩, .slice none 0 0] 24)) = W ∧ Below w.heap.size w W ∧ IsCells W (w.heap.size + 1) #[.int .i64 0, .bool false, .int .i64 0, .bool false, .string ⟨#[]⟩, .slice none 0 0]) := ⟨hW, hbW, hy⟩
  have hc := dtruth_any W true
  obtain ⟨e0, e1, e2⟩ : W.cell? ⟨w.heap.size, 0, none⟩ = some (.int .i64 ps) ∧ W.cell? ⟨w.heap.size, 1, none⟩ = some (.int .i64 la) ∧ W.cell? ⟨w.heap.size, 2, none⟩ = some (.string nm) := ⟨hx.cell 0, hx.cell 1, hx.cell 2⟩
  clear hW hbW hx hy
  go_enter Tryz.func22, Tryz.ntmps22
  go_wp2_with fail
  rw [HW.out.1]
  with_reducible refine hc.mono ?_
  rintro e X ⟨rfl, hb⟩
  have HB : Hid (Below w.heap.size w X ∧ IsCells X (w.heap.size + 1) #[.int .i64 0, .bool false, .int .i64 0, .bool false, .string ⟨#[]⟩, .slice none 0 0]) := ⟨HW.out.2.1.trans (hb.mono HW.out.2.1.size), HW.out.2.2.of_block (hb.block _ HW.out.2.2.lt)⟩
  clear hb
  clear hc e0 e1 e2
  obtain ⟨z0, z1, z2, z3, z4, z5⟩ := six_cells HB.out.2
  obtain ⟨f0, f1, f2, f3, f4, f5⟩ := six_frozen HB.out.2
  go_wp2
  obtain ⟨y0, y1, y2, y3, y4, y5⟩ := six_cells (set6 HB.out.2 (.int .i64 1) (.bool true) (.int .i64 0) (.bool false) (.string ⟨#[]⟩) (.slice none 0 0))
  exact bodyPost_ret (v := .agg #[.int .i64 1, .bool true, .int .i64 0, .bool false, .string ⟨#[]⟩, .slice none 0 0]) (by simp [results, Tryz.results22, go_sem, y0, y1, y2, y3, y4, y5]) rfl ⟨rfl, below6 HB.out.1 (Nat.le_succ _) _ _ _ _ _ _⟩

set_option maxRecDepth 100000 in
theorem dcalled_false (w : World) {ps la : Int} {nm tx : ByteArray} {ta : Option Addr} {tl tc : Nat} {aa : Option Addr} {al ac : Nat} :
    Calls Tryz.prog 22 #[.string ⟨#[102, 97, 108, 115, 101]⟩, .agg #[.int .i64 ps, .int .i64 la, .string nm, .string tx, .slice ta tl tc], .slice aa al ac] w fun e w' => e = .returned (mkV 1 false 0 false ⟨#[]⟩) ∧ Below w.heap.size w w' := by
  obtain ⟨W, hW⟩ : ∃ W, ((w.alloc (.cells #[.int .i64 ps, .int .i64 la, .string nm, .string tx, .slice ta tl tc] 45)).alloc (.cells #[.int .i64 0, .bool false, .int .i64 0, .bool false, .string ⟨#[]⟩, .slice none 0 0] 24)) = W := ⟨_, rfl⟩
  have hbW : Below w.heap.size w W := by rw [← hW]; exact below2 _ _ _
  have hx : IsCells W w.heap.size #[.int .i64 ps, .int .i64 la, .string nm, .string tx, .slice ta tl tc] := by rw [← hW]; exact (isCells_new w _ 45).alloc _
  have hy : IsCells W (w.heap.size + 1) #[.int .i64 0, .bool false, .int .i64 0, .bool false, .string ⟨#[]⟩, .slice none 0 0] := by
    have := isCells_new (w.alloc (.cells #[.int .i64 ps, .int .i64 la, .string nm, .string tx, .slice ta tl tc] 45)) #[.int .i64 0, .bool false, .int .i64 0, .bool false, .string ⟨#[]⟩, .slice none 0 0] 24
    rw [hW] at this
    simpa using this
  have HW : Hid (((w.alloc (.cells #[.int .i64 ps, .int .i64 la, .string nm, .string tx, .slice ta tl tc] 45)).alloc (.cells #[.int .i64 0, .bool false, .int .i64 0, .bool false, .string ⟨#[]⟩, .slice none 0 0] 24)) = W ∧ Below w.heap.size w W ∧ IsCells W (w.heap.size + 1) #[.int .i64 0, .bool false, .int .i64 0, .bool false, .string ⟨#[]⟩, .slice none 0 0]) := ⟨hW, hbW, hy⟩
  have hc := dtruth_any W false
  obtain ⟨e0, e1, e2⟩ : W.cell? ⟨w.heap.size, 0, none⟩ = some (.int .i64 ps) ∧ W.cell? ⟨w.heap.size, 1, none⟩ = some (.int .i64 la) ∧ W.cell? ⟨w.heap.size, 2, none⟩ = some (.string nm) := ⟨hx.cell 0, hx.cell 1, hx.cell 2⟩
  clear hW hbW hx hy
  go_enter Tryz.func22, Tryz.ntmps22
  go_wp2_with fail
  rw [HW.out.1]
  with_reducible refine hc.mono ?_
  rintro e X ⟨rfl, hb⟩
  have HB : Hid (Below w.heap.size w X ∧ IsCells X (w.heap.size + 1) #[.int .i64 0, .bool false, .int .i64 0, .bool false, .string ⟨#[]⟩, .slice none 0 0]) := ⟨HW.out.2.1.trans (hb.mono HW.out.2.1.size), HW.out.2.2.of_block (hb.block _ HW.out.2.2.lt)⟩
  clear hb
  clear hc e0 e1 e2
  obtain ⟨z0, z1, z2, z3, z4, z5⟩ := six_cells HB.out.2
  obtain ⟨f0, f1, f2, f3, f4, f5⟩ := six_frozen HB.out.2
  go_wp2
  obtain ⟨y0, y1, y2, y3, y4, y5⟩ := six_cells (set6 HB.out.2 (.int .i64 1) (.bool false) (.int .i64 0) (.bool false) (.string ⟨#[]⟩) (.slice none 0 0))
  exact bodyPost_ret (v := .agg #[.int .i64 1, .bool false, .int .i64 0, .bool false, .string ⟨#[]⟩, .slice none 0 0]) (by simp [results, Tryz.results22, go_sem, y0, y1, y2, y3, y4, y5]) rfl ⟨rfl, below6 HB.out.1 (Nat.le_succ _) _ _ _ _ _ _⟩

set_option maxRecDepth 100000 in
theorem dcalled_position (w : World) {ps la : Int} {nm tx : ByteArray} {ta : Option Addr} {tl tc : Nat} {aa : Option Addr} {al ac : Nat} :
    Calls Tryz.prog 22 #[.string ⟨#[112, 111, 115, 105, 116, 105, 111, 110]⟩, .agg #[.int .i64 ps, .int .i64 la, .string nm, .string tx, .slice ta tl tc], .slice aa al ac] w fun e w' => e = .returned (mkV 2 false ps false ⟨#[]⟩) ∧ Below w.heap.size w w' := by
  obtain ⟨W, hW⟩ : ∃ W, ((w.alloc (.cells #[.int .i64 ps, .int .i64 la, .string nm, .string tx, .slice ta tl tc] 45)).alloc (.cells #[.int .i64 0, .bool false, .int .i64 0, .bool false, .string ⟨#[]⟩, .slice none 0 0] 24)) = W := ⟨_, rfl⟩
  have hbW : Below w.heap.size w W := by rw [← hW]; exact below2 _ _ _
  have hx : IsCells W w.heap.size #[.int .i64 ps, .int .i64 la, .string nm, .string tx, .slice ta tl tc] := by rw [← hW]; exact (isCells_new w _ 45).alloc _
  have hy : IsCells W (w.heap.size + 1) #[.int .i64 0, .bool false, .int .i64 0, .bool false, .string ⟨#[]⟩, .slice none 0 0] := by
    have := isCells_new (w.alloc (.cells #[.int .i64 ps, .int .i64 la, .string nm, .string tx, .slice ta tl tc] 45)) #[.int .i64 0, .bool false, .int .i64 0, .bool false, .string ⟨#[]⟩, .slice none 0 0] 24
    rw [hW] at this
    simpa using this
  have HW : Hid (((w.alloc (.cells #[.int .i64 ps, .int .i64 la, .string nm, .string tx, .slice ta tl tc] 45)).alloc (.cells #[.int .i64 0, .bool false, .int .i64 0, .bool false, .string ⟨#[]⟩, .slice none 0 0] 24)) = W ∧ Below w.heap.size w W ∧ IsCells W (w.heap.size + 1) #[.int .i64 0, .bool false, .int .i64 0, .bool false, .string ⟨#[]⟩, .slice none 0 0]) := ⟨hW, hbW, hy⟩
  have hc := dnum_t W ps
  obtain ⟨e0, e1, e2⟩ : W.cell? ⟨w.heap.size, 0, none⟩ = some (.int .i64 ps) ∧ W.cell? ⟨w.heap.size, 1, none⟩ = some (.int .i64 la) ∧ W.cell? ⟨w.heap.size, 2, none⟩ = some (.string nm) := ⟨hx.cell 0, hx.cell 1, hx.cell 2⟩
  clear hW hbW hx hy
  go_enter Tryz.func22, Tryz.ntmps22
  go_wp2_with fail
  rw [HW.out.1]
  with_reducible refine hc.mono ?_
  rintro e X ⟨rfl, hb⟩
  have HB : Hid (Below w.heap.size w X ∧ IsCells X (w.heap.size + 1) #[.int .i64 0, .bool false, .int .i64 0, .bool false, .string ⟨#[]⟩, .slice none 0 0]) := ⟨HW.out.2.1.trans (hb.mono HW.out.2.1.size), HW.out.2.2.of_block (hb.block _ HW.out.2.2.lt)⟩
  clear hb
  clear hc e0 e1 e2
  obtain ⟨z0, z1, z2, z3, z4, z5⟩ := six_cells HB.out.2
  obtain ⟨f0, f1, f2, f3, f4, f5⟩ := six_frozen HB.out.2
  go_wp2
  obtain ⟨y0, y1, y2, y3, y4, y5⟩ := six_cells (set6 HB.out.2 (.int .i64 2) (.bool false) (.int .i64 ps) (.bool false) (.string ⟨#[]⟩) (.slice none 0 0))
  exact bodyPost_ret (v := .agg #[.int .i64 2, .bool false, .int .i64 ps, .bool false, .string ⟨#[]⟩, .slice none 0 0]) (by simp [results, Tryz.results22, go_sem, y0, y1, y2, y3, y4, y5]) rfl ⟨rfl, below6 HB.out.1 (Nat.le_succ _) _ _ _ _ _ _⟩

set_option maxRecDepth 100000 in
theorem dcalled_last (w : World) {ps la : Int} {nm tx : ByteArray} {ta : Option Addr} {tl tc : Nat} {aa : Option Addr} {al ac : Nat} :
    Calls Tryz.prog 22 #[.string ⟨#[108, 97, 115, 116]⟩, .agg #[.int .i64 ps, .int .i64 la, .string nm, .string tx, .slice ta tl tc], .slice aa al ac] w fun e w' => e = .returned (mkV 2 false la false ⟨#[]⟩) ∧ Below w.heap.size w w' := by
  obtain ⟨W, hW⟩ : ∃ W, ((w.alloc (.cells #[.int .i64 ps, .int .i64 la, .string nm, .string tx, .slice ta tl tc] 45)).alloc (.cells #[.int .i64 0, .bool false, .int .i64 0, .bool false, .string ⟨#[]⟩, .slice none 0 0] 24)) = W := ⟨_, rfl⟩
  have hbW : Below w.heap.size w W := by rw [← hW]; exact below2 _ _ _
  have hx : IsCells W w.heap.size #[.int .i64 ps, .int .i64 la, .string nm, .string tx, .slice ta tl tc] := by rw [← hW]; exact (isCells_new w _ 45).alloc _
  have hy : IsCells W (w.heap.size + 1) #[.int .i64 0, .bool false, .int .i64 0, .bool false, .string ⟨#[]⟩, .slice none 0 0] := by
    have := isCells_new (w.alloc (.cells #[.int .i64 ps, .int .i64 la, .string nm, .string tx, .slice ta tl tc] 45)) #[.int .i64 0, .bool false, .int .i64 0, .bool false, .string ⟨#[]⟩, .slice none 0 0] 24
    rw [hW] at this
    simpa using this
  have HW : Hid (((w.alloc (.cells #[.int .i64 ps, .int .i64 la, .string nm, .string tx, .slice ta tl tc] 45)).alloc (.cells #[.int .i64 0, .bool false, .int .i64 0, .bool false, .string ⟨#[]⟩, .slice none 0 0] 24)) = W ∧ Below w.heap.size w W ∧ IsCells W (w.heap.size + 1) #[.int .i64 0, .bool false, .int .i64 0, .bool false, .string ⟨#[]⟩, .slice none 0 0]) := ⟨hW, hbW, hy⟩
  have hc := dnum_t W la
  obtain ⟨e0, e1, e2⟩ : W.cell? ⟨w.heap.size, 0, none⟩ = some (.int .i64 ps) ∧ W.cell? ⟨w.heap.size, 1, none⟩ = some (.int .i64 la) ∧ W.cell? ⟨w.heap.size, 2, none⟩ = some (.string nm) := ⟨hx.cell 0, hx.cell 1, hx.cell 2⟩
  clear hW hbW hx hy
  go_enter Tryz.func22, Tryz.ntmps22
  go_wp2_with fail
  rw [HW.out.1]
  with_reducible refine hc.mono ?_
  rintro e X ⟨rfl, hb⟩
  have HB : Hid (Below w.heap.size w X ∧ IsCells X (w.heap.size + 1) #[.int .i64 0, .bool false, .int .i64 0, .bool false, .string ⟨#[]⟩, .slice none 0 0]) := ⟨HW.out.2.1.trans (hb.mono HW.out.2.1.size), HW.out.2.2.of_block (hb.block _ HW.out.2.2.lt)⟩
  clear hb
  clear hc e0 e1 e2
  obtain ⟨z0, z1, z2, z3, z4, z5⟩ := six_cells HB.out.2
  obtain ⟨f0, f1, f2, f3, f4, f5⟩ := six_frozen HB.out.2
  go_wp2
  obtain ⟨y0, y1, y2, y3, y4, y5⟩ := six_cells (set6 HB.out.2 (.int .i64 2) (.bool false) (.int .i64 la) (.bool false) (.string ⟨#[]⟩) (.slice none 0 0))
  exact bodyPost_ret (v := .agg #[.int .i64 2, .bool false, .int .i64 la, .bool false, .string ⟨#[]⟩, .slice none 0 0]) (by simp [results, Tryz.results22, go_sem, y0, y1, y2, y3, y4, y5]) rfl ⟨rfl, below6 HB.out.1 (Nat.le_succ _) _ _ _ _ _ _⟩

set_option maxRecDepth 100000 in
theorem dcalled_name (w : World) {ps la : Int} {nm tx : ByteArray} {ta : Option Addr} {tl tc : Nat} {aa : Option Addr} {al ac : Nat} :
    Calls Tryz.prog 22 #[.string ⟨#[110, 97, 109, 101]⟩, .agg #[.int .i64 ps, .int .i64 la, .string nm, .string tx, .slice ta tl tc], .slice aa al ac] w fun e w' => e = .returned (mkV 3 false 0 false nm) ∧ Below w.heap.size w w' := by
  obtain ⟨W, hW⟩ : ∃ W, ((w.alloc (.cells #[.int .i64 ps, .int .i64 la, .string nm, .string tx, .slice ta tl tc] 45)).alloc (.cells #[.int .i64 0, .bool false, .int .i64 0, .bool false, .string ⟨#[]⟩, .slice none 0 0] 24)) = W := ⟨_, rfl⟩
  have hbW : Below w.heap.size w W := by rw [← hW]; exact below2 _ _ _
  have hx : IsCells W w.heap.size #[.int .i64 ps, .int .i64 la, .string nm, .string tx, .slice ta tl tc] := by rw [← hW]; exact (isCells_new w _ 45).alloc _
  have hy : IsCells W (w.heap.size + 1) #[.int .i64 0, .bool false, .int .i64 0, .bool false, .string ⟨#[]⟩, .slice none 0 0] := by
    have := isCells_new (w.alloc (.cells #[.int .i64 ps, .int .i64 la, .string nm, .string tx, .slice ta tl tc] 45)) #[.int .i64 0, .bool false, .int .i64 0, .bool false, .string ⟨#[]⟩, .slice none 0 0] 24
    rw [hW] at this
    simpa using this
  have HW : Hid (((w.alloc (.cells #[.int .i64 ps, .int .i64 la, .string nm, .string tx, .slice ta tl tc] 45)).alloc (.cells #[.int .i64 0, .bool false, .int .i64 0, .bool false, .string ⟨#[]⟩, .slice none 0 0] 24)) = W ∧ Below w.heap.size w W ∧ IsCells W (w.heap.size + 1) #[.int .i64 0, .bool false, .int .i64 0, .bool false, .string ⟨#[]⟩, .slice none 0 0]) := ⟨hW, hbW, hy⟩
  have hc := dsaid_any W nm
  obtain ⟨e0, e1, e2⟩ : W.cell? ⟨w.heap.size, 0, none⟩ = some (.int .i64 ps) ∧ W.cell? ⟨w.heap.size, 1, none⟩ = some (.int .i64 la) ∧ W.cell? ⟨w.heap.size, 2, none⟩ = some (.string nm) := ⟨hx.cell 0, hx.cell 1, hx.cell 2⟩
  clear hW hbW hx hy
  go_enter Tryz.func22, Tryz.ntmps22
  go_wp2_with fail
  rw [HW.out.1]
  with_reducible refine hc.mono ?_
  rintro e X ⟨rfl, hb⟩
  have HB : Hid (Below w.heap.size w X ∧ IsCells X (w.heap.size + 1) #[.int .i64 0, .bool false, .int .i64 0, .bool false, .string ⟨#[]⟩, .slice none 0 0]) := ⟨HW.out.2.1.trans (hb.mono HW.out.2.1.size), HW.out.2.2.of_block (hb.block _ HW.out.2.2.lt)⟩
  clear hb
  clear hc e0 e1 e2
  obtain ⟨z0, z1, z2, z3, z4, z5⟩ := six_cells HB.out.2
  obtain ⟨f0, f1, f2, f3, f4, f5⟩ := six_frozen HB.out.2
  go_wp2
  obtain ⟨y0, y1, y2, y3, y4, y5⟩ := six_cells (set6 HB.out.2 (.int .i64 3) (.bool false) (.int .i64 0) (.bool false) (.string nm) (.slice none 0 0))
  exact bodyPost_ret (v := .agg #[.int .i64 3, .bool false, .int .i64 0, .bool false, .string nm, .slice none 0 0]) (by simp [results, Tryz.results22, go_sem, y0, y1, y2, y3, y4, y5]) rfl ⟨rfl, below6 HB.out.1 (Nat.le_succ _) _ _ _ _ _ _⟩

set_option maxRecDepth 100000 in
theorem dcalled_not (w : World) {ps la : Int} {nm tx : ByteArray} {ta : Option Addr} {tl tc : Nat} {aa xa : Option Addr} {ac xc b o : Nat} {xk xn : Int} {xb xo : Bool} {xt : ByteArray} {xL : List ByteArray} (h0 : AOk w aa 0 ⟨xk, xb, xn, xo, xt, xL⟩ xa xc b o) :
    Calls Tryz.prog 22 #[.string ⟨#[110, 111, 116]⟩, .agg #[.int .i64 ps, .int .i64 la, .string nm, .string tx, .slice ta tl tc], .slice aa 1 ac] w fun e w' => e = .returned (mkV 1 (!trB xk xb xn xo (Tx xt) xL.length) 0 false ⟨#[]⟩) ∧ Below w.heap.size w w' := by
  obtain ⟨W, hW⟩ : ∃ W, ((w.alloc (.cells #[.int .i64 ps, .int .i64 la, .string nm, .string tx, .slice ta tl tc] 45)).alloc (.cells #[.int .i64 0, .bool false, .int .i64 0, .bool false, .string ⟨#[]⟩, .slice none 0 0] 24)) = W := ⟨_, rfl⟩
  have hbW : Below w.heap.size w W := by rw [← hW]; exact below2 _ _ _
  have hx : IsCells W w.heap.size #[.int .i64 ps, .int .i64 la, .string nm, .string tx, .slice ta tl tc] := by rw [← hW]; exact (isCells_new w _ 45).alloc _
  have hy : IsCells W (w.heap.size + 1) #[.int .i64 0, .bool false, .int .i64 0, .bool false, .string ⟨#[]⟩, .slice none 0 0] := by
    have := isCells_new (w.alloc (.cells #[.int .i64 ps, .int .i64 la, .string nm, .string tx, .slice ta tl tc] 45)) #[.int .i64 0, .bool false, .int .i64 0, .bool false, .string ⟨#[]⟩, .slice none 0 0] 24
    rw [hW] at this
    simpa using this
  have HW : Hid (((w.alloc (.cells #[.int .i64 ps, .int .i64 la, .string nm, .string tx, .slice ta tl tc] 45)).alloc (.cells #[.int .i64 0, .bool false, .int .i64 0, .bool false, .string ⟨#[]⟩, .slice none 0 0] 24)) = W ∧ Below w.heap.size w W ∧ IsCells W (w.heap.size + 1) #[.int .i64 0, .bool false, .int .i64 0, .bool false, .string ⟨#[]⟩, .slice none 0 0]) := ⟨hW, hbW, hy⟩
  obtain ⟨rfl, lt0, c0, c1, c2, c3, c4, c5, ok0⟩ := h0
  replace ok0 := ok0.bel hbW
  simp only [Nat.zero_mul, Nat.add_zero] at c0 c1 c2 c3 c4 c5
  have hc := dbool_any W xk xn xb xo xt xa xL.length xc
  generalize trB xk xb xn xo (Tx xt) xL.length = q at *
  have HH : Hid (VOk W ⟨xk, xb, xn, xo, xt, xL⟩ xa) := ok0
  clear hW hbW hx hy ok0
  go_enter Tryz.func22, Tryz.ntmps22
  go_wp2_with fail
  rw [HW.out.1]
  with_reducible refine hc.mono ?_
  rintro e X ⟨rfl, hb⟩
  have HB : Hid (Below w.heap.size w X ∧ IsCells X (w.heap.size + 1) #[.int .i64 0, .bool false, .int .i64 0, .bool false, .string ⟨#[]⟩, .slice none 0 0]) := ⟨HW.out.2.1.trans (hb.mono HW.out.2.1.size), HW.out.2.2.of_block (hb.block _ HW.out.2.2.lt)⟩
  clear hb
  clear hc c0 c1 c2 c3 c4 c5
  have hd := dtruth_any X (!q)
  go_wp2_with fail
  with_reducible refine hd.mono ?_
  clear hd
  rintro e Y ⟨rfl, hb⟩
  have HB : Hid (Below w.heap.size w Y ∧ IsCells Y (w.heap.size + 1) #[.int .i64 0, .bool false, .int .i64 0, .bool false, .string ⟨#[]⟩, .slice none 0 0]) := ⟨HB.out.1.trans (hb.mono HB.out.1.size), HB.out.2.of_block (hb.block _ HB.out.2.lt)⟩
  clear hb
  obtain ⟨z0, z1, z2, z3, z4, z5⟩ := six_cells HB.out.2
  obtain ⟨f0, f1, f2, f3, f4, f5⟩ := six_frozen HB.out.2
  go_wp2
  obtain ⟨y0, y1, y2, y3, y4, y5⟩ := six_cells (set6 HB.out.2 (.int .i64 1) (.bool (!q)) (.int .i64 0) (.bool false) (.string ⟨#[]⟩) (.slice none 0 0))
  exact bodyPost_ret (v := .agg #[.int .i64 1, .bool (!q), .int .i64 0, .bool false, .string ⟨#[]⟩, .slice none 0 0]) (by simp [results, Tryz.results22, go_sem, y0, y1, y2, y3, y4, y5]) rfl ⟨rfl, below6 HB.out.1 (Nat.le_succ _) _ _ _ _ _ _⟩

set_option maxRecDepth 100000 in
theorem dcalled_string (w : World) {ps la : Int} {nm tx : ByteArray} {ta : Option Addr} {tl tc : Nat} {aa xa : Option Addr} {ac xc b o : Nat} {xk xn : Int} {xb xo : Bool} {xt : ByteArray} {xL : List ByteArray} (h0 : AOk w aa 0 ⟨xk, xb, xn, xo, xt, xL⟩ xa xc b o) :
    Calls Tryz.prog 22 #[.string ⟨#[115, 116, 114, 105, 110, 103]⟩, .agg #[.int .i64 ps, .int .i64 la, .string nm, .string tx, .slice ta tl tc], .slice aa 1 ac] w fun e w' => e = .returned (mkV 3 false 0 false (txV xk xb xn xo xt xL)) ∧ Below w.heap.size w w' := by
  obtain ⟨W, hW⟩ : ∃ W, ((w.alloc (.cells #[.int .i64 ps, .int .i64 la, .string nm, .string tx, .slice ta tl tc] 45)).alloc (.cells #[.int .i64 0, .bool false, .int .i64 0, .bool false, .string ⟨#[]⟩, .slice none 0 0] 24)) = W := ⟨_, rfl⟩
  have hbW : Below w.heap.size w W := by rw [← hW]; exact below2 _ _ _
  have hx : IsCells W w.heap.size #[.int .i64 ps, .int .i64 la, .string nm, .string tx, .slice ta tl tc] := by rw [← hW]; exact (isCells_new w _ 45).alloc _
  have hy : IsCells W (w.heap.size + 1) #[.int .i64 0, .bool false, .int .i64 0, .bool false, .string ⟨#[]⟩, .slice none 0 0] := by
    have := isCells_new (w.alloc (.cells #[.int .i64 ps, .int .i64 la, .string nm, .string tx, .slice ta tl tc] 45)) #[.int .i64 0, .bool false, .int .i64 0, .bool false, .string ⟨#[]⟩, .slice none 0 0] 24
    rw [hW] at this
    simpa using this
  have HW : Hid (((w.alloc (.cells #[.int .i64 ps, .int .i64 la, .string nm, .string tx, .slice ta tl tc] 45)).alloc (.cells #[.int .i64 0, .bool false, .int .i64 0, .bool false, .string ⟨#[]⟩, .slice none 0 0] 24)) = W ∧ Below w.heap.size w W ∧ IsCells W (w.heap.size + 1) #[.int .i64 0, .bool false, .int .i64 0, .bool false, .string ⟨#[]⟩, .slice none 0 0]) := ⟨hW, hbW, hy⟩
  obtain ⟨rfl, lt0, c0, c1, c2, c3, c4, c5, ok0⟩ := h0
  replace ok0 := ok0.bel hbW
  simp only [Nat.zero_mul, Nat.add_zero] at c0 c1 c2 c3 c4 c5
  have hc := dtext_val W (c := xc) ok0
  generalize txV xk xb xn xo xt xL = q at *
  have HH : Hid (VOk W ⟨xk, xb, xn, xo, xt, xL⟩ xa) := ok0
  clear hW hbW hx hy ok0
  go_enter Tryz.func22, Tryz.ntmps22
  go_wp2_with fail
  rw [HW.out.1]
  with_reducible refine hc.mono ?_
  rintro e X ⟨rfl, hb⟩
  have HB : Hid (Below w.heap.size w X ∧ IsCells X (w.heap.size + 1) #[.int .i64 0, .bool false, .int .i64 0, .bool false, .string ⟨#[]⟩, .slice none 0 0]) := ⟨HW.out.2.1.trans (hb.mono HW.out.2.1.size), HW.out.2.2.of_block (hb.block _ HW.out.2.2.lt)⟩
  clear hb
  clear hc c0 c1 c2 c3 c4 c5
  have hd := dsaid_any X q
  go_wp2_with fail
  with_reducible refine hd.mono ?_
  clear hd
  rintro e Y ⟨rfl, hb⟩
  have HB : Hid (Below w.heap.size w Y ∧ IsCells Y (w.heap.size + 1) #[.int .i64 0, .bool false, .int .i64 0, .bool false, .string ⟨#[]⟩, .slice none 0 0]) := ⟨HB.out.1.trans (hb.mono HB.out.1.size), HB.out.2.of_block (hb.block _ HB.out.2.lt)⟩
  clear hb
  obtain ⟨z0, z1, z2, z3, z4, z5⟩ := six_cells HB.out.2
  obtain ⟨f0, f1, f2, f3, f4, f5⟩ := six_frozen HB.out.2
  go_wp2
  obtain ⟨y0, y1, y2, y3, y4, y5⟩ := six_cells (set6 HB.out.2 (.int .i64 3) (.bool false) (.int .i64 0) (.bool false) (.string q) (.slice none 0 0))
  exact bodyPost_ret (v := .agg #[.int .i64 3, .bool false, .int .i64 0, .bool false, .string q, .slice none 0 0]) (by simp [results, Tryz.results22, go_sem, y0, y1, y2, y3, y4, y5]) rfl ⟨rfl, below6 HB.out.1 (Nat.le_succ _) _ _ _ _ _ _⟩

set_option maxRecDepth 100000 in
theorem dcalled_number (w : World) {ps la : Int} {nm tx : ByteArray} {ta : Option Addr} {tl tc : Nat} {aa xa : Option Addr} {ac xc b o : Nat} {xk xn : Int} {xb xo : Bool} {xt : ByteArray} {xL : List ByteArray} (h0 : AOk w aa 0 ⟨xk, xb, xn, xo, xt, xL⟩ xa xc b o) :
    Calls Tryz.prog 22 #[.string ⟨#[110, 117, 109, 98, 101, 114]⟩, .agg #[.int .i64 ps, .int .i64 la, .string nm, .string tx, .slice ta tl tc], .slice aa 1 ac] w fun e w' => e = .returned (mkV 2 false (nmV xk xb xn xo xt xL).1 (!(nmV xk xb xn xo xt xL).2) ⟨#[]⟩) ∧ Below w.heap.size w w' := by
  obtain ⟨W, hW⟩ : ∃ W, ((w.alloc (.cells #[.int .i64 ps, .int .i64 la, .string nm, .string tx, .slice ta tl tc] 45)).alloc (.cells #[.int .i64 0, .bool false, .int .i64 0, .bool false, .string ⟨#[]⟩, .slice none 0 0] 24)) = W := ⟨_, rfl⟩
  have hbW : Below w.heap.size w W := by rw [← hW]; exact below2 _ _ _
  have hx : IsCells W w.heap.size #[.int .i64 ps, .int .i64 la, .string nm, .string tx, .slice ta tl tc] := by rw [← hW]; exact (isCells_new w _ 45).alloc _
  have hy : IsCells W (w.heap.size + 1) #[.int .i64 0, .bool false, .int .i64 0, .bool false, .string ⟨#[]⟩, .slice none 0 0] := by
    have := isCells_new (w.alloc (.cells #[.int .i64 ps, .int .i64 la, .string nm, .string tx, .slice ta tl tc] 45)) #[.int .i64 0, .bool false, .int .i64 0, .bool false, .string ⟨#[]⟩, .slice none 0 0] 24
    rw [hW] at this
    simpa using this
  have HW : Hid (((w.alloc (.cells #[.int .i64 ps, .int .i64 la, .string nm, .string tx, .slice ta tl tc] 45)).alloc (.cells #[.int .i64 0, .bool false, .int .i64 0, .bool false, .string ⟨#[]⟩, .slice none 0 0] 24)) = W ∧ Below w.heap.size w W ∧ IsCells W (w.heap.size + 1) #[.int .i64 0, .bool false, .int .i64 0, .bool false, .string ⟨#[]⟩, .slice none 0 0]) := ⟨hW, hbW, hy⟩
  obtain ⟨rfl, lt0, c0, c1, c2, c3, c4, c5, ok0⟩ := h0
  replace ok0 := ok0.bel hbW
  simp only [Nat.zero_mul, Nat.add_zero] at c0 c1 c2 c3 c4 c5
  have hc := dnum_any W (c := xc) ok0
  have HPZ : Hid ((nmV xk xb xn xo xt xL).2 = false → (nmV xk xb xn xo xt xL).1 = 0) := nm_zero2
  generalize (nmV xk xb xn xo xt xL).1 = q at *
  generalize (nmV xk xb xn xo xt xL).2 = p at *
  have HH : Hid (VOk W ⟨xk, xb, xn, xo, xt, xL⟩ xa) := ok0
  clear hW hbW hx hy ok0
  go_enter Tryz.func22, Tryz.ntmps22
  go_wp2_with fail
  rw [HW.out.1]
  with_reducible refine hc.mono ?_
  rintro e X ⟨rfl, hb⟩
  have HB : Hid (Below w.heap.size w X ∧ IsCells X (w.heap.size + 1) #[.int .i64 0, .bool false, .int .i64 0, .bool false, .string ⟨#[]⟩, .slice none 0 0]) := ⟨HW.out.2.1.trans (hb.mono HW.out.2.1.size), HW.out.2.2.of_block (hb.block _ HW.out.2.2.lt)⟩
  clear hb
  clear hc c0 c1 c2 c3 c4 c5
  have hd := dnum_p X q p HPZ.out
  go_wp2_with fail
  with_reducible refine hd.mono ?_
  clear hd
  rintro e Y ⟨rfl, hb⟩
  have HB : Hid (Below w.heap.size w Y ∧ IsCells Y (w.heap.size + 1) #[.int .i64 0, .bool false, .int .i64 0, .bool false, .string ⟨#[]⟩, .slice none 0 0]) := ⟨HB.out.1.trans (hb.mono HB.out.1.size), HB.out.2.of_block (hb.block _ HB.out.2.lt)⟩
  clear hb
  obtain ⟨z0, z1, z2, z3, z4, z5⟩ := six_cells HB.out.2
  obtain ⟨f0, f1, f2, f3, f4, f5⟩ := six_frozen HB.out.2
  go_wp2
  obtain ⟨y0, y1, y2, y3, y4, y5⟩ := six_cells (set6 HB.out.2 (.int .i64 2) (.bool false) (.int .i64 q) (.bool (!p)) (.string ⟨#[]⟩) (.slice none 0 0))
  exact bodyPost_ret (v := .agg #[.int .i64 2, .bool false, .int .i64 q, .bool (!p), .string ⟨#[]⟩, .slice none 0 0]) (by simp [results, Tryz.results22, go_sem, y0, y1, y2, y3, y4, y5]) rfl ⟨rfl, below6 HB.out.1 (Nat.le_succ _) _ _ _ _ _ _⟩

set_option maxRecDepth 100000 in
theorem dcalled_sum (w : World) {ps la : Int} {nm tx : ByteArray} {ta : Option Addr} {tl tc : Nat} {aa xa : Option Addr} {ac xc b o : Nat} {xk xn : Int} {xb xo : Bool} {xt : ByteArray} {xL : List ByteArray} (h0 : AOk w aa 0 ⟨xk, xb, xn, xo, xt, xL⟩ xa xc b o) :
    Calls Tryz.prog 22 #[.string ⟨#[115, 117, 109]⟩, .agg #[.int .i64 ps, .int .i64 la, .string nm, .string tx, .slice ta tl tc], .slice aa 1 ac] w fun e w' => e = .returned (mkV 2 false (sumV ⟨xk, xb, xn, xo, xt, xL⟩).1 (!(sumV ⟨xk, xb, xn, xo, xt, xL⟩).2) ⟨#[]⟩) ∧ Below w.heap.size w w' := by
  obtain ⟨W, hW⟩ : ∃ W, ((w.alloc (.cells #[.int .i64 ps, .int .i64 la, .string nm, .string tx, .slice ta tl tc] 45)).alloc (.cells #[.int .i64 0, .bool false, .int .i64 0, .bool false, .string ⟨#[]⟩, .slice none 0 0] 24)) = W := ⟨_, rfl⟩
  have hbW : Below w.heap.size w W := by rw [← hW]; exact below2 _ _ _
  have hx : IsCells W w.heap.size #[.int .i64 ps, .int .i64 la, .string nm, .string tx, .slice ta tl tc] := by rw [← hW]; exact (isCells_new w _ 45).alloc _
  have hy : IsCells W (w.heap.size + 1) #[.int .i64 0, .bool false, .int .i64 0, .bool false, .string ⟨#[]⟩, .slice none 0 0] := by
    have := isCells_new (w.alloc (.cells #[.int .i64 ps, .int .i64 la, .string nm, .string tx, .slice ta tl tc] 45)) #[.int .i64 0, .bool false, .int .i64 0, .bool false, .string ⟨#[]⟩, .slice none 0 0] 24
    rw [hW] at this
    simpa using this
  have HW : Hid (((w.alloc (.cells #[.int .i64 ps, .int .i64 la, .string nm, .string tx, .slice ta tl tc] 45)).alloc (.cells #[.int .i64 0, .bool false, .int .i64 0, .bool false, .string ⟨#[]⟩, .slice none 0 0] 24)) = W ∧ Below w.heap.size w W ∧ IsCells W (w.heap.size + 1) #[.int .i64 0, .bool false, .int .i64 0, .bool false, .string ⟨#[]⟩, .slice none 0 0]) := ⟨hW, hbW, hy⟩
  obtain ⟨rfl, lt0, c0, c1, c2, c3, c4, c5, ok0⟩ := h0
  replace ok0 := ok0.bel hbW
  simp only [Nat.zero_mul, Nat.add_zero] at c0 c1 c2 c3 c4 c5
  have hc := dsum_any W (c := xc) ok0
  have HPZ : Hid ((sumV ⟨xk, xb, xn, xo, xt, xL⟩).2 = false → (sumV ⟨xk, xb, xn, xo, xt, xL⟩).1 = 0) := sum_zero _
  generalize (sumV ⟨xk, xb, xn, xo, xt, xL⟩).1 = q at *
  generalize (sumV ⟨xk, xb, xn, xo, xt, xL⟩).2 = p at *
  have HH : Hid (VOk W ⟨xk, xb, xn, xo, xt, xL⟩ xa) := ok0
  clear hW hbW hx hy ok0
  go_enter Tryz.func22, Tryz.ntmps22
  go_wp2_with fail
  rw [HW.out.1]
  with_reducible refine hc.mono ?_
  rintro e X ⟨rfl, hb⟩
  have HB : Hid (Below w.heap.size w X ∧ IsCells X (w.heap.size + 1) #[.int .i64 0, .bool false, .int .i64 0, .bool false, .string ⟨#[]⟩, .slice none 0 0]) := ⟨HW.out.2.1.trans (hb.mono HW.out.2.1.size), HW.out.2.2.of_block (hb.block _ HW.out.2.2.lt)⟩
  clear hb
  clear hc c0 c1 c2 c3 c4 c5
  have hd := dnum_p X q p HPZ.out
  go_wp2_with fail
  with_reducible refine hd.mono ?_
  clear hd
  rintro e Y ⟨rfl, hb⟩
  have HB : Hid (Below w.heap.size w Y ∧ IsCells Y (w.heap.size + 1) #[.int .i64 0, .bool false, .int .i64 0, .bool false, .string ⟨#[]⟩, .slice none 0 0]) := ⟨HB.out.1.trans (hb.mono HB.out.1.size), HB.out.2.of_block (hb.block _ HB.out.2.lt)⟩
  clear hb
  obtain ⟨z0, z1, z2, z3, z4, z5⟩ := six_cells HB.out.2
  obtain ⟨f0, f1, f2, f3, f4, f5⟩ := six_frozen HB.out.2
  go_wp2
  obtain ⟨y0, y1, y2, y3, y4, y5⟩ := six_cells (set6 HB.out.2 (.int .i64 2) (.bool false) (.int .i64 q) (.bool (!p)) (.string ⟨#[]⟩) (.slice none 0 0))
  exact bodyPost_ret (v := .agg #[.int .i64 2, .bool false, .int .i64 q, .bool (!p), .string ⟨#[]⟩, .slice none 0 0]) (by simp [results, Tryz.results22, go_sem, y0, y1, y2, y3, y4, y5]) rfl ⟨rfl, below6 HB.out.1 (Nat.le_succ _) _ _ _ _ _ _⟩

set_option maxRecDepth 100000 in
theorem dcalled_length (w : World) {ps la : Int} {nm tx : ByteArray} {ta : Option Addr} {tl tc : Nat} {aa xa : Option Addr} {ac xc b o : Nat} {xk xn : Int} {xb xo : Bool} {xt : ByteArray} {xL : List ByteArray} (h0 : AOk w aa 0 ⟨xk, xb, xn, xo, xt, xL⟩ xa xc b o) (hct : (tans (Tx (txV xk xb xn xo xt xL))).2 = 0) :
    Calls Tryz.prog 22 #[.string ⟨#[108, 101, 110, 103, 116, 104]⟩, .agg #[.int .i64 ps, .int .i64 la, .string nm, .string tx, .slice ta tl tc], .slice aa 1 ac] w fun e w' => e = .returned (mkV 2 false (lans (Tx (txV xk xb xn xo xt xL))).1 false ⟨#[]⟩) ∧ Below w.heap.size w w' := by
  obtain ⟨W, hW⟩ : ∃ W, ((w.alloc (.cells #[.int .i64 ps, .int .i64 la, .string nm, .string tx, .slice ta tl tc] 45)).alloc (.cells #[.int .i64 0, .bool false, .int .i64 0, .bool false, .string ⟨#[]⟩, .slice none 0 0] 24)) = W := ⟨_, rfl⟩
  have hbW : Below w.heap.size w W := by rw [← hW]; exact below2 _ _ _
  have hx : IsCells W w.heap.size #[.int .i64 ps, .int .i64 la, .string nm, .string tx, .slice ta tl tc] := by rw [← hW]; exact (isCells_new w _ 45).alloc _
  have hy : IsCells W (w.heap.size + 1) #[.int .i64 0, .bool false, .int .i64 0, .bool false, .string ⟨#[]⟩, .slice none 0 0] := by
    have := isCells_new (w.alloc (.cells #[.int .i64 ps, .int .i64 la, .string nm, .string tx, .slice ta tl tc] 45)) #[.int .i64 0, .bool false, .int .i64 0, .bool false, .string ⟨#[]⟩, .slice none 0 0] 24
    rw [hW] at this
    simpa using this
  have HW : Hid (((w.alloc (.cells #[.int .i64 ps, .int .i64 la, .string nm, .string tx, .slice ta tl tc] 45)).alloc (.cells #[.int .i64 0, .bool false, .int .i64 0, .bool false, .string ⟨#[]⟩, .slice none 0 0] 24)) = W ∧ Below w.heap.size w W ∧ IsCells W (w.heap.size + 1) #[.int .i64 0, .bool false, .int .i64 0, .bool false, .string ⟨#[]⟩, .slice none 0 0]) := ⟨hW, hbW, hy⟩
  obtain ⟨rfl, lt0, c0, c1, c2, c3, c4, c5, ok0⟩ := h0
  replace ok0 := ok0.bel hbW
  simp only [Nat.zero_mul, Nat.add_zero] at c0 c1 c2 c3 c4 c5
  have hc := dtext_val W (c := xc) ok0
  have HLN : Hid (∀ u, Calls Tryz.prog 51 #[.string (txV xk xb xn xo xt xL)] u fun e w' => ∃ a m c, e = .returned (.slice a m c) ∧ (m : Int) = (lans (Tx (txV xk xb xn xo xt xL))).1 ∧ Below u.heap.size u w') := fun u => dchars_any u _ hct
  generalize txV xk xb xn xo xt xL = q at *
  generalize (lans (Tx q)).1 = m at *
  clear hct
  have HH : Hid (VOk W ⟨xk, xb, xn, xo, xt, xL⟩ xa) := ok0
  clear hW hbW hx hy ok0
  go_enter Tryz.func22, Tryz.ntmps22
  go_wp2_with fail
  rw [HW.out.1]
  with_reducible refine hc.mono ?_
  rintro e X ⟨rfl, hb⟩
  have HB : Hid (Below w.heap.size w X ∧ IsCells X (w.heap.size + 1) #[.int .i64 0, .bool false, .int .i64 0, .bool false, .string ⟨#[]⟩, .slice none 0 0]) := ⟨HW.out.2.1.trans (hb.mono HW.out.2.1.size), HW.out.2.2.of_block (hb.block _ HW.out.2.2.lt)⟩
  clear hb
  clear hc c0 c1 c2 c3 c4 c5
  have hd := HLN.out X
  go_wp2_with fail
  with_reducible refine hd.mono ?_
  clear hd
  rintro e Y ⟨ga, gm, gc, rfl, rfl, hb⟩
  have HB : Hid (Below w.heap.size w Y ∧ IsCells Y (w.heap.size + 1) #[.int .i64 0, .bool false, .int .i64 0, .bool false, .string ⟨#[]⟩, .slice none 0 0]) := ⟨HB.out.1.trans (hb.mono HB.out.1.size), HB.out.2.of_block (hb.block _ HB.out.2.lt)⟩
  clear hb
  have hd := dnum_t Y (gm : Int)
  go_wp2_with fail
  with_reducible refine hd.mono ?_
  clear hd
  rintro e V ⟨rfl, hb⟩
  have HB : Hid (Below w.heap.size w V ∧ IsCells V (w.heap.size + 1) #[.int .i64 0, .bool false, .int .i64 0, .bool false, .string ⟨#[]⟩, .slice none 0 0]) := ⟨HB.out.1.trans (hb.mono HB.out.1.size), HB.out.2.of_block (hb.block _ HB.out.2.lt)⟩
  clear hb
  obtain ⟨z0, z1, z2, z3, z4, z5⟩ := six_cells HB.out.2
  obtain ⟨f0, f1, f2, f3, f4, f5⟩ := six_frozen HB.out.2
  go_wp2
  obtain ⟨y0, y1, y2, y3, y4, y5⟩ := six_cells (set6 HB.out.2 (.int .i64 2) (.bool false) (.int .i64 (gm : Int)) (.bool false) (.string ⟨#[]⟩) (.slice none 0 0))
  exact bodyPost_ret (v := .agg #[.int .i64 2, .bool false, .int .i64 (gm : Int), .bool false, .string ⟨#[]⟩, .slice none 0 0]) (by simp [results, Tryz.results22, go_sem, y0, y1, y2, y3, y4, y5]) rfl ⟨rfl, below6 HB.out.1 (Nat.le_succ _) _ _ _ _ _ _⟩

set_option maxHeartbeats 4000000 in
set_option maxRecDepth 100000 in
theorem dcalled_count (w : World) {ps la : Int} {nm tx : ByteArray} {ta : Option Addr} {tl tc : Nat} {aa xa : Option Addr} {ac xc b o : Nat} {xk xn : Int} {xb xo : Bool} {xt : ByteArray} {xL : List ByteArray} (h0 : AOk w aa 0 ⟨xk, xb, xn, xo, xt, xL⟩ xa xc b o) (hl : xL.length ≤ 4611686018427387904) :
    Calls Tryz.prog 22 #[.string ⟨#[99, 111, 117, 110, 116]⟩, .agg #[.int .i64 ps, .int .i64 la, .string nm, .string tx, .slice ta tl tc], .slice aa 1 ac] w fun e w' => e = .returned (mkV 2 false (cntV xk xL.length).1 (!(cntV xk xL.length).2) ⟨#[]⟩) ∧ Below w.heap.size w w' := by
  obtain ⟨W, hW⟩ : ∃ W, ((w.alloc (.cells #[.int .i64 ps, .int .i64 la, .string nm, .string tx, .slice ta tl tc] 45)).alloc (.cells #[.int .i64 0, .bool false, .int .i64 0, .bool false, .string ⟨#[]⟩, .slice none 0 0] 24)) = W := ⟨_, rfl⟩
  have hbW : Below w.heap.size w W := by rw [← hW]; exact below2 _ _ _
  have hx : IsCells W w.heap.size #[.int .i64 ps, .int .i64 la, .string nm, .string tx, .slice ta tl tc] := by rw [← hW]; exact (isCells_new w _ 45).alloc _
  have hy : IsCells W (w.heap.size + 1) #[.int .i64 0, .bool false, .int .i64 0, .bool false, .string ⟨#[]⟩, .slice none 0 0] := by
    have := isCells_new (w.alloc (.cells #[.int .i64 ps, .int .i64 la, .string nm, .string tx, .slice ta tl tc] 45)) #[.int .i64 0, .bool false, .int .i64 0, .bool false, .string ⟨#[]⟩, .slice none 0 0] 24
    rw [hW] at this
    simpa using this
  have HW : Hid (((w.alloc (.cells #[.int .i64 ps, .int .i64 la, .string nm, .string tx, .slice ta tl tc] 45)).alloc (.cells #[.int .i64 0, .bool false, .int .i64 0, .bool false, .string ⟨#[]⟩, .slice none 0 0] 24)) = W ∧ Below w.heap.size w W ∧ IsCells W (w.heap.size + 1) #[.int .i64 0, .bool false, .int .i64 0, .bool false, .string ⟨#[]⟩, .slice none 0 0]) := ⟨hW, hbW, hy⟩
  obtain ⟨rfl, lt0, c0, c1, c2, c3, c4, c5, ok0⟩ := h0
  simp only [Nat.zero_mul, Nat.add_zero] at c0 c1 c2 c3 c4 c5
  have HK : Hid (∀ X, Below W.heap.size W X → (fun X => X.cell? ⟨b, o, none⟩ = some (.int .i64 xk) ∧ X.cell? ⟨b, o + 1, none⟩ = some (.bool xb) ∧ X.cell? ⟨b, o + 2, none⟩ = some (.int .i64 xn) ∧ X.cell? ⟨b, o + 3, none⟩ = some (.bool xo) ∧ X.cell? ⟨b, o + 4, none⟩ = some (.string xt) ∧ X.cell? ⟨b, o + 5, none⟩ = some (.slice xa xL.length xc)) X) := fun X hX => by
    have hq : Below w.heap.size w X := hbW.trans (hX.mono hbW.size)
    have hce := fun k => hq.cell (p := ⟨b, k, none⟩) lt0
    exact ⟨(hce _).trans c0, (hce _).trans c1, (hce _).trans c2, (hce _).trans c3, (hce _).trans c4, (hce _).trans c5⟩
  have HK2 : Hid (∀ (X : World) (y0 y1 y2 y3 y4 y5 : Value), (fun X => X.cell? ⟨b, o, none⟩ = some (.int .i64 xk) ∧ X.cell? ⟨b, o + 1, none⟩ = some (.bool xb) ∧ X.cell? ⟨b, o + 2, none⟩ = some (.int .i64 xn) ∧ X.cell? ⟨b, o + 3, none⟩ = some (.bool xo) ∧ X.cell? ⟨b, o + 4, none⟩ = some (.string xt) ∧ X.cell? ⟨b, o + 5, none⟩ = some (.slice xa xL.length xc)) X → (fun X => X.cell? ⟨b, o, none⟩ = some (.int .i64 xk) ∧ X.cell? ⟨b, o + 1, none⟩ = some (.bool xb) ∧ X.cell? ⟨b, o + 2, none⟩ = some (.int .i64 xn) ∧ X.cell? ⟨b, o + 3, none⟩ = some (.bool xo) ∧ X.cell? ⟨b, o + 4, none⟩ = some (.string xt) ∧ X.cell? ⟨b, o + 5, none⟩ = some (.slice xa xL.length xc)) ((((((X.setCell ⟨w.heap.size + 1, 0, none⟩ y0).setCell ⟨w.heap.size + 1, 1, none⟩ y1).setCell ⟨w.heap.size + 1, 2, none⟩ y2).setCell ⟨w.heap.size + 1, 3, none⟩ y3).setCell ⟨w.heap.size + 1, 4, none⟩ y4).setCell ⟨w.heap.size + 1, 5, none⟩ y5)) := fun X y0 y1 y2 y3 y4 y5 h => by
    have hne : b ≠ w.heap.size + 1 := by omega
    have hbl : ((((((X.setCell ⟨w.heap.size + 1, 0, none⟩ y0).setCell ⟨w.heap.size + 1, 1, none⟩ y1).setCell ⟨w.heap.size + 1, 2, none⟩ y2).setCell ⟨w.heap.size + 1, 3, none⟩ y3).setCell ⟨w.heap.size + 1, 4, none⟩ y4).setCell ⟨w.heap.size + 1, 5, none⟩ y5).heap[b]? = X.heap[b]? := (Below.heap_setCell _ _ _ _ hne).trans ((Below.heap_setCell _ _ _ _ hne).trans ((Below.heap_setCell _ _ _ _ hne).trans ((Below.heap_setCell _ _ _ _ hne).trans ((Below.heap_setCell _ _ _ _ hne).trans (Below.heap_setCell _ _ _ _ hne)))))
    have hce := fun k => World.cell?_of_block (w := X) (a := ⟨b, k, none⟩) hbl
    obtain ⟨q0, q1, q2, q3, q4, q5⟩ := h
    exact ⟨(hce _).trans q0, (hce _).trans q1, (hce _).trans q2, (hce _).trans q3, (hce _).trans q4, (hce _).trans q5⟩
  obtain ⟨P, hP⟩ : ∃ P, (xk == 4) = P := ⟨_, rfl⟩
  obtain ⟨R, HR⟩ : ∃ R, Hid ((if P then (xL.length : Int) else 0) = R) := ⟨_, rfl⟩
  rw [cnt_eq, hP, show mkV 2 false ((if P = true then (xL.length : Int) else 0), P).1 (!((if P = true then (xL.length : Int) else 0), P).2) ⟨#[]⟩ = mkV 2 false R (!P) ⟨#[]⟩ from by rw [← HR.out]]
  have HF : Hid (∀ u, Below W.heap.size W u → Calls Tryz.prog 49 #[.agg #[.bool P, .int .i64 (xL.length : Int)]] u fun e w' => e = .returned (mkV 2 false R (!P) ⟨#[]⟩) ∧ Below u.heap.size u w') := fun u _ => by
    have h := dnumber_any u (xL.length : Int) P
    rw [HR.out] at h
    exact h
  clear hW hbW hx hy ok0 c0 c1 c2 c3 c4 c5
  go_enter Tryz.func22, Tryz.ntmps22
  go_wp2_with fail
  rw [HW.out.1]
  have HB : Hid (Below W.heap.size W W.drew) := (Below.refl _ _).drew
  have hK := HK.out _ HB.out
  go_region_held3 (fun X => X.cell? ⟨b, o, none⟩ = some (.int .i64 xk) ∧ X.cell? ⟨b, o + 1, none⟩ = some (.bool xb) ∧ X.cell? ⟨b, o + 2, none⟩ = some (.int .i64 xn) ∧ X.cell? ⟨b, o + 3, none⟩ = some (.bool xo) ∧ X.cell? ⟨b, o + 4, none⟩ = some (.string xt) ∧ X.cell? ⟨b, o + 5, none⟩ = some (.slice xa xL.length xc)) (first | with_reducible exact hK | with_reducible exact HK2.out _ _ _ _ _ _ _ hK | go_keep) (first | (go_at_call 49; (with_reducible refine (HF.out _ HB.out).mono ?_); rintro e w' ⟨rfl, hb⟩; have HB : Hid (Below W.heap.size W w') := HB.out.trans (hb.mono HB.out.size); have hK := HK.out w' HB.out; obtain ⟨z0, z1, z2, z3, z4, z5⟩ := six_cells (HW.out.2.2.of_block (HB.out.block _ HW.out.2.2.lt)); obtain ⟨f0, f1, f2, f3, f4, f5⟩ := six_frozen (HW.out.2.2.of_block (HB.out.block _ HW.out.2.2.lt)); clear hb))
  all_goals go_wp2
  all_goals (obtain ⟨y0, y1, y2, y3, y4, y5⟩ := six_cells (set6 (HW.out.2.2.of_block (HB.out.block _ HW.out.2.2.lt)) (.int .i64 2) (.bool false) (.int .i64 R) (.bool (!P)) (.string ⟨#[]⟩) (.slice none 0 0)))
  all_goals exact bodyPost_ret (v := .agg #[.int .i64 2, .bool false, .int .i64 R, .bool (!P), .string ⟨#[]⟩, .slice none 0 0]) (by simp [results, Tryz.results22, go_sem, y0, y1, y2, y3, y4, y5]) rfl ⟨rfl, below6 (HW.out.2.1.trans (HB.out.mono HW.out.2.1.size)) (Nat.le_succ _) _ _ _ _ _ _⟩

set_option maxHeartbeats 4000000 in
set_option maxRecDepth 100000 in
theorem dcalled_starts (w : World) {ps la : Int} {nm tx : ByteArray} {ta : Option Addr} {tl tc : Nat} {aa xa ya : Option Addr} {ac xc yc b o b2 o2 : Nat} {xk xn yk yn : Int} {xb xo yb yo : Bool} {xt yt : ByteArray} {xL yL : List ByteArray} (h0 : AOk w aa 0 ⟨xk, xb, xn, xo, xt, xL⟩ xa xc b o) (h1 : AOk w aa 1 ⟨yk, yb, yn, yo, yt, yL⟩ ya yc b2 o2) :
    Calls Tryz.prog 22 #[.string ⟨#[115, 116, 97, 114, 116, 115]⟩, .agg #[.int .i64 ps, .int .i64 la, .string nm, .string tx, .slice ta tl tc], .slice aa 2 ac] w fun e w' => e = .returned (mkV 1 (Lib.hasPrefix (Tx (txV xk xb xn xo xt xL)) (Tx (txV yk yb yn yo yt yL))) 0 false ⟨#[]⟩) ∧ Below w.heap.size w w' := by
  obtain ⟨W, hW⟩ : ∃ W, ((w.alloc (.cells #[.int .i64 ps, .int .i64 la, .string nm, .string tx, .slice ta tl tc] 45)).alloc (.cells #[.int .i64 0, .bool false, .int .i64 0, .bool false, .string ⟨#[]⟩, .slice none 0 0] 24)) = W := ⟨_, rfl⟩
  have hbW : Below w.heap.size w W := by rw [← hW]; exact below2 _ _ _
  have hx : IsCells W w.heap.size #[.int .i64 ps, .int .i64 la, .string nm, .string tx, .slice ta tl tc] := by rw [← hW]; exact (isCells_new w _ 45).alloc _
  have hy : IsCells W (w.heap.size + 1) #[.int .i64 0, .bool false, .int .i64 0, .bool false, .string ⟨#[]⟩, .slice none 0 0] := by
    have := isCells_new (w.alloc (.cells #[.int .i64 ps, .int .i64 la, .string nm, .string tx, .slice ta tl tc] 45)) #[.int .i64 0, .bool false, .int .i64 0, .bool false, .string ⟨#[]⟩, .slice none 0 0] 24
    rw [hW] at this
    simpa using this
  have HW : Hid (((w.alloc (.cells #[.int .i64 ps, .int .i64 la, .string nm, .string tx, .slice ta tl tc] 45)).alloc (.cells #[.int .i64 0, .bool false, .int .i64 0, .bool false, .string ⟨#[]⟩, .slice none 0 0] 24)) = W ∧ Below w.heap.size w W ∧ IsCells W (w.heap.size + 1) #[.int .i64 0, .bool false, .int .i64 0, .bool false, .string ⟨#[]⟩, .slice none 0 0]) := ⟨hW, hbW, hy⟩
  obtain ⟨rfl, lt0, c0, c1, c2, c3, c4, c5, ok0⟩ := h0
  obtain ⟨e2, lt1, d0, d1, d2, d3, d4, d5, ok1⟩ := h1
  simp only [Option.some.injEq, Addr.mk.injEq, and_true] at e2
  obtain ⟨rfl, rfl⟩ := e2
  simp only [Nat.zero_mul, Nat.add_zero] at c0 c1 c2 c3 c4 c5
  simp only [Nat.one_mul, Nat.add_assoc, Nat.reduceAdd] at d0 d1 d2 d3 d4 d5
  have HK : Hid (∀ X, Below W.heap.size W X → (fun X => X.cell? ⟨b, o, none⟩ = some (.int .i64 xk) ∧ X.cell? ⟨b, o + 1, none⟩ = some (.bool xb) ∧ X.cell? ⟨b, o + 2, none⟩ = some (.int .i64 xn) ∧ X.cell? ⟨b, o + 3, none⟩ = some (.bool xo) ∧ X.cell? ⟨b, o + 4, none⟩ = some (.string xt) ∧ X.cell? ⟨b, o + 5, none⟩ = some (.slice xa xL.length xc) ∧ X.cell? ⟨b, o + 6, none⟩ = some (.int .i64 yk) ∧ X.cell? ⟨b, o + 7, none⟩ = some (.bool yb) ∧ X.cell? ⟨b, o + 8, none⟩ = some (.int .i64 yn) ∧ X.cell? ⟨b, o + 9, none⟩ = some (.bool yo) ∧ X.cell? ⟨b, o + 10, none⟩ = some (.string yt) ∧ X.cell? ⟨b, o + 11, none⟩ = some (.slice ya yL.length yc)) X) := fun X hX => by
    have hq : Below w.heap.size w X := hbW.trans (hX.mono hbW.size)
    have hce := fun k => hq.cell (p := ⟨b, k, none⟩) lt0
    exact ⟨(hce _).trans c0, (hce _).trans c1, (hce _).trans c2, (hce _).trans c3, (hce _).trans c4, (hce _).trans c5, (hce _).trans d0, (hce _).trans d1, (hce _).trans d2, (hce _).trans d3, (hce _).trans d4, (hce _).trans d5⟩
  have HK2 : Hid (∀ (X : World) (y0 y1 y2 y3 y4 y5 : Value), (fun X => X.cell? ⟨b, o, none⟩ = some (.int .i64 xk) ∧ X.cell? ⟨b, o + 1, none⟩ = some (.bool xb) ∧ X.cell? ⟨b, o + 2, none⟩ = some (.int .i64 xn) ∧ X.cell? ⟨b, o + 3, none⟩ = some (.bool xo) ∧ X.cell? ⟨b, o + 4, none⟩ = some (.string xt) ∧ X.cell? ⟨b, o + 5, none⟩ = some (.slice xa xL.length xc) ∧ X.cell? ⟨b, o + 6, none⟩ = some (.int .i64 yk) ∧ X.cell? ⟨b, o + 7, none⟩ = some (.bool yb) ∧ X.cell? ⟨b, o + 8, none⟩ = some (.int .i64 yn) ∧ X.cell? ⟨b, o + 9, none⟩ = some (.bool yo) ∧ X.cell? ⟨b, o + 10, none⟩ = some (.string yt) ∧ X.cell? ⟨b, o + 11, none⟩ = some (.slice ya yL.length yc)) X → (fun X => X.cell? ⟨b, o, none⟩ = some (.int .i64 xk) ∧ X.cell? ⟨b, o + 1, none⟩ = some (.bool xb) ∧ X.cell? ⟨b, o + 2, none⟩ = some (.int .i64 xn) ∧ X.cell? ⟨b, o + 3, none⟩ = some (.bool xo) ∧ X.cell? ⟨b, o + 4, none⟩ = some (.string xt) ∧ X.cell? ⟨b, o + 5, none⟩ = some (.slice xa xL.length xc) ∧ X.cell? ⟨b, o + 6, none⟩ = some (.int .i64 yk) ∧ X.cell? ⟨b, o + 7, none⟩ = some (.bool yb) ∧ X.cell? ⟨b, o + 8, none⟩ = some (.int .i64 yn) ∧ X.cell? ⟨b, o + 9, none⟩ = some (.bool yo) ∧ X.cell? ⟨b, o + 10, none⟩ = some (.string yt) ∧ X.cell? ⟨b, o + 11, none⟩ = some (.slice ya yL.length yc)) ((((((X.setCell ⟨w.heap.size + 1, 0, none⟩ y0).setCell ⟨w.heap.size + 1, 1, none⟩ y1).setCell ⟨w.heap.size + 1, 2, none⟩ y2).setCell ⟨w.heap.size + 1, 3, none⟩ y3).setCell ⟨w.heap.size + 1, 4, none⟩ y4).setCell ⟨w.heap.size + 1, 5, none⟩ y5)) := fun X y0 y1 y2 y3 y4 y5 h => by
    have hne : b ≠ w.heap.size + 1 := by omega
    have hbl : ((((((X.setCell ⟨w.heap.size + 1, 0, none⟩ y0).setCell ⟨w.heap.size + 1, 1, none⟩ y1).setCell ⟨w.heap.size + 1, 2, none⟩ y2).setCell ⟨w.heap.size + 1, 3, none⟩ y3).setCell ⟨w.heap.size + 1, 4, none⟩ y4).setCell ⟨w.heap.size + 1, 5, none⟩ y5).heap[b]? = X.heap[b]? := (Below.heap_setCell _ _ _ _ hne).trans ((Below.heap_setCell _ _ _ _ hne).trans ((Below.heap_setCell _ _ _ _ hne).trans ((Below.heap_setCell _ _ _ _ hne).trans ((Below.heap_setCell _ _ _ _ hne).trans (Below.heap_setCell _ _ _ _ hne)))))
    have hce := fun k => World.cell?_of_block (w := X) (a := ⟨b, k, none⟩) hbl
    obtain ⟨q0, q1, q2, q3, q4, q5, q6, q7, q8, q9, q10, q11⟩ := h
    exact ⟨(hce _).trans q0, (hce _).trans q1, (hce _).trans q2, (hce _).trans q3, (hce _).trans q4, (hce _).trans q5, (hce _).trans q6, (hce _).trans q7, (hce _).trans q8, (hce _).trans q9, (hce _).trans q10, (hce _).trans q11⟩
  have HA : Hid (∀ u, Below W.heap.size W u → Calls Tryz.prog 17 #[.agg #[.int .i64 xk, .bool xb, .int .i64 xn, .bool xo, .string xt, .slice xa xL.length xc]] u fun e w' => e = .returned (.string (txV xk xb xn xo xt xL)) ∧ Below u.heap.size u w') := fun u hu => dtext_val u (ok0.bel (hbW.trans (hu.mono hbW.size)))
  have HC : Hid (∀ u, Below W.heap.size W u → Calls Tryz.prog 17 #[.agg #[.int .i64 yk, .bool yb, .int .i64 yn, .bool yo, .string yt, .slice ya yL.length yc]] u fun e w' => e = .returned (.string (txV yk yb yn yo yt yL)) ∧ Below u.heap.size u w') := fun u hu => dtext_val u (ok1.bel (hbW.trans (hu.mono hbW.size)))
  have HSZ : Hid ((txV xk xb xn xo xt xL).size ≤ 281474976710656 ∧ (txV yk yb yn yo yt yL).size ≤ 281474976710656) := ⟨tx_small ok0, tx_small ok1⟩
  rw [starts_occ]
  have HF : Hid (∀ u, Below W.heap.size W u → Calls Tryz.prog 52 #[.string (txV xk xb xn xo xt xL), .string (txV yk yb yn yo yt yL), .int .i64 0] u fun e w' => e = .returned (.bool (Lib.occAt (Tx (txV xk xb xn xo xt xL)) (Tx (txV yk yb yn yo yt yL)) 0)) ∧ Below u.heap.size u w') := fun u _ => (dhas_any u _ _ 0 (by omega) HSZ.out.1 HSZ.out.2).mono (fun e w' h => ⟨h.1, by rw [h.2]; exact Below.refl _ _⟩)
  generalize Lib.occAt (Tx (txV xk xb xn xo xt xL)) (Tx (txV yk yb yn yo yt yL)) 0 = R at *
  generalize txV xk xb xn xo xt xL = qx at *
  generalize txV yk yb yn yo yt yL = qy at *
  clear hW hbW hx hy ok0 ok1 c0 c1 c2 c3 c4 c5 d0 d1 d2 d3 d4 d5
  go_enter Tryz.func22, Tryz.ntmps22
  go_wp2_with fail
  rw [HW.out.1]
  have HB : Hid (Below W.heap.size W W.drew) := (Below.refl _ _).drew
  have hK := HK.out _ HB.out
  go_region_held3 (fun X => X.cell? ⟨b, o, none⟩ = some (.int .i64 xk) ∧ X.cell? ⟨b, o + 1, none⟩ = some (.bool xb) ∧ X.cell? ⟨b, o + 2, none⟩ = some (.int .i64 xn) ∧ X.cell? ⟨b, o + 3, none⟩ = some (.bool xo) ∧ X.cell? ⟨b, o + 4, none⟩ = some (.string xt) ∧ X.cell? ⟨b, o + 5, none⟩ = some (.slice xa xL.length xc) ∧ X.cell? ⟨b, o + 6, none⟩ = some (.int .i64 yk) ∧ X.cell? ⟨b, o + 7, none⟩ = some (.bool yb) ∧ X.cell? ⟨b, o + 8, none⟩ = some (.int .i64 yn) ∧ X.cell? ⟨b, o + 9, none⟩ = some (.bool yo) ∧ X.cell? ⟨b, o + 10, none⟩ = some (.string yt) ∧ X.cell? ⟨b, o + 11, none⟩ = some (.slice ya yL.length yc)) (first | with_reducible exact hK | with_reducible exact HK2.out _ _ _ _ _ _ _ hK | go_keep) (first | (go_at_call 17; (with_reducible refine (HA.out _ HB.out).mono ?_); rintro e w' ⟨rfl, hb⟩; have HB : Hid (Below W.heap.size W w') := HB.out.trans (hb.mono HB.out.size); have hK := HK.out w' HB.out; obtain ⟨z0, z1, z2, z3, z4, z5⟩ := six_cells (HW.out.2.2.of_block (HB.out.block _ HW.out.2.2.lt)); obtain ⟨f0, f1, f2, f3, f4, f5⟩ := six_frozen (HW.out.2.2.of_block (HB.out.block _ HW.out.2.2.lt)); clear hb) | (go_at_call 17; (with_reducible refine (HC.out _ HB.out).mono ?_); rintro e w' ⟨rfl, hb⟩; have HB : Hid (Below W.heap.size W w') := HB.out.trans (hb.mono HB.out.size); have hK := HK.out w' HB.out; obtain ⟨z0, z1, z2, z3, z4, z5⟩ := six_cells (HW.out.2.2.of_block (HB.out.block _ HW.out.2.2.lt)); obtain ⟨f0, f1, f2, f3, f4, f5⟩ := six_frozen (HW.out.2.2.of_block (HB.out.block _ HW.out.2.2.lt)); clear hb) | (go_at_call 52; (with_reducible refine (HF.out _ HB.out).mono ?_); rintro e w' ⟨rfl, hb⟩; have HB : Hid (Below W.heap.size W w') := HB.out.trans (hb.mono HB.out.size); have hK := HK.out w' HB.out; obtain ⟨z0, z1, z2, z3, z4, z5⟩ := six_cells (HW.out.2.2.of_block (HB.out.block _ HW.out.2.2.lt)); obtain ⟨f0, f1, f2, f3, f4, f5⟩ := six_frozen (HW.out.2.2.of_block (HB.out.block _ HW.out.2.2.lt)); clear hb) | (go_at_call 44; (with_reducible refine (dtruth_any _ R).mono ?_); rintro e w' ⟨rfl, hb⟩; have HB : Hid (Below W.heap.size W w') := HB.out.trans (hb.mono HB.out.size); have hK := HK.out w' HB.out; obtain ⟨z0, z1, z2, z3, z4, z5⟩ := six_cells (HW.out.2.2.of_block (HB.out.block _ HW.out.2.2.lt)); obtain ⟨f0, f1, f2, f3, f4, f5⟩ := six_frozen (HW.out.2.2.of_block (HB.out.block _ HW.out.2.2.lt)); clear hb))
  all_goals go_wp2
  all_goals (obtain ⟨y0, y1, y2, y3, y4, y5⟩ := six_cells (set6 (HW.out.2.2.of_block (HB.out.block _ HW.out.2.2.lt)) (.int .i64 1) (.bool R) (.int .i64 0) (.bool false) (.string ⟨#[]⟩) (.slice none 0 0)))
  all_goals exact bodyPost_ret (v := .agg #[.int .i64 1, .bool R, .int .i64 0, .bool false, .string ⟨#[]⟩, .slice none 0 0]) (by simp [results, Tryz.results22, go_sem, y0, y1, y2, y3, y4, y5]) rfl ⟨rfl, below6 (HW.out.2.1.trans (HB.out.mono HW.out.2.1.size)) (Nat.le_succ _) _ _ _ _ _ _⟩

set_option maxHeartbeats 4000000 in
set_option maxRecDepth 100000 in
theorem dcalled_contains (w : World) {ps la : Int} {nm tx : ByteArray} {ta : Option Addr} {tl tc : Nat} {aa xa ya : Option Addr} {ac xc yc b o b2 o2 : Nat} {xk xn yk yn : Int} {xb xo yb yo : Bool} {xt yt : ByteArray} {xL yL : List ByteArray} (h0 : AOk w aa 0 ⟨xk, xb, xn, xo, xt, xL⟩ xa xc b o) (h1 : AOk w aa 1 ⟨yk, yb, yn, yo, yt, yL⟩ ya yc b2 o2) :
    Calls Tryz.prog 22 #[.string ⟨#[99, 111, 110, 116, 97, 105, 110, 115]⟩, .agg #[.int .i64 ps, .int .i64 la, .string nm, .string tx, .slice ta tl tc], .slice aa 2 ac] w fun e w' => e = .returned (mkV 1 (Lib.contains (Tx (txV xk xb xn xo xt xL)) (Tx (txV yk yb yn yo yt yL))) 0 false ⟨#[]⟩) ∧ Below w.heap.size w w' := by
  obtain ⟨W, hW⟩ : ∃ W, ((w.alloc (.cells #[.int .i64 ps, .int .i64 la, .string nm, .string tx, .slice ta tl tc] 45)).alloc (.cells #[.int .i64 0, .bool false, .int .i64 0, .bool false, .string ⟨#[]⟩, .slice none 0 0] 24)) = W := ⟨_, rfl⟩
  have hbW : Below w.heap.size w W := by rw [← hW]; exact below2 _ _ _
  have hx : IsCells W w.heap.size #[.int .i64 ps, .int .i64 la, .string nm, .string tx, .slice ta tl tc] := by rw [← hW]; exact (isCells_new w _ 45).alloc _
  have hy : IsCells W (w.heap.size + 1) #[.int .i64 0, .bool false, .int .i64 0, .bool false, .string ⟨#[]⟩, .slice none 0 0] := by
    have := isCells_new (w.alloc (.cells #[.int .i64 ps, .int .i64 la, .string nm, .string tx, .slice ta tl tc] 45)) #[.int .i64 0, .bool false, .int .i64 0, .bool false, .string ⟨#[]⟩, .slice none 0 0] 24
    rw [hW] at this
    simpa using this
  have HW : Hid (((w.alloc (.cells #[.int .i64 ps, .int .i64 la, .string nm, .string tx, .slice ta tl tc] 45)).alloc (.cells #[.int .i64 0, .bool false, .int .i64 0, .bool false, .string ⟨#[]⟩, .slice none 0 0] 24)) = W ∧ Below w.heap.size w W ∧ IsCells W (w.heap.size + 1) #[.int .i64 0, .bool false, .int .i64 0, .bool false, .string ⟨#[]⟩, .slice none 0 0]) := ⟨hW, hbW, hy⟩
  obtain ⟨rfl, lt0, c0, c1, c2, c3, c4, c5, ok0⟩ := h0
  obtain ⟨e2, lt1, d0, d1, d2, d3, d4, d5, ok1⟩ := h1
  simp only [Option.some.injEq, Addr.mk.injEq, and_true] at e2
  obtain ⟨rfl, rfl⟩ := e2
  simp only [Nat.zero_mul, Nat.add_zero] at c0 c1 c2 c3 c4 c5
  simp only [Nat.one_mul, Nat.add_assoc, Nat.reduceAdd] at d0 d1 d2 d3 d4 d5
  have HA : Hid (∀ u, Below W.heap.size W u → Calls Tryz.prog 17 #[.agg #[.int .i64 xk, .bool xb, .int .i64 xn, .bool xo, .string xt, .slice xa xL.length xc]] u fun e w' => e = .returned (.string (txV xk xb xn xo xt xL)) ∧ Below u.heap.size u w') := fun u hu => dtext_val u (ok0.bel (hbW.trans (hu.mono hbW.size)))
  have HC : Hid (∀ u, Below W.heap.size W u → Calls Tryz.prog 17 #[.agg #[.int .i64 yk, .bool yb, .int .i64 yn, .bool yo, .string yt, .slice ya yL.length yc]] u fun e w' => e = .returned (.string (txV yk yb yn yo yt yL)) ∧ Below u.heap.size u w') := fun u hu => dtext_val u (ok1.bel (hbW.trans (hu.mono hbW.size)))
  have HSZ : Hid ((txV xk xb xn xo xt xL).size ≤ 281474976710656 ∧ (txV yk yb yn yo yt yL).size ≤ 281474976710656) := ⟨tx_small ok0, tx_small ok1⟩
  have HC1 : Hid (∀ u : Bel W, Calls Tryz.prog 17 #[.agg #[.int .i64 xk, .bool xb, .int .i64 xn, .bool xo, .string xt, .slice xa xL.length xc]] u.w fun e w' => e = .returned (.string (txV xk xb xn xo xt xL)) ∧ Below u.w.heap.size u.w w') := fun u => HA.out u.w u.h
  have HC2 : Hid (∀ u : Bel W, Calls Tryz.prog 17 #[.agg #[.int .i64 yk, .bool yb, .int .i64 yn, .bool yo, .string yt, .slice ya yL.length yc]] u.w fun e w' => e = .returned (.string (txV yk yb yn yo yt yL)) ∧ Below u.w.heap.size u.w w') := fun u => HC.out u.w u.h
  have hce := fun k => hbW.cell (p := ⟨b, k, none⟩) lt0
  replace c0 := (hce _).trans c0
  replace c1 := (hce _).trans c1
  replace c2 := (hce _).trans c2
  replace c3 := (hce _).trans c3
  replace c4 := (hce _).trans c4
  replace c5 := (hce _).trans c5
  replace d0 := (hce _).trans d0
  replace d1 := (hce _).trans d1
  replace d2 := (hce _).trans d2
  replace d3 := (hce _).trans d3
  replace d4 := (hce _).trans d4
  replace d5 := (hce _).trans d5
  have bl : b < W.heap.size := Nat.lt_of_lt_of_le lt0 hbW.size
  clear hW hbW hx hy ok0 ok1 lt0 lt1 hce HA HC
  obtain ⟨R, HR⟩ : ∃ R, Hid (Lib.contains (Tx (txV xk xb xn xo xt xL)) (Tx (txV yk yb yn yo yt yL)) = R) := ⟨_, rfl⟩
  rw [HR.out]
  generalize txV xk xb xn xo xt xL = qx at *
  generalize txV yk yb yn yo yt yL = qy at *
  go_enter Tryz.func22, Tryz.ntmps22
  go_wp2_with fail
  rw [HW.out.1]
  refine wp_region_bel (by kernel_rfl) (by kernel_rfl) ?_
  intro hne
  repeat go_big_quiet_step (first | (go_at_call 17; with_reducible exact Calls.bel_of (HC1.out _)) | (go_at_call 17; with_reducible exact Calls.bel_of (HC2.out _)))
  refine wpQuiet_nil ?_
  rintro _ ⟨u, rfl⟩
  have HU : Hid (Below w.heap.size w u.w ∧ IsCells u.w (w.heap.size + 1) #[.int .i64 0, .bool false, .int .i64 0, .bool false, .string ⟨#[]⟩, .slice none 0 0]) := ⟨HW.out.2.1.trans (u.h.mono HW.out.2.1.size), HW.out.2.2.of_block (u.h.block _ HW.out.2.2.lt)⟩
  generalize u.w = W6 at *
  clear c0 c1 c2 c3 c4 c5 d0 d1 d2 d3 d4 d5 hne bl HC1 HC2
  have hqx : qx.size ≤ 281474976710656 := HSZ.out.1
  go_wp2
  go_loopw [9] (fun v wr => ∃ i : Nat, i ≤ qx.size + 1 ∧ v = .int .i64 (i : Int) ∧ wr = W6 ∧ Hid (∀ j, j < i → Lib.occAt (Tx qx) (Tx qy) j = false)) (fun v _ => qx.size + 1 - (intOf v).toNat)
  case atStart => exact ⟨0, by omega, rfl, rfl, fun j hj => by omega⟩
  case round =>
    obtain ⟨i, hi, rfl, rfl, HO⟩ := hrel
    by_cases hle : i ≤ qx.size
    · have hlez : (i : Int) ≤ (qx.size : Int) := by omega
      have hh := dhas_any wr qx qy i hle HSZ.out.1 HSZ.out.2
      have HO2 : Hid (Lib.occAt (Tx qx) (Tx qy) i = false → ∀ j, j < i + 1 → Lib.occAt (Tx qx) (Tx qy) j = false) := fun h j hj => by
        rcases Nat.lt_or_ge j i with g | g
        · exact HO.out j g
        · obtain rfl : j = i := by omega
          exact h
      have HO3 : Hid (Lib.occAt (Tx qx) (Tx qy) i = true → R = true) := fun h => by rw [← HR.out, contains_iff]; exact ⟨i, by simpa using hle, h⟩
      generalize Lib.occAt (Tx qx) (Tx qy) i = q at *
      go_wp2_with fail
      with_reducible refine hh.mono ?_
      rintro e wr ⟨rfl, rfl⟩
      cases q with
      | true =>
        obtain rfl := HO3.out rfl
        have ht := dtruth_any wr true
        go_wp2_with fail
        with_reducible refine ht.mono ?_
        rintro e X ⟨rfl, hb⟩
        have HB2 : Hid (Below w.heap.size w X ∧ IsCells X (w.heap.size + 1) #[.int .i64 0, .bool false, .int .i64 0, .bool false, .string ⟨#[]⟩, .slice none 0 0]) := ⟨HU.out.1.trans (hb.mono HU.out.1.size), HU.out.2.of_block (hb.block _ HU.out.2.lt)⟩
        clear hb ht
        obtain ⟨z0, z1, z2, z3, z4, z5⟩ := six_cells HB2.out.2
        obtain ⟨f0, f1, f2, f3, f4, f5⟩ := six_frozen HB2.out.2
        go_wp2
        obtain ⟨y0, y1, y2, y3, y4, y5⟩ := six_cells (set6 HB2.out.2 (.int .i64 1) (.bool true) (.int .i64 0) (.bool false) (.string ⟨#[]⟩) (.slice none 0 0))
        exact bodyPost_ret (v := .agg #[.int .i64 1, .bool true, .int .i64 0, .bool false, .string ⟨#[]⟩, .slice none 0 0]) (by simp [results, Tryz.results22, go_sem, y0, y1, y2, y3, y4, y5]) rfl ⟨rfl, below6 HB2.out.1 (Nat.le_succ _) _ _ _ _ _ _⟩
      | false =>
        go_wp2
        go_roundw
        case rel => exact ⟨i + 1, by omega, by go_num, trivial, HO2.out trivial⟩
        case measure => simp [intOf]; omega
    · have hlez : ¬ (i : Int) ≤ (qx.size : Int) := by omega
      have hfin : R = false := by
        rw [← HR.out, Bool.eq_false_iff]
        intro h
        obtain ⟨j, hj, hq⟩ := (contains_iff _ _).1 h
        rw [HO.out j (by simp at hj; omega)] at hq
        cases hq
      subst hfin
      · have ht := dtruth_any wr false
        go_wp2_with fail
        with_reducible refine ht.mono ?_
        rintro e X ⟨rfl, hb⟩
        have HB2 : Hid (Below w.heap.size w X ∧ IsCells X (w.heap.size + 1) #[.int .i64 0, .bool false, .int .i64 0, .bool false, .string ⟨#[]⟩, .slice none 0 0]) := ⟨HU.out.1.trans (hb.mono HU.out.1.size), HU.out.2.of_block (hb.block _ HU.out.2.lt)⟩
        clear hb ht
        obtain ⟨z0, z1, z2, z3, z4, z5⟩ := six_cells HB2.out.2
        obtain ⟨f0, f1, f2, f3, f4, f5⟩ := six_frozen HB2.out.2
        go_wp2
        obtain ⟨y0, y1, y2, y3, y4, y5⟩ := six_cells (set6 HB2.out.2 (.int .i64 1) (.bool false) (.int .i64 0) (.bool false) (.string ⟨#[]⟩) (.slice none 0 0))
        exact bodyPost_ret (v := .agg #[.int .i64 1, .bool false, .int .i64 0, .bool false, .string ⟨#[]⟩, .slice none 0 0]) (by simp [results, Tryz.results22, go_sem, y0, y1, y2, y3, y4, y5]) rfl ⟨rfl, below6 HB2.out.1 (Nat.le_succ _) _ _ _ _ _ _⟩

end Go.Proofs.YtoabgmpcdnikeaaGreatDoor
