/- What a function answers: the program's called. Printed by tools/gen14_called.py. -/
import Derived.Test.YtoabgmpcdnikeaaGreatDoorVr
namespace Go.Proofs.YtoabgmpcdnikeaaGreatDoor
open Go.RowKit
set_option linter.unusedVariables false

theorem set6 {w : World} {B : Nat} {x0 x1 x2 x3 x4 x5 : Value} (h : IsCells w B #[x0, x1, x2, x3, x4, x5]) (y0 y1 y2 y3 y4 y5 : Value) : IsCells ((((((w.setCell ⟨B, 0, none⟩ y0).setCell ⟨B, 1, none⟩ y1).setCell ⟨B, 2, none⟩ y2).setCell ⟨B, 3, none⟩ y3).setCell ⟨B, 4, none⟩ y4).setCell ⟨B, 5, none⟩ y5) B #[y0, y1, y2, y3, y4, y5] := by
  have := (((((h.set 0 y0).set 1 y1).set 2 y2).set 3 y3).set 4 y4).set 5 y5
  simpa using this
theorem below6 {H : Nat} {w0 w : World} {B : Nat} (h : Below H w0 w) (hB : H ≤ B) (y0 y1 y2 y3 y4 y5 : Value) : Below H w0 ((((((w.setCell ⟨B, 0, none⟩ y0).setCell ⟨B, 1, none⟩ y1).setCell ⟨B, 2, none⟩ y2).setCell ⟨B, 3, none⟩ y3).setCell ⟨B, 4, none⟩ y4).setCell ⟨B, 5, none⟩ y5) :=
  (((((h.setCell (p := ⟨B, 0, none⟩) hB y0).setCell (p := ⟨B, 1, none⟩) hB y1).setCell (p := ⟨B, 2, none⟩) hB y2).setCell (p := ⟨B, 3, none⟩) hB y3).setCell (p := ⟨B, 4, none⟩) hB y4).setCell (p := ⟨B, 5, none⟩) hB y5
theorem six_cells {X : World} {P : Nat} {x0 x1 x2 x3 x4 x5 : Value} (hx : IsCells X P #[x0, x1, x2, x3, x4, x5]) : X.cell? ⟨P, 0, none⟩ = some x0 ∧ X.cell? ⟨P, 1, none⟩ = some x1 ∧ X.cell? ⟨P, 2, none⟩ = some x2 ∧ X.cell? ⟨P, 3, none⟩ = some x3 ∧ X.cell? ⟨P, 4, none⟩ = some x4 ∧ X.cell? ⟨P, 5, none⟩ = some x5 :=
  ⟨hx.cell 0, hx.cell 1, hx.cell 2, hx.cell 3, hx.cell 4, hx.cell 5⟩
theorem six_frozen {X : World} {P : Nat} {cs : Array Value} (hx : IsCells X P cs) : X.frozen? ⟨P, 0, none⟩ = false ∧ X.frozen? ⟨P, 1, none⟩ = false ∧ X.frozen? ⟨P, 2, none⟩ = false ∧ X.frozen? ⟨P, 3, none⟩ = false ∧ X.frozen? ⟨P, 4, none⟩ = false ∧ X.frozen? ⟨P, 5, none⟩ = false :=
  ⟨hx.frozen 0, hx.frozen 1, hx.frozen 2, hx.frozen 3, hx.frozen 4, hx.frozen 5⟩

/-- Values in a list: each six cells. -/
structure AOk (w : World) (a : Option Addr) (i : Nat) (v : Vl) (xa : Option Addr) (xc b o : Nat) : Prop where
  ad : a = some ⟨b, o, none⟩
  lt : b < w.heap.size
  c0 : w.cell? ⟨b, o + i * 6, none⟩ = some (.int .i64 v.k)
  c1 : w.cell? ⟨b, o + i * 6 + 1, none⟩ = some (.bool v.b)
  c2 : w.cell? ⟨b, o + i * 6 + 2, none⟩ = some (.int .i64 v.n)
  c3 : w.cell? ⟨b, o + i * 6 + 3, none⟩ = some (.bool v.no)
  c4 : w.cell? ⟨b, o + i * 6 + 4, none⟩ = some (.string v.t)
  c5 : w.cell? ⟨b, o + i * 6 + 5, none⟩ = some (.slice xa v.L.length xc)
  ok : VOk w v xa
theorem AOk.bel {w w' : World} {a : Option Addr} {i : Nat} {v : Vl} {xa : Option Addr} {xc b o : Nat} (h : AOk w a i v xa xc b o) (hb : Below w.heap.size w w') : AOk w' a i v xa xc b o :=
  ⟨h.ad, Nat.lt_of_lt_of_le h.lt hb.size, (hb.cell (p := ⟨b, o + i * 6, none⟩) h.lt).trans h.c0, (hb.cell (p := ⟨b, o + i * 6 + 1, none⟩) h.lt).trans h.c1, (hb.cell (p := ⟨b, o + i * 6 + 2, none⟩) h.lt).trans h.c2, (hb.cell (p := ⟨b, o + i * 6 + 3, none⟩) h.lt).trans h.c3, (hb.cell (p := ⟨b, o + i * 6 + 4, none⟩) h.lt).trans h.c4, (hb.cell (p := ⟨b, o + i * 6 + 5, none⟩) h.lt).trans h.c5, h.ok.bel hb⟩
def AsAt (w : World) (a : Option Addr) (A : List Vl) : Prop := ∀ i v, A[i]? = some v → ∃ xa xc b o, AOk w a i v xa xc b o
theorem AsAt.bel {w w' : World} {a : Option Addr} {A : List Vl} (h : AsAt w a A) (hb : Below w.heap.size w w') : AsAt w' a A := fun i v hv => by
  obtain ⟨xa, xc, b, o, h1⟩ := h i v hv
  exact ⟨xa, xc, b, o, h1.bel hb⟩

set_option maxRecDepth 100000 in
theorem called_true (w : World) (G : Gl w) {ps la : Int} {nm tx : ByteArray} {ta : Option Addr} {tl tc : Nat} {aa : Option Addr} {al ac : Nat} :
    Calls Tryz.prog 48 #[.string ⟨#[116, 114, 117, 101]⟩, .agg #[.int .i64 ps, .int .i64 la, .string nm, .string tx, .slice ta tl tc], .slice aa al ac] w fun e w' => e = .returned (mkV 1 true 0 false ⟨#[]⟩) ∧ Below w.heap.size w w' := by
  obtain ⟨W, hW⟩ : ∃ W, ((w.alloc (.cells #[.int .i64 ps, .int .i64 la, .string nm, .string tx, .slice ta tl tc] 45)).alloc (.cells #[.int .i64 0, .bool false, .int .i64 0, .bool false, .string ⟨#[]⟩, .slice none 0 0] 24)) = W := ⟨_, rfl⟩
  have hbW : Below w.heap.size w W := by rw [← hW]; exact below2 _ _ _
  have hx : IsCells W w.heap.size #[.int .i64 ps, .int .i64 la, .string nm, .string tx, .slice ta tl tc] := by rw [← hW]; exact (isCells_new w _ 45).alloc _
  have hy : IsCells W (w.heap.size + 1) #[.int .i64 0, .bool false, .int .i64 0, .bool false, .string ⟨#[]⟩, .slice none 0 0] := by
    have := isCells_new (w.alloc (.cells #[.int .i64 ps, .int .i64 la, .string nm, .string tx, .slice ta tl tc] 45)) #[.int .i64 0, .bool false, .int .i64 0, .bool false, .string ⟨#[]⟩, .slice none 0 0] 24
    rw [hW] at this
    simpa using this
  have HW : Hid (((w.alloc (.cells #[.int .i64 ps, .int .i64 la, .string nm, .string tx, .slice ta tl tc] 45)).alloc (.cells #[.int .i64 0, .bool false, .int .i64 0, .bool false, .string ⟨#[]⟩, .slice none 0 0] 24)) = W ∧ Below w.heap.size w W ∧ IsCells W (w.heap.size + 1) #[.int .i64 0, .bool false, .int .i64 0, .bool false, .string ⟨#[]⟩, .slice none 0 0]) := ⟨hW, hbW, hy⟩
  have hc := mktruth_any W true
  obtain ⟨e0, e1, e2⟩ : W.cell? ⟨w.heap.size, 0, none⟩ = some (.int .i64 ps) ∧ W.cell? ⟨w.heap.size, 1, none⟩ = some (.int .i64 la) ∧ W.cell? ⟨w.heap.size, 2, none⟩ = some (.string nm) := ⟨hx.cell 0, hx.cell 1, hx.cell 2⟩
  clear hW hbW hx hy G
  go_enter Tryz.func48, Tryz.ntmps48
  go_wp2_with fail
  rw [HW.out.1]
  with_reducible refine hc.mono ?_
  rintro e X ⟨rfl, hb⟩
  have HB : Hid (Below w.heap.size w X ∧ IsCells X (w.heap.size + 1) #[.int .i64 0, .bool false, .int .i64 0, .bool false, .string ⟨#[]⟩, .slice none 0 0]) := ⟨HW.out.2.1.trans (hb.mono HW.out.2.1.size), HW.out.2.2.of_block (hb.block _ HW.out.2.2.lt)⟩
  clear hb
  clear hc e0 e1 e2
  obtain ⟨z0, z1, z2, z3, z4, z5⟩ := six_cells HB.out.2
  obtain ⟨f0, f1, f2, f3, f4, f5⟩ := six_frozen HB.out.2
  go_wp2
  obtain ⟨y0, y1, y2, y3, y4, y5⟩ := six_cells (set6 HB.out.2 (.int .i64 1) (.bool true) (.int .i64 0) (.bool false) (.string ⟨#[]⟩) (.slice none 0 0))
  exact bodyPost_ret (v := .agg #[.int .i64 1, .bool true, .int .i64 0, .bool false, .string ⟨#[]⟩, .slice none 0 0]) (by simp [results, Tryz.results48, go_sem, y0, y1, y2, y3, y4, y5]) rfl ⟨rfl, below6 HB.out.1 (Nat.le_succ _) _ _ _ _ _ _⟩

set_option maxRecDepth 100000 in
theorem called_false (w : World) (G : Gl w) {ps la : Int} {nm tx : ByteArray} {ta : Option Addr} {tl tc : Nat} {aa : Option Addr} {al ac : Nat} :
    Calls Tryz.prog 48 #[.string ⟨#[102, 97, 108, 115, 101]⟩, .agg #[.int .i64 ps, .int .i64 la, .string nm, .string tx, .slice ta tl tc], .slice aa al ac] w fun e w' => e = .returned (mkV 1 false 0 false ⟨#[]⟩) ∧ Below w.heap.size w w' := by
  obtain ⟨W, hW⟩ : ∃ W, ((w.alloc (.cells #[.int .i64 ps, .int .i64 la, .string nm, .string tx, .slice ta tl tc] 45)).alloc (.cells #[.int .i64 0, .bool false, .int .i64 0, .bool false, .string ⟨#[]⟩, .slice none 0 0] 24)) = W := ⟨_, rfl⟩
  have hbW : Below w.heap.size w W := by rw [← hW]; exact below2 _ _ _
  have hx : IsCells W w.heap.size #[.int .i64 ps, .int .i64 la, .string nm, .string tx, .slice ta tl tc] := by rw [← hW]; exact (isCells_new w _ 45).alloc _
  have hy : IsCells W (w.heap.size + 1) #[.int .i64 0, .bool false, .int .i64 0, .bool false, .string ⟨#[]⟩, .slice none 0 0] := by
    have := isCells_new (w.alloc (.cells #[.int .i64 ps, .int .i64 la, .string nm, .string tx, .slice ta tl tc] 45)) #[.int .i64 0, .bool false, .int .i64 0, .bool false, .string ⟨#[]⟩, .slice none 0 0] 24
    rw [hW] at this
    simpa using this
  have HW : Hid (((w.alloc (.cells #[.int .i64 ps, .int .i64 la, .string nm, .string tx, .slice ta tl tc] 45)).alloc (.cells #[.int .i64 0, .bool false, .int .i64 0, .bool false, .string ⟨#[]⟩, .slice none 0 0] 24)) = W ∧ Below w.heap.size w W ∧ IsCells W (w.heap.size + 1) #[.int .i64 0, .bool false, .int .i64 0, .bool false, .string ⟨#[]⟩, .slice none 0 0]) := ⟨hW, hbW, hy⟩
  have hc := mktruth_any W false
  obtain ⟨e0, e1, e2⟩ : W.cell? ⟨w.heap.size, 0, none⟩ = some (.int .i64 ps) ∧ W.cell? ⟨w.heap.size, 1, none⟩ = some (.int .i64 la) ∧ W.cell? ⟨w.heap.size, 2, none⟩ = some (.string nm) := ⟨hx.cell 0, hx.cell 1, hx.cell 2⟩
  clear hW hbW hx hy G
  go_enter Tryz.func48, Tryz.ntmps48
  go_wp2_with fail
  rw [HW.out.1]
  with_reducible refine hc.mono ?_
  rintro e X ⟨rfl, hb⟩
  have HB : Hid (Below w.heap.size w X ∧ IsCells X (w.heap.size + 1) #[.int .i64 0, .bool false, .int .i64 0, .bool false, .string ⟨#[]⟩, .slice none 0 0]) := ⟨HW.out.2.1.trans (hb.mono HW.out.2.1.size), HW.out.2.2.of_block (hb.block _ HW.out.2.2.lt)⟩
  clear hb
  clear hc e0 e1 e2
  obtain ⟨z0, z1, z2, z3, z4, z5⟩ := six_cells HB.out.2
  obtain ⟨f0, f1, f2, f3, f4, f5⟩ := six_frozen HB.out.2
  go_wp2
  obtain ⟨y0, y1, y2, y3, y4, y5⟩ := six_cells (set6 HB.out.2 (.int .i64 1) (.bool false) (.int .i64 0) (.bool false) (.string ⟨#[]⟩) (.slice none 0 0))
  exact bodyPost_ret (v := .agg #[.int .i64 1, .bool false, .int .i64 0, .bool false, .string ⟨#[]⟩, .slice none 0 0]) (by simp [results, Tryz.results48, go_sem, y0, y1, y2, y3, y4, y5]) rfl ⟨rfl, below6 HB.out.1 (Nat.le_succ _) _ _ _ _ _ _⟩

set_option maxRecDepth 100000 in
theorem called_position (w : World) (G : Gl w) {ps la : Int} {nm tx : ByteArray} {ta : Option Addr} {tl tc : Nat} {aa : Option Addr} {al ac : Nat} :
    Calls Tryz.prog 48 #[.string ⟨#[112, 111, 115, 105, 116, 105, 111, 110]⟩, .agg #[.int .i64 ps, .int .i64 la, .string nm, .string tx, .slice ta tl tc], .slice aa al ac] w fun e w' => e = .returned (mkV 2 false ps false ⟨#[]⟩) ∧ Below w.heap.size w w' := by
  obtain ⟨W, hW⟩ : ∃ W, ((w.alloc (.cells #[.int .i64 ps, .int .i64 la, .string nm, .string tx, .slice ta tl tc] 45)).alloc (.cells #[.int .i64 0, .bool false, .int .i64 0, .bool false, .string ⟨#[]⟩, .slice none 0 0] 24)) = W := ⟨_, rfl⟩
  have hbW : Below w.heap.size w W := by rw [← hW]; exact below2 _ _ _
  have hx : IsCells W w.heap.size #[.int .i64 ps, .int .i64 la, .string nm, .string tx, .slice ta tl tc] := by rw [← hW]; exact (isCells_new w _ 45).alloc _
  have hy : IsCells W (w.heap.size + 1) #[.int .i64 0, .bool false, .int .i64 0, .bool false, .string ⟨#[]⟩, .slice none 0 0] := by
    have := isCells_new (w.alloc (.cells #[.int .i64 ps, .int .i64 la, .string nm, .string tx, .slice ta tl tc] 45)) #[.int .i64 0, .bool false, .int .i64 0, .bool false, .string ⟨#[]⟩, .slice none 0 0] 24
    rw [hW] at this
    simpa using this
  have HW : Hid (((w.alloc (.cells #[.int .i64 ps, .int .i64 la, .string nm, .string tx, .slice ta tl tc] 45)).alloc (.cells #[.int .i64 0, .bool false, .int .i64 0, .bool false, .string ⟨#[]⟩, .slice none 0 0] 24)) = W ∧ Below w.heap.size w W ∧ IsCells W (w.heap.size + 1) #[.int .i64 0, .bool false, .int .i64 0, .bool false, .string ⟨#[]⟩, .slice none 0 0]) := ⟨hW, hbW, hy⟩
  have hc := mkint_any W ps
  obtain ⟨e0, e1, e2⟩ : W.cell? ⟨w.heap.size, 0, none⟩ = some (.int .i64 ps) ∧ W.cell? ⟨w.heap.size, 1, none⟩ = some (.int .i64 la) ∧ W.cell? ⟨w.heap.size, 2, none⟩ = some (.string nm) := ⟨hx.cell 0, hx.cell 1, hx.cell 2⟩
  clear hW hbW hx hy G
  go_enter Tryz.func48, Tryz.ntmps48
  go_wp2_with fail
  rw [HW.out.1]
  with_reducible refine hc.mono ?_
  rintro e X ⟨rfl, hb⟩
  have HB : Hid (Below w.heap.size w X ∧ IsCells X (w.heap.size + 1) #[.int .i64 0, .bool false, .int .i64 0, .bool false, .string ⟨#[]⟩, .slice none 0 0]) := ⟨HW.out.2.1.trans (hb.mono HW.out.2.1.size), HW.out.2.2.of_block (hb.block _ HW.out.2.2.lt)⟩
  clear hb
  clear hc e0 e1 e2
  obtain ⟨z0, z1, z2, z3, z4, z5⟩ := six_cells HB.out.2
  obtain ⟨f0, f1, f2, f3, f4, f5⟩ := six_frozen HB.out.2
  go_wp2
  obtain ⟨y0, y1, y2, y3, y4, y5⟩ := six_cells (set6 HB.out.2 (.int .i64 2) (.bool false) (.int .i64 ps) (.bool false) (.string ⟨#[]⟩) (.slice none 0 0))
  exact bodyPost_ret (v := .agg #[.int .i64 2, .bool false, .int .i64 ps, .bool false, .string ⟨#[]⟩, .slice none 0 0]) (by simp [results, Tryz.results48, go_sem, y0, y1, y2, y3, y4, y5]) rfl ⟨rfl, below6 HB.out.1 (Nat.le_succ _) _ _ _ _ _ _⟩

set_option maxRecDepth 100000 in
theorem called_last (w : World) (G : Gl w) {ps la : Int} {nm tx : ByteArray} {ta : Option Addr} {tl tc : Nat} {aa : Option Addr} {al ac : Nat} :
    Calls Tryz.prog 48 #[.string ⟨#[108, 97, 115, 116]⟩, .agg #[.int .i64 ps, .int .i64 la, .string nm, .string tx, .slice ta tl tc], .slice aa al ac] w fun e w' => e = .returned (mkV 2 false la false ⟨#[]⟩) ∧ Below w.heap.size w w' := by
  obtain ⟨W, hW⟩ : ∃ W, ((w.alloc (.cells #[.int .i64 ps, .int .i64 la, .string nm, .string tx, .slice ta tl tc] 45)).alloc (.cells #[.int .i64 0, .bool false, .int .i64 0, .bool false, .string ⟨#[]⟩, .slice none 0 0] 24)) = W := ⟨_, rfl⟩
  have hbW : Below w.heap.size w W := by rw [← hW]; exact below2 _ _ _
  have hx : IsCells W w.heap.size #[.int .i64 ps, .int .i64 la, .string nm, .string tx, .slice ta tl tc] := by rw [← hW]; exact (isCells_new w _ 45).alloc _
  have hy : IsCells W (w.heap.size + 1) #[.int .i64 0, .bool false, .int .i64 0, .bool false, .string ⟨#[]⟩, .slice none 0 0] := by
    have := isCells_new (w.alloc (.cells #[.int .i64 ps, .int .i64 la, .string nm, .string tx, .slice ta tl tc] 45)) #[.int .i64 0, .bool false, .int .i64 0, .bool false, .string ⟨#[]⟩, .slice none 0 0] 24
    rw [hW] at this
    simpa using this
  have HW : Hid (((w.alloc (.cells #[.int .i64 ps, .int .i64 la, .string nm, .string tx, .slice ta tl tc] 45)).alloc (.cells #[.int .i64 0, .bool false, .int .i64 0, .bool false, .string ⟨#[]⟩, .slice none 0 0] 24)) = W ∧ Below w.heap.size w W ∧ IsCells W (w.heap.size + 1) #[.int .i64 0, .bool false, .int .i64 0, .bool false, .string ⟨#[]⟩, .slice none 0 0]) := ⟨hW, hbW, hy⟩
  have hc := mkint_any W la
  obtain ⟨e0, e1, e2⟩ : W.cell? ⟨w.heap.size, 0, none⟩ = some (.int .i64 ps) ∧ W.cell? ⟨w.heap.size, 1, none⟩ = some (.int .i64 la) ∧ W.cell? ⟨w.heap.size, 2, none⟩ = some (.string nm) := ⟨hx.cell 0, hx.cell 1, hx.cell 2⟩
  clear hW hbW hx hy G
  go_enter Tryz.func48, Tryz.ntmps48
  go_wp2_with fail
  rw [HW.out.1]
  with_reducible refine hc.mono ?_
  rintro e X ⟨rfl, hb⟩
  have HB : Hid (Below w.heap.size w X ∧ IsCells X (w.heap.size + 1) #[.int .i64 0, .bool false, .int .i64 0, .bool false, .string ⟨#[]⟩, .slice none 0 0]) := ⟨HW.out.2.1.trans (hb.mono HW.out.2.1.size), HW.out.2.2.of_block (hb.block _ HW.out.2.2.lt)⟩
  clear hb
  clear hc e0 e1 e2
  obtain ⟨z0, z1, z2, z3, z4, z5⟩ := six_cells HB.out.2
  obtain ⟨f0, f1, f2, f3, f4, f5⟩ := six_frozen HB.out.2
  go_wp2
  obtain ⟨y0, y1, y2, y3, y4, y5⟩ := six_cells (set6 HB.out.2 (.int .i64 2) (.bool false) (.int .i64 la) (.bool false) (.string ⟨#[]⟩) (.slice none 0 0))
  exact bodyPost_ret (v := .agg #[.int .i64 2, .bool false, .int .i64 la, .bool false, .string ⟨#[]⟩, .slice none 0 0]) (by simp [results, Tryz.results48, go_sem, y0, y1, y2, y3, y4, y5]) rfl ⟨rfl, below6 HB.out.1 (Nat.le_succ _) _ _ _ _ _ _⟩

set_option maxRecDepth 100000 in
theorem called_name (w : World) (G : Gl w) {ps la : Int} {nm tx : ByteArray} {ta : Option Addr} {tl tc : Nat} {aa : Option Addr} {al ac : Nat} :
    Calls Tryz.prog 48 #[.string ⟨#[110, 97, 109, 101]⟩, .agg #[.int .i64 ps, .int .i64 la, .string nm, .string tx, .slice ta tl tc], .slice aa al ac] w fun e w' => e = .returned (mkV 3 false 0 false nm) ∧ Below w.heap.size w w' := by
  obtain ⟨W, hW⟩ : ∃ W, ((w.alloc (.cells #[.int .i64 ps, .int .i64 la, .string nm, .string tx, .slice ta tl tc] 45)).alloc (.cells #[.int .i64 0, .bool false, .int .i64 0, .bool false, .string ⟨#[]⟩, .slice none 0 0] 24)) = W := ⟨_, rfl⟩
  have hbW : Below w.heap.size w W := by rw [← hW]; exact below2 _ _ _
  have hx : IsCells W w.heap.size #[.int .i64 ps, .int .i64 la, .string nm, .string tx, .slice ta tl tc] := by rw [← hW]; exact (isCells_new w _ 45).alloc _
  have hy : IsCells W (w.heap.size + 1) #[.int .i64 0, .bool false, .int .i64 0, .bool false, .string ⟨#[]⟩, .slice none 0 0] := by
    have := isCells_new (w.alloc (.cells #[.int .i64 ps, .int .i64 la, .string nm, .string tx, .slice ta tl tc] 45)) #[.int .i64 0, .bool false, .int .i64 0, .bool false, .string ⟨#[]⟩, .slice none 0 0] 24
    rw [hW] at this
    simpa using this
  have HW : Hid (((w.alloc (.cells #[.int .i64 ps, .int .i64 la, .string nm, .string tx, .slice ta tl tc] 45)).alloc (.cells #[.int .i64 0, .bool false, .int .i64 0, .bool false, .string ⟨#[]⟩, .slice none 0 0] 24)) = W ∧ Below w.heap.size w W ∧ IsCells W (w.heap.size + 1) #[.int .i64 0, .bool false, .int .i64 0, .bool false, .string ⟨#[]⟩, .slice none 0 0]) := ⟨hW, hbW, hy⟩
  have hc := mkwords_any W nm
  obtain ⟨e0, e1, e2⟩ : W.cell? ⟨w.heap.size, 0, none⟩ = some (.int .i64 ps) ∧ W.cell? ⟨w.heap.size, 1, none⟩ = some (.int .i64 la) ∧ W.cell? ⟨w.heap.size, 2, none⟩ = some (.string nm) := ⟨hx.cell 0, hx.cell 1, hx.cell 2⟩
  clear hW hbW hx hy G
  go_enter Tryz.func48, Tryz.ntmps48
  go_wp2_with fail
  rw [HW.out.1]
  with_reducible refine hc.mono ?_
  rintro e X ⟨rfl, hb⟩
  have HB : Hid (Below w.heap.size w X ∧ IsCells X (w.heap.size + 1) #[.int .i64 0, .bool false, .int .i64 0, .bool false, .string ⟨#[]⟩, .slice none 0 0]) := ⟨HW.out.2.1.trans (hb.mono HW.out.2.1.size), HW.out.2.2.of_block (hb.block _ HW.out.2.2.lt)⟩
  clear hb
  clear hc e0 e1 e2
  obtain ⟨z0, z1, z2, z3, z4, z5⟩ := six_cells HB.out.2
  obtain ⟨f0, f1, f2, f3, f4, f5⟩ := six_frozen HB.out.2
  go_wp2
  obtain ⟨y0, y1, y2, y3, y4, y5⟩ := six_cells (set6 HB.out.2 (.int .i64 3) (.bool false) (.int .i64 0) (.bool false) (.string nm) (.slice none 0 0))
  exact bodyPost_ret (v := .agg #[.int .i64 3, .bool false, .int .i64 0, .bool false, .string nm, .slice none 0 0]) (by simp [results, Tryz.results48, go_sem, y0, y1, y2, y3, y4, y5]) rfl ⟨rfl, below6 HB.out.1 (Nat.le_succ _) _ _ _ _ _ _⟩

set_option maxRecDepth 100000 in
theorem called_not (w : World) (G : Gl w) {ps la : Int} {nm tx : ByteArray} {ta : Option Addr} {tl tc : Nat} {aa xa : Option Addr} {ac xc b o : Nat} {xk xn : Int} {xb xo : Bool} {xt : ByteArray} {xL : List ByteArray} (h0 : AOk w aa 0 ⟨xk, xb, xn, xo, xt, xL⟩ xa xc b o) :
    Calls Tryz.prog 48 #[.string ⟨#[110, 111, 116]⟩, .agg #[.int .i64 ps, .int .i64 la, .string nm, .string tx, .slice ta tl tc], .slice aa 1 ac] w fun e w' => e = .returned (mkV 1 (!trB xk xb xn xo (Tx xt) xL.length) 0 false ⟨#[]⟩) ∧ Below w.heap.size w w' := by
  obtain ⟨W, hW⟩ : ∃ W, ((w.alloc (.cells #[.int .i64 ps, .int .i64 la, .string nm, .string tx, .slice ta tl tc] 45)).alloc (.cells #[.int .i64 0, .bool false, .int .i64 0, .bool false, .string ⟨#[]⟩, .slice none 0 0] 24)) = W := ⟨_, rfl⟩
  have hbW : Below w.heap.size w W := by rw [← hW]; exact below2 _ _ _
  have hx : IsCells W w.heap.size #[.int .i64 ps, .int .i64 la, .string nm, .string tx, .slice ta tl tc] := by rw [← hW]; exact (isCells_new w _ 45).alloc _
  have hy : IsCells W (w.heap.size + 1) #[.int .i64 0, .bool false, .int .i64 0, .bool false, .string ⟨#[]⟩, .slice none 0 0] := by
    have := isCells_new (w.alloc (.cells #[.int .i64 ps, .int .i64 la, .string nm, .string tx, .slice ta tl tc] 45)) #[.int .i64 0, .bool false, .int .i64 0, .bool false, .string ⟨#[]⟩, .slice none 0 0] 24
    rw [hW] at this
    simpa using this
  have HW : Hid (((w.alloc (.cells #[.int .i64 ps, .int .i64 la, .string nm, .string tx, .slice ta tl tc] 45)).alloc (.cells #[.int .i64 0, .bool false, .int .i64 0, .bool false, .string ⟨#[]⟩, .slice none 0 0] 24)) = W ∧ Below w.heap.size w W ∧ IsCells W (w.heap.size + 1) #[.int .i64 0, .bool false, .int .i64 0, .bool false, .string ⟨#[]⟩, .slice none 0 0]) := ⟨hW, hbW, hy⟩
  obtain ⟨rfl, lt0, c0, c1, c2, c3, c4, c5, ok0⟩ := h0
  replace ok0 := ok0.bel hbW
  simp only [Nat.zero_mul, Nat.add_zero] at c0 c1 c2 c3 c4 c5
  have hc := truth_any W xk xn xb xo xt xa xL.length xc
  generalize trB xk xb xn xo (Tx xt) xL.length = q at *
  have HH : Hid (VOk W ⟨xk, xb, xn, xo, xt, xL⟩ xa ∧ Gl W) := ⟨ok0, G.bel hbW⟩
  clear hW hbW hx hy G ok0
  go_enter Tryz.func48, Tryz.ntmps48
  go_wp2_with fail
  rw [HW.out.1]
  with_reducible refine hc.mono ?_
  rintro e X ⟨rfl, hb⟩
  have HB : Hid (Below w.heap.size w X ∧ IsCells X (w.heap.size + 1) #[.int .i64 0, .bool false, .int .i64 0, .bool false, .string ⟨#[]⟩, .slice none 0 0]) := ⟨HW.out.2.1.trans (hb.mono HW.out.2.1.size), HW.out.2.2.of_block (hb.block _ HW.out.2.2.lt)⟩
  clear hb
  clear hc c0 c1 c2 c3 c4 c5
  have hd := mktruth_any X (!q)
  go_wp2_with fail
  with_reducible refine hd.mono ?_
  clear hd
  rintro e Y ⟨rfl, hb⟩
  have HB : Hid (Below w.heap.size w Y ∧ IsCells Y (w.heap.size + 1) #[.int .i64 0, .bool false, .int .i64 0, .bool false, .string ⟨#[]⟩, .slice none 0 0]) := ⟨HB.out.1.trans (hb.mono HB.out.1.size), HB.out.2.of_block (hb.block _ HB.out.2.lt)⟩
  clear hb
  obtain ⟨z0, z1, z2, z3, z4, z5⟩ := six_cells HB.out.2
  obtain ⟨f0, f1, f2, f3, f4, f5⟩ := six_frozen HB.out.2
  go_wp2
  obtain ⟨y0, y1, y2, y3, y4, y5⟩ := six_cells (set6 HB.out.2 (.int .i64 1) (.bool (!q)) (.int .i64 0) (.bool false) (.string ⟨#[]⟩) (.slice none 0 0))
  exact bodyPost_ret (v := .agg #[.int .i64 1, .bool (!q), .int .i64 0, .bool false, .string ⟨#[]⟩, .slice none 0 0]) (by simp [results, Tryz.results48, go_sem, y0, y1, y2, y3, y4, y5]) rfl ⟨rfl, below6 HB.out.1 (Nat.le_succ _) _ _ _ _ _ _⟩

set_option maxRecDepth 100000 in
theorem called_string (w : World) (G : Gl w) {ps la : Int} {nm tx : ByteArray} {ta : Option Addr} {tl tc : Nat} {aa xa : Option Addr} {ac xc b o : Nat} {xk xn : Int} {xb xo : Bool} {xt : ByteArray} {xL : List ByteArray} (h0 : AOk w aa 0 ⟨xk, xb, xn, xo, xt, xL⟩ xa xc b o) :
    Calls Tryz.prog 48 #[.string ⟨#[115, 116, 114, 105, 110, 103]⟩, .agg #[.int .i64 ps, .int .i64 la, .string nm, .string tx, .slice ta tl tc], .slice aa 1 ac] w fun e w' => e = .returned (mkV 3 false 0 false (txV xk xb xn xo xt xL)) ∧ Below w.heap.size w w' := by
  obtain ⟨W, hW⟩ : ∃ W, ((w.alloc (.cells #[.int .i64 ps, .int .i64 la, .string nm, .string tx, .slice ta tl tc] 45)).alloc (.cells #[.int .i64 0, .bool false, .int .i64 0, .bool false, .string ⟨#[]⟩, .slice none 0 0] 24)) = W := ⟨_, rfl⟩
  have hbW : Below w.heap.size w W := by rw [← hW]; exact below2 _ _ _
  have hx : IsCells W w.heap.size #[.int .i64 ps, .int .i64 la, .string nm, .string tx, .slice ta tl tc] := by rw [← hW]; exact (isCells_new w _ 45).alloc _
  have hy : IsCells W (w.heap.size + 1) #[.int .i64 0, .bool false, .int .i64 0, .bool false, .string ⟨#[]⟩, .slice none 0 0] := by
    have := isCells_new (w.alloc (.cells #[.int .i64 ps, .int .i64 la, .string nm, .string tx, .slice ta tl tc] 45)) #[.int .i64 0, .bool false, .int .i64 0, .bool false, .string ⟨#[]⟩, .slice none 0 0] 24
    rw [hW] at this
    simpa using this
  have HW : Hid (((w.alloc (.cells #[.int .i64 ps, .int .i64 la, .string nm, .string tx, .slice ta tl tc] 45)).alloc (.cells #[.int .i64 0, .bool false, .int .i64 0, .bool false, .string ⟨#[]⟩, .slice none 0 0] 24)) = W ∧ Below w.heap.size w W ∧ IsCells W (w.heap.size + 1) #[.int .i64 0, .bool false, .int .i64 0, .bool false, .string ⟨#[]⟩, .slice none 0 0]) := ⟨hW, hbW, hy⟩
  obtain ⟨rfl, lt0, c0, c1, c2, c3, c4, c5, ok0⟩ := h0
  replace ok0 := ok0.bel hbW
  simp only [Nat.zero_mul, Nat.add_zero] at c0 c1 c2 c3 c4 c5
  have hc := astext_any W (c := xc) (G.bel hbW) ok0
  generalize txV xk xb xn xo xt xL = q at *
  have HH : Hid (VOk W ⟨xk, xb, xn, xo, xt, xL⟩ xa ∧ Gl W) := ⟨ok0, G.bel hbW⟩
  clear hW hbW hx hy G ok0
  go_enter Tryz.func48, Tryz.ntmps48
  go_wp2_with fail
  rw [HW.out.1]
  with_reducible refine hc.mono ?_
  rintro e X ⟨rfl, hb⟩
  have HB : Hid (Below w.heap.size w X ∧ IsCells X (w.heap.size + 1) #[.int .i64 0, .bool false, .int .i64 0, .bool false, .string ⟨#[]⟩, .slice none 0 0]) := ⟨HW.out.2.1.trans (hb.mono HW.out.2.1.size), HW.out.2.2.of_block (hb.block _ HW.out.2.2.lt)⟩
  clear hb
  clear hc c0 c1 c2 c3 c4 c5
  have hd := mkwords_any X q
  go_wp2_with fail
  with_reducible refine hd.mono ?_
  clear hd
  rintro e Y ⟨rfl, hb⟩
  have HB : Hid (Below w.heap.size w Y ∧ IsCells Y (w.heap.size + 1) #[.int .i64 0, .bool false, .int .i64 0, .bool false, .string ⟨#[]⟩, .slice none 0 0]) := ⟨HB.out.1.trans (hb.mono HB.out.1.size), HB.out.2.of_block (hb.block _ HB.out.2.lt)⟩
  clear hb
  obtain ⟨z0, z1, z2, z3, z4, z5⟩ := six_cells HB.out.2
  obtain ⟨f0, f1, f2, f3, f4, f5⟩ := six_frozen HB.out.2
  go_wp2
  obtain ⟨y0, y1, y2, y3, y4, y5⟩ := six_cells (set6 HB.out.2 (.int .i64 3) (.bool false) (.int .i64 0) (.bool false) (.string q) (.slice none 0 0))
  exact bodyPost_ret (v := .agg #[.int .i64 3, .bool false, .int .i64 0, .bool false, .string q, .slice none 0 0]) (by simp [results, Tryz.results48, go_sem, y0, y1, y2, y3, y4, y5]) rfl ⟨rfl, below6 HB.out.1 (Nat.le_succ _) _ _ _ _ _ _⟩

set_option maxRecDepth 100000 in
theorem called_number (w : World) (G : Gl w) {ps la : Int} {nm tx : ByteArray} {ta : Option Addr} {tl tc : Nat} {aa xa : Option Addr} {ac xc b o : Nat} {xk xn : Int} {xb xo : Bool} {xt : ByteArray} {xL : List ByteArray} (h0 : AOk w aa 0 ⟨xk, xb, xn, xo, xt, xL⟩ xa xc b o) :
    Calls Tryz.prog 48 #[.string ⟨#[110, 117, 109, 98, 101, 114]⟩, .agg #[.int .i64 ps, .int .i64 la, .string nm, .string tx, .slice ta tl tc], .slice aa 1 ac] w fun e w' => e = .returned (mkV 2 false (nmV xk xb xn xo xt xL).1 (!(nmV xk xb xn xo xt xL).2) ⟨#[]⟩) ∧ Below w.heap.size w w' := by
  obtain ⟨W, hW⟩ : ∃ W, ((w.alloc (.cells #[.int .i64 ps, .int .i64 la, .string nm, .string tx, .slice ta tl tc] 45)).alloc (.cells #[.int .i64 0, .bool false, .int .i64 0, .bool false, .string ⟨#[]⟩, .slice none 0 0] 24)) = W := ⟨_, rfl⟩
  have hbW : Below w.heap.size w W := by rw [← hW]; exact below2 _ _ _
  have hx : IsCells W w.heap.size #[.int .i64 ps, .int .i64 la, .string nm, .string tx, .slice ta tl tc] := by rw [← hW]; exact (isCells_new w _ 45).alloc _
  have hy : IsCells W (w.heap.size + 1) #[.int .i64 0, .bool false, .int .i64 0, .bool false, .string ⟨#[]⟩, .slice none 0 0] := by
    have := isCells_new (w.alloc (.cells #[.int .i64 ps, .int .i64 la, .string nm, .string tx, .slice ta tl tc] 45)) #[.int .i64 0, .bool false, .int .i64 0, .bool false, .string ⟨#[]⟩, .slice none 0 0] 24
    rw [hW] at this
    simpa using this
  have HW : Hid (((w.alloc (.cells #[.int .i64 ps, .int .i64 la, .string nm, .string tx, .slice ta tl tc] 45)).alloc (.cells #[.int .i64 0, .bool false, .int .i64 0, .bool false, .string ⟨#[]⟩, .slice none 0 0] 24)) = W ∧ Below w.heap.size w W ∧ IsCells W (w.heap.size + 1) #[.int .i64 0, .bool false, .int .i64 0, .bool false, .string ⟨#[]⟩, .slice none 0 0]) := ⟨hW, hbW, hy⟩
  obtain ⟨rfl, lt0, c0, c1, c2, c3, c4, c5, ok0⟩ := h0
  replace ok0 := ok0.bel hbW
  simp only [Nat.zero_mul, Nat.add_zero] at c0 c1 c2 c3 c4 c5
  have hc := asnum_any W (c := xc) (G.bel hbW) ok0
  generalize (nmV xk xb xn xo xt xL).1 = q at *
  generalize (nmV xk xb xn xo xt xL).2 = p at *
  have HH : Hid (VOk W ⟨xk, xb, xn, xo, xt, xL⟩ xa ∧ Gl W) := ⟨ok0, G.bel hbW⟩
  clear hW hbW hx hy G ok0
  go_enter Tryz.func48, Tryz.ntmps48
  go_wp2_with fail
  rw [HW.out.1]
  with_reducible refine hc.mono ?_
  rintro e X ⟨rfl, hb⟩
  have HB : Hid (Below w.heap.size w X ∧ IsCells X (w.heap.size + 1) #[.int .i64 0, .bool false, .int .i64 0, .bool false, .string ⟨#[]⟩, .slice none 0 0]) := ⟨HW.out.2.1.trans (hb.mono HW.out.2.1.size), HW.out.2.2.of_block (hb.block _ HW.out.2.2.lt)⟩
  clear hb
  clear hc c0 c1 c2 c3 c4 c5
  have hd := numval_any X q p
  go_wp2_with fail
  with_reducible refine hd.mono ?_
  clear hd
  rintro e Y ⟨rfl, hb⟩
  have HB : Hid (Below w.heap.size w Y ∧ IsCells Y (w.heap.size + 1) #[.int .i64 0, .bool false, .int .i64 0, .bool false, .string ⟨#[]⟩, .slice none 0 0]) := ⟨HB.out.1.trans (hb.mono HB.out.1.size), HB.out.2.of_block (hb.block _ HB.out.2.lt)⟩
  clear hb
  obtain ⟨z0, z1, z2, z3, z4, z5⟩ := six_cells HB.out.2
  obtain ⟨f0, f1, f2, f3, f4, f5⟩ := six_frozen HB.out.2
  go_wp2
  obtain ⟨y0, y1, y2, y3, y4, y5⟩ := six_cells (set6 HB.out.2 (.int .i64 2) (.bool false) (.int .i64 q) (.bool (!p)) (.string ⟨#[]⟩) (.slice none 0 0))
  exact bodyPost_ret (v := .agg #[.int .i64 2, .bool false, .int .i64 q, .bool (!p), .string ⟨#[]⟩, .slice none 0 0]) (by simp [results, Tryz.results48, go_sem, y0, y1, y2, y3, y4, y5]) rfl ⟨rfl, below6 HB.out.1 (Nat.le_succ _) _ _ _ _ _ _⟩

set_option maxRecDepth 100000 in
theorem called_count (w : World) (G : Gl w) {ps la : Int} {nm tx : ByteArray} {ta : Option Addr} {tl tc : Nat} {aa xa : Option Addr} {ac xc b o : Nat} {xk xn : Int} {xb xo : Bool} {xt : ByteArray} {xL : List ByteArray} (h0 : AOk w aa 0 ⟨xk, xb, xn, xo, xt, xL⟩ xa xc b o) :
    Calls Tryz.prog 48 #[.string ⟨#[99, 111, 117, 110, 116]⟩, .agg #[.int .i64 ps, .int .i64 la, .string nm, .string tx, .slice ta tl tc], .slice aa 1 ac] w fun e w' => e = .returned (mkV 2 false (cntV xk xL.length).1 (!(cntV xk xL.length).2) ⟨#[]⟩) ∧ Below w.heap.size w w' := by
  obtain ⟨W, hW⟩ : ∃ W, ((w.alloc (.cells #[.int .i64 ps, .int .i64 la, .string nm, .string tx, .slice ta tl tc] 45)).alloc (.cells #[.int .i64 0, .bool false, .int .i64 0, .bool false, .string ⟨#[]⟩, .slice none 0 0] 24)) = W := ⟨_, rfl⟩
  have hbW : Below w.heap.size w W := by rw [← hW]; exact below2 _ _ _
  have hx : IsCells W w.heap.size #[.int .i64 ps, .int .i64 la, .string nm, .string tx, .slice ta tl tc] := by rw [← hW]; exact (isCells_new w _ 45).alloc _
  have hy : IsCells W (w.heap.size + 1) #[.int .i64 0, .bool false, .int .i64 0, .bool false, .string ⟨#[]⟩, .slice none 0 0] := by
    have := isCells_new (w.alloc (.cells #[.int .i64 ps, .int .i64 la, .string nm, .string tx, .slice ta tl tc] 45)) #[.int .i64 0, .bool false, .int .i64 0, .bool false, .string ⟨#[]⟩, .slice none 0 0] 24
    rw [hW] at this
    simpa using this
  have HW : Hid (((w.alloc (.cells #[.int .i64 ps, .int .i64 la, .string nm, .string tx, .slice ta tl tc] 45)).alloc (.cells #[.int .i64 0, .bool false, .int .i64 0, .bool false, .string ⟨#[]⟩, .slice none 0 0] 24)) = W ∧ Below w.heap.size w W ∧ IsCells W (w.heap.size + 1) #[.int .i64 0, .bool false, .int .i64 0, .bool false, .string ⟨#[]⟩, .slice none 0 0]) := ⟨hW, hbW, hy⟩
  obtain ⟨rfl, lt0, c0, c1, c2, c3, c4, c5, ok0⟩ := h0
  replace ok0 := ok0.bel hbW
  simp only [Nat.zero_mul, Nat.add_zero] at c0 c1 c2 c3 c4 c5
  have hc := count_any W xk xn xb xo xt xa xL.length xc
  generalize (cntV xk xL.length).1 = q at *
  generalize (cntV xk xL.length).2 = p at *
  have HH : Hid (VOk W ⟨xk, xb, xn, xo, xt, xL⟩ xa ∧ Gl W) := ⟨ok0, G.bel hbW⟩
  clear hW hbW hx hy G ok0
  go_enter Tryz.func48, Tryz.ntmps48
  go_wp2_with fail
  rw [HW.out.1]
  with_reducible refine hc.mono ?_
  rintro e X ⟨rfl, hb⟩
  have HB : Hid (Below w.heap.size w X ∧ IsCells X (w.heap.size + 1) #[.int .i64 0, .bool false, .int .i64 0, .bool false, .string ⟨#[]⟩, .slice none 0 0]) := ⟨HW.out.2.1.trans (hb.mono HW.out.2.1.size), HW.out.2.2.of_block (hb.block _ HW.out.2.2.lt)⟩
  clear hb
  clear hc c0 c1 c2 c3 c4 c5
  have hd := numval_any X q p
  go_wp2_with fail
  with_reducible refine hd.mono ?_
  clear hd
  rintro e Y ⟨rfl, hb⟩
  have HB : Hid (Below w.heap.size w Y ∧ IsCells Y (w.heap.size + 1) #[.int .i64 0, .bool false, .int .i64 0, .bool false, .string ⟨#[]⟩, .slice none 0 0]) := ⟨HB.out.1.trans (hb.mono HB.out.1.size), HB.out.2.of_block (hb.block _ HB.out.2.lt)⟩
  clear hb
  obtain ⟨z0, z1, z2, z3, z4, z5⟩ := six_cells HB.out.2
  obtain ⟨f0, f1, f2, f3, f4, f5⟩ := six_frozen HB.out.2
  go_wp2
  obtain ⟨y0, y1, y2, y3, y4, y5⟩ := six_cells (set6 HB.out.2 (.int .i64 2) (.bool false) (.int .i64 q) (.bool (!p)) (.string ⟨#[]⟩) (.slice none 0 0))
  exact bodyPost_ret (v := .agg #[.int .i64 2, .bool false, .int .i64 q, .bool (!p), .string ⟨#[]⟩, .slice none 0 0]) (by simp [results, Tryz.results48, go_sem, y0, y1, y2, y3, y4, y5]) rfl ⟨rfl, below6 HB.out.1 (Nat.le_succ _) _ _ _ _ _ _⟩

set_option maxRecDepth 100000 in
theorem called_sum (w : World) (G : Gl w) {ps la : Int} {nm tx : ByteArray} {ta : Option Addr} {tl tc : Nat} {aa xa : Option Addr} {ac xc b o : Nat} {xk xn : Int} {xb xo : Bool} {xt : ByteArray} {xL : List ByteArray} (h0 : AOk w aa 0 ⟨xk, xb, xn, xo, xt, xL⟩ xa xc b o) (hL : xk = 4 → xL.length ≤ 4194304) :
    Calls Tryz.prog 48 #[.string ⟨#[115, 117, 109]⟩, .agg #[.int .i64 ps, .int .i64 la, .string nm, .string tx, .slice ta tl tc], .slice aa 1 ac] w fun e w' => e = .returned (mkV 2 false (sumV ⟨xk, xb, xn, xo, xt, xL⟩).1 (!(sumV ⟨xk, xb, xn, xo, xt, xL⟩).2) ⟨#[]⟩) ∧ Below w.heap.size w w' := by
  obtain ⟨W, hW⟩ : ∃ W, ((w.alloc (.cells #[.int .i64 ps, .int .i64 la, .string nm, .string tx, .slice ta tl tc] 45)).alloc (.cells #[.int .i64 0, .bool false, .int .i64 0, .bool false, .string ⟨#[]⟩, .slice none 0 0] 24)) = W := ⟨_, rfl⟩
  have hbW : Below w.heap.size w W := by rw [← hW]; exact below2 _ _ _
  have hx : IsCells W w.heap.size #[.int .i64 ps, .int .i64 la, .string nm, .string tx, .slice ta tl tc] := by rw [← hW]; exact (isCells_new w _ 45).alloc _
  have hy : IsCells W (w.heap.size + 1) #[.int .i64 0, .bool false, .int .i64 0, .bool false, .string ⟨#[]⟩, .slice none 0 0] := by
    have := isCells_new (w.alloc (.cells #[.int .i64 ps, .int .i64 la, .string nm, .string tx, .slice ta tl tc] 45)) #[.int .i64 0, .bool false, .int .i64 0, .bool false, .string ⟨#[]⟩, .slice none 0 0] 24
    rw [hW] at this
    simpa using this
  have HW : Hid (((w.alloc (.cells #[.int .i64 ps, .int .i64 la, .string nm, .string tx, .slice ta tl tc] 45)).alloc (.cells #[.int .i64 0, .bool false, .int .i64 0, .bool false, .string ⟨#[]⟩, .slice none 0 0] 24)) = W ∧ Below w.heap.size w W ∧ IsCells W (w.heap.size + 1) #[.int .i64 0, .bool false, .int .i64 0, .bool false, .string ⟨#[]⟩, .slice none 0 0]) := ⟨hW, hbW, hy⟩
  obtain ⟨rfl, lt0, c0, c1, c2, c3, c4, c5, ok0⟩ := h0
  replace ok0 := ok0.bel hbW
  simp only [Nat.zero_mul, Nat.add_zero] at c0 c1 c2 c3 c4 c5
  have hc := sum_any W (c := xc) (G.bel hbW) ok0 hL
  generalize (sumV ⟨xk, xb, xn, xo, xt, xL⟩).1 = q at *
  generalize (sumV ⟨xk, xb, xn, xo, xt, xL⟩).2 = p at *
  have HH : Hid (VOk W ⟨xk, xb, xn, xo, xt, xL⟩ xa ∧ Gl W) := ⟨ok0, G.bel hbW⟩
  clear hW hbW hx hy G ok0
  go_enter Tryz.func48, Tryz.ntmps48
  go_wp2_with fail
  rw [HW.out.1]
  with_reducible refine hc.mono ?_
  rintro e X ⟨rfl, hb⟩
  have HB : Hid (Below w.heap.size w X ∧ IsCells X (w.heap.size + 1) #[.int .i64 0, .bool false, .int .i64 0, .bool false, .string ⟨#[]⟩, .slice none 0 0]) := ⟨HW.out.2.1.trans (hb.mono HW.out.2.1.size), HW.out.2.2.of_block (hb.block _ HW.out.2.2.lt)⟩
  clear hb
  clear hc c0 c1 c2 c3 c4 c5
  have hd := numval_any X q p
  go_wp2_with fail
  with_reducible refine hd.mono ?_
  clear hd
  rintro e Y ⟨rfl, hb⟩
  have HB : Hid (Below w.heap.size w Y ∧ IsCells Y (w.heap.size + 1) #[.int .i64 0, .bool false, .int .i64 0, .bool false, .string ⟨#[]⟩, .slice none 0 0]) := ⟨HB.out.1.trans (hb.mono HB.out.1.size), HB.out.2.of_block (hb.block _ HB.out.2.lt)⟩
  clear hb
  obtain ⟨z0, z1, z2, z3, z4, z5⟩ := six_cells HB.out.2
  obtain ⟨f0, f1, f2, f3, f4, f5⟩ := six_frozen HB.out.2
  go_wp2
  obtain ⟨y0, y1, y2, y3, y4, y5⟩ := six_cells (set6 HB.out.2 (.int .i64 2) (.bool false) (.int .i64 q) (.bool (!p)) (.string ⟨#[]⟩) (.slice none 0 0))
  exact bodyPost_ret (v := .agg #[.int .i64 2, .bool false, .int .i64 q, .bool (!p), .string ⟨#[]⟩, .slice none 0 0]) (by simp [results, Tryz.results48, go_sem, y0, y1, y2, y3, y4, y5]) rfl ⟨rfl, below6 HB.out.1 (Nat.le_succ _) _ _ _ _ _ _⟩

set_option maxRecDepth 100000 in
theorem called_length (w : World) (G : Gl w) {ps la : Int} {nm tx : ByteArray} {ta : Option Addr} {tl tc : Nat} {aa xa : Option Addr} {ac xc b o : Nat} {xk xn : Int} {xb xo : Bool} {xt : ByteArray} {xL : List ByteArray} (h0 : AOk w aa 0 ⟨xk, xb, xn, xo, xt, xL⟩ xa xc b o) :
    Calls Tryz.prog 48 #[.string ⟨#[108, 101, 110, 103, 116, 104]⟩, .agg #[.int .i64 ps, .int .i64 la, .string nm, .string tx, .slice ta tl tc], .slice aa 1 ac] w fun e w' => e = .returned (mkV 2 false (lans (Tx (txV xk xb xn xo xt xL))).1 false ⟨#[]⟩) ∧ Below w.heap.size w w' := by
  obtain ⟨W, hW⟩ : ∃ W, ((w.alloc (.cells #[.int .i64 ps, .int .i64 la, .string nm, .string tx, .slice ta tl tc] 45)).alloc (.cells #[.int .i64 0, .bool false, .int .i64 0, .bool false, .string ⟨#[]⟩, .slice none 0 0] 24)) = W := ⟨_, rfl⟩
  have hbW : Below w.heap.size w W := by rw [← hW]; exact below2 _ _ _
  have hx : IsCells W w.heap.size #[.int .i64 ps, .int .i64 la, .string nm, .string tx, .slice ta tl tc] := by rw [← hW]; exact (isCells_new w _ 45).alloc _
  have hy : IsCells W (w.heap.size + 1) #[.int .i64 0, .bool false, .int .i64 0, .bool false, .string ⟨#[]⟩, .slice none 0 0] := by
    have := isCells_new (w.alloc (.cells #[.int .i64 ps, .int .i64 la, .string nm, .string tx, .slice ta tl tc] 45)) #[.int .i64 0, .bool false, .int .i64 0, .bool false, .string ⟨#[]⟩, .slice none 0 0] 24
    rw [hW] at this
    simpa using this
  have HW : Hid (((w.alloc (.cells #[.int .i64 ps, .int .i64 la, .string nm, .string tx, .slice ta tl tc] 45)).alloc (.cells #[.int .i64 0, .bool false, .int .i64 0, .bool false, .string ⟨#[]⟩, .slice none 0 0] 24)) = W ∧ Below w.heap.size w W ∧ IsCells W (w.heap.size + 1) #[.int .i64 0, .bool false, .int .i64 0, .bool false, .string ⟨#[]⟩, .slice none 0 0]) := ⟨hW, hbW, hy⟩
  obtain ⟨rfl, lt0, c0, c1, c2, c3, c4, c5, ok0⟩ := h0
  replace ok0 := ok0.bel hbW
  simp only [Nat.zero_mul, Nat.add_zero] at c0 c1 c2 c3 c4 c5
  have hc := astext_any W (c := xc) (G.bel hbW) ok0
  have HLN := fun u => len_any u (txV xk xb xn xo xt xL)
  generalize txV xk xb xn xo xt xL = q at *
  generalize (lans (Tx q)).1 = m at *
  generalize (lans (Tx q)).2 = m2 at *
  have HH : Hid (VOk W ⟨xk, xb, xn, xo, xt, xL⟩ xa ∧ Gl W) := ⟨ok0, G.bel hbW⟩
  clear hW hbW hx hy G ok0
  go_enter Tryz.func48, Tryz.ntmps48
  go_wp2_with fail
  rw [HW.out.1]
  with_reducible refine hc.mono ?_
  rintro e X ⟨rfl, hb⟩
  have HB : Hid (Below w.heap.size w X ∧ IsCells X (w.heap.size + 1) #[.int .i64 0, .bool false, .int .i64 0, .bool false, .string ⟨#[]⟩, .slice none 0 0]) := ⟨HW.out.2.1.trans (hb.mono HW.out.2.1.size), HW.out.2.2.of_block (hb.block _ HW.out.2.2.lt)⟩
  clear hb
  clear hc c0 c1 c2 c3 c4 c5
  have hd := HLN X
  go_wp2_with fail
  with_reducible refine hd.mono ?_
  clear hd
  rintro e Y ⟨rfl, hb⟩
  have HB : Hid (Below w.heap.size w Y ∧ IsCells Y (w.heap.size + 1) #[.int .i64 0, .bool false, .int .i64 0, .bool false, .string ⟨#[]⟩, .slice none 0 0]) := ⟨HB.out.1.trans (hb.mono HB.out.1.size), HB.out.2.of_block (hb.block _ HB.out.2.lt)⟩
  clear hb
  have hd := mkint_any Y m
  go_wp2_with fail
  with_reducible refine hd.mono ?_
  clear hd
  rintro e V ⟨rfl, hb⟩
  have HB : Hid (Below w.heap.size w V ∧ IsCells V (w.heap.size + 1) #[.int .i64 0, .bool false, .int .i64 0, .bool false, .string ⟨#[]⟩, .slice none 0 0]) := ⟨HB.out.1.trans (hb.mono HB.out.1.size), HB.out.2.of_block (hb.block _ HB.out.2.lt)⟩
  clear hb
  obtain ⟨z0, z1, z2, z3, z4, z5⟩ := six_cells HB.out.2
  obtain ⟨f0, f1, f2, f3, f4, f5⟩ := six_frozen HB.out.2
  go_wp2
  obtain ⟨y0, y1, y2, y3, y4, y5⟩ := six_cells (set6 HB.out.2 (.int .i64 2) (.bool false) (.int .i64 m) (.bool false) (.string ⟨#[]⟩) (.slice none 0 0))
  exact bodyPost_ret (v := .agg #[.int .i64 2, .bool false, .int .i64 m, .bool false, .string ⟨#[]⟩, .slice none 0 0]) (by simp [results, Tryz.results48, go_sem, y0, y1, y2, y3, y4, y5]) rfl ⟨rfl, below6 HB.out.1 (Nat.le_succ _) _ _ _ _ _ _⟩

end Go.Proofs.YtoabgmpcdnikeaaGreatDoor
