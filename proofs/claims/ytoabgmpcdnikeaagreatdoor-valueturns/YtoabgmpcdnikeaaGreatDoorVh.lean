/- A value as a number: the program's asNumber; and the calls Bool, Number, Text. -/
import Derived.Test.YtoabgmpcdnikeaaGreatDoorVg
namespace Go.Proofs.YtoabgmpcdnikeaaGreatDoor
open Go.RowKit
set_option linter.unusedVariables false

theorem tx_small {w : World} {k n : Int} {b no : Bool} {t : ByteArray} {a : Option Addr} {L : List ByteArray} (h : VOk w ⟨k, b, n, no, t, L⟩ a) : (txV k b n no t L).size ≤ 281474976710656 := by
  unfold txV
  split
  · cases b <;> decide
  · split
    · split
      · decide
      · have h1 := itoa_short n h.n0 h.n1
        have h2 : (⟨(Lib.itoa n).toArray⟩ : ByteArray).size = (Lib.itoa n).length := by simp [ByteArray.size]
        omega
    · split
      · exact h.ts
      · cases L with
        | nil => decide
        | cons s r => exact h.ls s (by simp)

set_option maxRecDepth 100000 in
theorem asnum_any (w : World) (G : Gl w) {k n : Int} {b no : Bool} {t : ByteArray} {a : Option Addr} {c : Nat} {L : List ByteArray} (h : VOk w ⟨k, b, n, no, t, L⟩ a) :
    Calls Tryz.prog 36 #[.agg #[.int .i64 k, .bool b, .int .i64 n, .bool no, .string t, .slice a L.length c]] w fun e w' => e = .returned (.agg #[.int .i64 (nmV k b n no t L).1, .bool (nmV k b n no t L).2]) ∧ Below w.heap.size w w' := by
  obtain ⟨zn, zb, HZ⟩ : ∃ zn zb, Hid (nmV k b n no t L = (zn, zb)) := ⟨_, _, rfl⟩
  rw [HZ.out]
  obtain ⟨W, hW⟩ : ∃ W, ((w.alloc (.cells #[.int .i64 k, .bool b, .int .i64 n, .bool no, .string t, .slice a L.length c] 24)).alloc (.cells #[.int .i64 0, .bool false] 78)) = W := ⟨_, rfl⟩
  have hbW : Below w.heap.size w W := by rw [← hW]; exact ((Below.refl _ _).alloc (Nat.le_refl _) _).alloc (by simp) _
  have hx : IsCells W w.heap.size #[.int .i64 k, .bool b, .int .i64 n, .bool no, .string t, .slice a L.length c] := by rw [← hW]; exact (isCells_new w _ 24).alloc _
  have hy : IsCells W (w.heap.size + 1) #[.int .i64 0, .bool false] := by rw [← hW]; have := isCells_new (w.alloc (.cells #[.int .i64 k, .bool b, .int .i64 n, .bool no, .string t, .slice a L.length c] 24)) #[.int .i64 0, .bool false] 78; simpa using this
  have HW : Hid (((w.alloc (.cells #[.int .i64 k, .bool b, .int .i64 n, .bool no, .string t, .slice a L.length c] 24)).alloc (.cells #[.int .i64 0, .bool false] 78)) = W ∧ Below w.heap.size w W ∧ IsCells W (w.heap.size + 1) #[.int .i64 0, .bool false]) := ⟨hW, hbW, hy⟩
  have HH : Hid (VOk w ⟨k, b, n, no, t, L⟩ a ∧ Gl w) := ⟨h, G⟩
  clear h G hbW hW hy
  have x0 : W.cell? ⟨w.heap.size, 0, none⟩ = some (.int .i64 k) := hx.cell 0
  have x1 : W.cell? ⟨w.heap.size, 1, none⟩ = some (.bool b) := hx.cell 1
  have x2 : W.cell? ⟨w.heap.size, 2, none⟩ = some (.int .i64 n) := hx.cell 2
  have x3 : W.cell? ⟨w.heap.size, 3, none⟩ = some (.bool no) := hx.cell 3
  have x4 : W.cell? ⟨w.heap.size, 4, none⟩ = some (.string t) := hx.cell 4
  have x5 : W.cell? ⟨w.heap.size, 5, none⟩ = some (.slice a L.length c) := hx.cell 5
  clear hx
  by_cases h1 : k = 1
  · subst h1
    obtain ⟨rfl, rfl⟩ : zn = (if b then 1 else 0) ∧ zb = true := Prod.mk.inj HZ.out.symm
    have hf := bit_any W b
    generalize (if b = true then (1 : Int) else 0) = z at *
    go_enter Tryz.func36, Tryz.ntmps36
    go_wp2_with fail
    rw [HW.out.1]
    go_wp2_with fail
    with_reducible refine hf.mono ?_
    rintro e w' ⟨rfl, hb⟩
    have hy2 : IsCells w' (w.heap.size + 1) #[.int .i64 0, .bool false] := HW.out.2.2.of_block (hb.block _ HW.out.2.2.lt)
    have HB : Hid (Below w.heap.size w w' ∧ IsCells w' (w.heap.size + 1) #[.int .i64 0, .bool false]) := ⟨HW.out.2.1.trans (hb.mono HW.out.2.1.size), hy2⟩
    have c0 := hy2.cell 0
    have c1 := hy2.cell 1
    have f0 := hy2.frozen 0
    have f1 := hy2.frozen 1
    simp at c0 c1
    clear hb hf hy2
    go_wp2
    have hy3 := (HB.out.2.set 0 (.int .i64 z)).set 1 (.bool true)
    have y0 := hy3.cell 0
    have y1 := hy3.cell 1
    simp at y0 y1
    exact bodyPost_ret (v := .agg #[.int .i64 z, .bool true]) (by simp [results, Tryz.results36, go_sem, y0, y1]) rfl ⟨rfl, (HB.out.1.setCell (p := ⟨w.heap.size + 1, 0, none⟩) (Nat.le_succ _) _).setCell (p := ⟨w.heap.size + 1, 1, none⟩) (Nat.le_succ _) _⟩
  by_cases h2 : k = 2
  · subst h2
    cases no with
    | true =>
      obtain ⟨rfl, rfl⟩ : zn = 0 ∧ zb = false := Prod.mk.inj HZ.out.symm
      clear x0 x1 x2 x3 x4 x5
      go_enter Tryz.func36, Tryz.ntmps36
      go_wp2
      exact bodyPost_ret (v := .agg #[.int .i64 0, .bool false]) (by simp [results, Tryz.results36, go_sem]) rfl ⟨rfl, ((Below.refl _ _).alloc (Nat.le_refl _) _).alloc (by simp) _⟩
    | false =>
      obtain ⟨rfl, rfl⟩ : zn = n ∧ zb = true := Prod.mk.inj HZ.out.symm
      clear x0 x1 x2 x3 x4 x5
      go_enter Tryz.func36, Tryz.ntmps36
      go_wp2
      exact bodyPost_ret (v := .agg #[.int .i64 zn, .bool true]) (by simp [results, Tryz.results36, go_sem]) rfl ⟨rfl, ((Below.refl _ _).alloc (Nat.le_refl _) _).alloc (by simp) _⟩
  · have q1 : (k == 1) = false := by simpa using h1
    have q2 : (k == 2) = false := by simpa using h2
    have HQ : Hid (rdN (Tx (txV k b n no t L)) = (zn, zb)) := by show _ = _; rw [← HZ.out]; simp [nmV, h1, h2]
    have ht := astext_any W (c := c) (HH.out.2.bel HW.out.2.1) (HH.out.1.bel HW.out.2.1)
    have HS := tx_small HH.out.1
    generalize txV k b n no t L = z at *
    clear h1 h2 HZ
    go_enter Tryz.func36, Tryz.ntmps36
    go_wp2_with fail
    rw [HW.out.1]
    go_wp2_with fail
    with_reducible refine ht.mono ?_
    rintro e w1 ⟨rfl, hb⟩
    have HB1 : Hid (Below w.heap.size w w1 ∧ IsCells w1 (w.heap.size + 1) #[.int .i64 0, .bool false]) := ⟨HW.out.2.1.trans (hb.mono HW.out.2.1.size), HW.out.2.2.of_block (hb.block _ HW.out.2.2.lt)⟩
    have hr := read_any w1 (HH.out.2.bel HB1.out.1) z HS
    rw [HQ.out] at hr
    clear hb ht
    go_wp2_with fail
    with_reducible refine hr.mono ?_
    rintro e w2 ⟨rfl, hb⟩
    have HB : Hid (Below w.heap.size w w2 ∧ IsCells w2 (w.heap.size + 1) #[.int .i64 0, .bool false]) := ⟨HB1.out.1.trans (hb.mono HB1.out.1.size), HB1.out.2.of_block (hb.block _ HB1.out.2.lt)⟩
    have c0 := HB.out.2.cell 0
    have c1 := HB.out.2.cell 1
    have f0 := HB.out.2.frozen 0
    have f1 := HB.out.2.frozen 1
    simp at c0 c1
    clear hb hr
    go_wp2
    have hy3 := (HB.out.2.set 0 (.int .i64 zn)).set 1 (.bool zb)
    have y0 := hy3.cell 0
    have y1 := hy3.cell 1
    simp at y0 y1
    exact bodyPost_ret (v := .agg #[.int .i64 zn, .bool zb]) (by simp [results, Tryz.results36, go_sem, y0, y1]) rfl ⟨rfl, (HB.out.1.setCell (p := ⟨w.heap.size + 1, 0, none⟩) (Nat.le_succ _) _).setCell (p := ⟨w.heap.size + 1, 1, none⟩) (Nat.le_succ _) _⟩


/-- Any value's own cells. -/
abbrev vcs (k : Int) (b : Bool) (n : Int) (no : Bool) (t : ByteArray) (a : Option Addr) (m c : Nat) : Array Value := #[.int .i64 k, .bool b, .int .i64 n, .bool no, .string t, .slice a m c]

set_option maxRecDepth 100000 in
theorem bool_any (w : World) {k n : Int} {b no : Bool} {t : ByteArray} {a : Option Addr} {c : Nat} {L : List ByteArray} (h : VOk w ⟨k, b, n, no, t, L⟩ a) (z : Bool) (hz : canV k (Tx t) (L.map Tx) = z) :
    Calls Tryz.prog 9 #[.agg #[.int .i64 k, .bool b, .int .i64 n, .bool no, .string t, .slice a L.length c]] w fun e w' => e = .returned (.tuple #[.bool (z && trB k b n no (Tx t) L.length), .int .i64 (if z then 0 else 141)]) ∧ Below w.heap.size w w' := by
  obtain ⟨W, hW⟩ : ∃ W, (w.alloc (.cells #[.int .i64 k, .bool b, .int .i64 n, .bool no, .string t, .slice a L.length c] 24)) = W := ⟨_, rfl⟩
  have hbW : Below w.heap.size w W := by rw [← hW]; exact (Below.refl _ _).alloc (Nat.le_refl _) _
  have hx : IsCells W w.heap.size #[.int .i64 k, .bool b, .int .i64 n, .bool no, .string t, .slice a L.length c] := by rw [← hW]; exact isCells_new _ _ _
  have HW : Hid ((w.alloc (.cells #[.int .i64 k, .bool b, .int .i64 n, .bool no, .string t, .slice a L.length c] 24)) = W ∧ Below w.heap.size w W ∧ IsCells W w.heap.size #[.int .i64 k, .bool b, .int .i64 n, .bool no, .string t, .slice a L.length c]) := ⟨hW, hbW, hx⟩
  have hc := can_any W k n b no t (c := c) (h.at_.bel hbW) h.len
  rw [hz] at hc
  obtain ⟨z2, HT⟩ : ∃ z2, Hid (trB k b n no (Tx t) L.length = z2) := ⟨_, rfl⟩
  rw [HT.out]
  have x0 : W.cell? ⟨w.heap.size, 0, none⟩ = some (.int .i64 k) := hx.cell 0
  have x1 : W.cell? ⟨w.heap.size, 1, none⟩ = some (.bool b) := hx.cell 1
  have x2 : W.cell? ⟨w.heap.size, 2, none⟩ = some (.int .i64 n) := hx.cell 2
  have x3 : W.cell? ⟨w.heap.size, 3, none⟩ = some (.bool no) := hx.cell 3
  have x4 : W.cell? ⟨w.heap.size, 4, none⟩ = some (.string t) := hx.cell 4
  have x5 : W.cell? ⟨w.heap.size, 5, none⟩ = some (.slice a L.length c) := hx.cell 5
  clear h hz hx hbW hW
  go_enter Tryz.func9, Tryz.ntmps9
  go_wp2_with fail
  rw [HW.out.1]
  go_wp2_with fail
  with_reducible refine hc.mono ?_
  rintro e w1 ⟨rfl, hb⟩
  have HX : Hid (Below w.heap.size w w1 ∧ IsCells w1 w.heap.size #[.int .i64 k, .bool b, .int .i64 n, .bool no, .string t, .slice a L.length c]) := ⟨HW.out.2.1.trans (hb.mono HW.out.2.1.size), HW.out.2.2.of_block (hb.block _ HW.out.2.2.lt)⟩
  clear hb hc x0 x1 x2 x3 x4 x5
  cases z with
  | false =>
    go_wp2
    go_ret2
    exact ⟨rfl, HX.out.1⟩
  | true =>
    have x0 : w1.cell? ⟨w.heap.size, 0, none⟩ = some (.int .i64 k) := HX.out.2.cell 0
    have x1 : w1.cell? ⟨w.heap.size, 1, none⟩ = some (.bool b) := HX.out.2.cell 1
    have x2 : w1.cell? ⟨w.heap.size, 2, none⟩ = some (.int .i64 n) := HX.out.2.cell 2
    have x3 : w1.cell? ⟨w.heap.size, 3, none⟩ = some (.bool no) := HX.out.2.cell 3
    have x4 : w1.cell? ⟨w.heap.size, 4, none⟩ = some (.string t) := HX.out.2.cell 4
    have x5 : w1.cell? ⟨w.heap.size, 5, none⟩ = some (.slice a L.length c) := HX.out.2.cell 5
    have ht := truth_any w1 k n b no t a L.length c
    rw [HT.out] at ht
    go_wp2_with fail
    with_reducible refine ht.mono ?_
    rintro e w2 ⟨rfl, hb⟩
    have HB : Hid (Below w.heap.size w w2) := HX.out.1.trans (hb.mono HX.out.1.size)
    clear hb
    go_wp2
    go_ret2
    exact ⟨rfl, HB.out⟩

set_option maxRecDepth 100000 in
theorem text_call (w : World) (G : Gl w) {k n : Int} {b no : Bool} {t : ByteArray} {a : Option Addr} {c : Nat} {L : List ByteArray} (h : VOk w ⟨k, b, n, no, t, L⟩ a) (z : Bool) (hz : canV k (Tx t) (L.map Tx) = z) :
    Calls Tryz.prog 11 #[.agg #[.int .i64 k, .bool b, .int .i64 n, .bool no, .string t, .slice a L.length c]] w fun e w' => e = .returned (.tuple #[.string (if z then txV k b n no t L else ⟨#[]⟩), .int .i64 (if z then 0 else 141)]) ∧ Below w.heap.size w w' := by
  obtain ⟨W, hW⟩ : ∃ W, (w.alloc (.cells #[.int .i64 k, .bool b, .int .i64 n, .bool no, .string t, .slice a L.length c] 24)) = W := ⟨_, rfl⟩
  have hbW : Below w.heap.size w W := by rw [← hW]; exact (Below.refl _ _).alloc (Nat.le_refl _) _
  have hx : IsCells W w.heap.size #[.int .i64 k, .bool b, .int .i64 n, .bool no, .string t, .slice a L.length c] := by rw [← hW]; exact isCells_new _ _ _
  have HW : Hid ((w.alloc (.cells #[.int .i64 k, .bool b, .int .i64 n, .bool no, .string t, .slice a L.length c] 24)) = W ∧ Below w.heap.size w W ∧ IsCells W w.heap.size #[.int .i64 k, .bool b, .int .i64 n, .bool no, .string t, .slice a L.length c] ∧ Gl w ∧ VOk w ⟨k, b, n, no, t, L⟩ a) := ⟨hW, hbW, hx, G, h⟩
  have hc := can_any W k n b no t (c := c) (h.at_.bel hbW) h.len
  rw [hz] at hc
  obtain ⟨z2, HT⟩ : ∃ z2, Hid (txV k b n no t L = z2) := ⟨_, rfl⟩
  rw [HT.out]
  have x0 : W.cell? ⟨w.heap.size, 0, none⟩ = some (.int .i64 k) := hx.cell 0
  have x1 : W.cell? ⟨w.heap.size, 1, none⟩ = some (.bool b) := hx.cell 1
  have x2 : W.cell? ⟨w.heap.size, 2, none⟩ = some (.int .i64 n) := hx.cell 2
  have x3 : W.cell? ⟨w.heap.size, 3, none⟩ = some (.bool no) := hx.cell 3
  have x4 : W.cell? ⟨w.heap.size, 4, none⟩ = some (.string t) := hx.cell 4
  have x5 : W.cell? ⟨w.heap.size, 5, none⟩ = some (.slice a L.length c) := hx.cell 5
  clear h hz hx hbW hW G
  go_enter Tryz.func11, Tryz.ntmps11
  go_wp2_with fail
  rw [HW.out.1]
  go_wp2_with fail
  with_reducible refine hc.mono ?_
  rintro e w1 ⟨rfl, hb⟩
  have HX : Hid (Below w.heap.size w w1 ∧ IsCells w1 w.heap.size #[.int .i64 k, .bool b, .int .i64 n, .bool no, .string t, .slice a L.length c]) := ⟨HW.out.2.1.trans (hb.mono HW.out.2.1.size), HW.out.2.2.1.of_block (hb.block _ HW.out.2.2.1.lt)⟩
  clear hb hc x0 x1 x2 x3 x4 x5
  cases z with
  | false =>
    go_wp2
    go_ret2
    exact ⟨rfl, HX.out.1⟩
  | true =>
    have x0 : w1.cell? ⟨w.heap.size, 0, none⟩ = some (.int .i64 k) := HX.out.2.cell 0
    have x1 : w1.cell? ⟨w.heap.size, 1, none⟩ = some (.bool b) := HX.out.2.cell 1
    have x2 : w1.cell? ⟨w.heap.size, 2, none⟩ = some (.int .i64 n) := HX.out.2.cell 2
    have x3 : w1.cell? ⟨w.heap.size, 3, none⟩ = some (.bool no) := HX.out.2.cell 3
    have x4 : w1.cell? ⟨w.heap.size, 4, none⟩ = some (.string t) := HX.out.2.cell 4
    have x5 : w1.cell? ⟨w.heap.size, 5, none⟩ = some (.slice a L.length c) := HX.out.2.cell 5
    have ht := astext_any w1 (c := c) (HW.out.2.2.2.1.bel HX.out.1) (HW.out.2.2.2.2.bel HX.out.1)
    rw [HT.out] at ht
    go_wp2_with fail
    with_reducible refine ht.mono ?_
    rintro e w2 ⟨rfl, hb⟩
    have HB : Hid (Below w.heap.size w w2) := HX.out.1.trans (hb.mono HX.out.1.size)
    clear hb
    go_wp2
    go_ret2
    exact ⟨rfl, HB.out⟩

set_option maxRecDepth 100000 in
theorem number_call (w : World) (G : Gl w) {k n : Int} {b no : Bool} {t : ByteArray} {a : Option Addr} {c : Nat} {L : List ByteArray} (h : VOk w ⟨k, b, n, no, t, L⟩ a) (z : Bool) (hz : canV k (Tx t) (L.map Tx) = z) :
    Calls Tryz.prog 10 #[.agg #[.int .i64 k, .bool b, .int .i64 n, .bool no, .string t, .slice a L.length c]] w fun e w' => e = .returned (.tuple #[.int .i64 (if z then (nmV k b n no t L).1 else 0), .bool (z && (nmV k b n no t L).2), .int .i64 (if z then 0 else 141)]) ∧ Below w.heap.size w w' := by
  obtain ⟨W, hW⟩ : ∃ W, (w.alloc (.cells #[.int .i64 k, .bool b, .int .i64 n, .bool no, .string t, .slice a L.length c] 24)) = W := ⟨_, rfl⟩
  have hbW : Below w.heap.size w W := by rw [← hW]; exact (Below.refl _ _).alloc (Nat.le_refl _) _
  have hx : IsCells W w.heap.size #[.int .i64 k, .bool b, .int .i64 n, .bool no, .string t, .slice a L.length c] := by rw [← hW]; exact isCells_new _ _ _
  have HW : Hid ((w.alloc (.cells #[.int .i64 k, .bool b, .int .i64 n, .bool no, .string t, .slice a L.length c] 24)) = W ∧ Below w.heap.size w W ∧ IsCells W w.heap.size #[.int .i64 k, .bool b, .int .i64 n, .bool no, .string t, .slice a L.length c] ∧ Gl w ∧ VOk w ⟨k, b, n, no, t, L⟩ a) := ⟨hW, hbW, hx, G, h⟩
  have hc := can_any W k n b no t (c := c) (h.at_.bel hbW) h.len
  rw [hz] at hc
  obtain ⟨zn, zb, HT⟩ : ∃ zn zb, Hid (nmV k b n no t L = (zn, zb)) := ⟨_, _, rfl⟩
  rw [HT.out]
  have x0 : W.cell? ⟨w.heap.size, 0, none⟩ = some (.int .i64 k) := hx.cell 0
  have x1 : W.cell? ⟨w.heap.size, 1, none⟩ = some (.bool b) := hx.cell 1
  have x2 : W.cell? ⟨w.heap.size, 2, none⟩ = some (.int .i64 n) := hx.cell 2
  have x3 : W.cell? ⟨w.heap.size, 3, none⟩ = some (.bool no) := hx.cell 3
  have x4 : W.cell? ⟨w.heap.size, 4, none⟩ = some (.string t) := hx.cell 4
  have x5 : W.cell? ⟨w.heap.size, 5, none⟩ = some (.slice a L.length c) := hx.cell 5
  clear h hz hx hbW hW G
  go_enter Tryz.func10, Tryz.ntmps10
  go_wp2_with fail
  rw [HW.out.1]
  go_wp2_with fail
  with_reducible refine hc.mono ?_
  rintro e w1 ⟨rfl, hb⟩
  have HX : Hid (Below w.heap.size w w1 ∧ IsCells w1 w.heap.size #[.int .i64 k, .bool b, .int .i64 n, .bool no, .string t, .slice a L.length c]) := ⟨HW.out.2.1.trans (hb.mono HW.out.2.1.size), HW.out.2.2.1.of_block (hb.block _ HW.out.2.2.1.lt)⟩
  clear hb hc x0 x1 x2 x3 x4 x5
  cases z with
  | false =>
    go_wp2
    go_ret3
    exact ⟨rfl, HX.out.1⟩
  | true =>
    have x0 : w1.cell? ⟨w.heap.size, 0, none⟩ = some (.int .i64 k) := HX.out.2.cell 0
    have x1 : w1.cell? ⟨w.heap.size, 1, none⟩ = some (.bool b) := HX.out.2.cell 1
    have x2 : w1.cell? ⟨w.heap.size, 2, none⟩ = some (.int .i64 n) := HX.out.2.cell 2
    have x3 : w1.cell? ⟨w.heap.size, 3, none⟩ = some (.bool no) := HX.out.2.cell 3
    have x4 : w1.cell? ⟨w.heap.size, 4, none⟩ = some (.string t) := HX.out.2.cell 4
    have x5 : w1.cell? ⟨w.heap.size, 5, none⟩ = some (.slice a L.length c) := HX.out.2.cell 5
    have ht := asnum_any w1 (c := c) (HW.out.2.2.2.1.bel HX.out.1) (HW.out.2.2.2.2.bel HX.out.1)
    rw [HT.out] at ht
    go_wp2_with fail
    with_reducible refine ht.mono ?_
    rintro e w2 ⟨rfl, hb⟩
    have HB : Hid (Below w.heap.size w w2) := HX.out.1.trans (hb.mono HX.out.1.size)
    have hs := HB.out.size
    clear hb x0 x1 x2 x3 x4 x5 ht
    go_wp2
    go_region
    all_goals go_wp2
    all_goals go_ret3
    all_goals exact ⟨rfl, (HB.out.alloc hs _).drew⟩

end Go.Proofs.YtoabgmpcdnikeaaGreatDoor
