/- The document's small functions: truth, said, number, has, Takes; Same of two values that are the same. -/
import Derived.Test.YtoabgmpcdnikeaaGreatDoorXg
import Derived.Test.YtoabgmpcdnikeaaGreatDoorXh
namespace Go.Proofs.YtoabgmpcdnikeaaGreatDoor
open Go.RowKit
set_option linter.unusedVariables false

theorem dtruth_any (w : World) (b : Bool) : Calls Tryz.prog 44 #[.bool b] w fun e w' => e = .returned (mkV 1 b 0 false ⟨#[]⟩) ∧ Below w.heap.size w w' := by
  go_enter Tryz.func44, Tryz.ntmps44
  go_wp2
  exact bodyPost_ret (v := mkV 1 b 0 false ⟨#[]⟩) (by simp [results, Tryz.results44, go_sem]) rfl ⟨rfl, below1 _ _⟩
theorem dsaid_any (w : World) (s : ByteArray) : Calls Tryz.prog 45 #[.string s] w fun e w' => e = .returned (mkV 3 false 0 false s) ∧ Below w.heap.size w w' := by
  go_enter Tryz.func45, Tryz.ntmps45
  go_wp2
  exact bodyPost_ret (v := mkV 3 false 0 false s) (by simp [results, Tryz.results45, go_sem]) rfl ⟨rfl, below1 _ _⟩
theorem dnumber_any (w : World) (n : Int) (b : Bool) : Calls Tryz.prog 49 #[.agg #[.bool b, .int .i64 n]] w fun e w' => e = .returned (mkV 2 false (if b then n else 0) (!b) ⟨#[]⟩) ∧ Below w.heap.size w w' := by
  cases b with
  | true =>
    go_enter Tryz.func49, Tryz.ntmps49
    go_wp2
    exact bodyPost_ret (v := mkV 2 false n false ⟨#[]⟩) (by simp [results, Tryz.results49, go_sem]) rfl ⟨rfl, below2 _ _ _⟩
  | false =>
    go_enter Tryz.func49, Tryz.ntmps49
    go_wp2
    exact bodyPost_ret (v := mkV 2 false 0 true ⟨#[]⟩) (by simp [results, Tryz.results49, go_sem]) rfl ⟨rfl, below2 _ _ _⟩
set_option maxRecDepth 100000 in
theorem dsame_any (w : World) {k n : Int} {b no : Bool} {t : ByteArray} {a a' : Option Addr} {c c' : Nat} {L : List ByteArray} (h : SsAt w a L) (h' : SsAt w a' L) (hl : L.length ≤ 4611686018427387904) :
    Calls Tryz.prog 14 #[.agg #[.int .i64 k, .bool b, .int .i64 n, .bool no, .string t, .slice a L.length c], .agg #[.int .i64 k, .bool b, .int .i64 n, .bool no, .string t, .slice a' L.length c']] w fun e w' => e = .returned (.bool true) ∧ Below w.heap.size w w' := by
  obtain ⟨W, hW⟩ : ∃ W, ((w.alloc (.cells #[.int .i64 k, .bool b, .int .i64 n, .bool no, .string t, .slice a L.length c] 24)).alloc (.cells #[.int .i64 k, .bool b, .int .i64 n, .bool no, .string t, .slice a' L.length c'] 24)) = W := ⟨_, rfl⟩
  have hbW : Below w.heap.size w W := by rw [← hW]; exact below2 _ _ _
  have hx : IsCells W w.heap.size #[.int .i64 k, .bool b, .int .i64 n, .bool no, .string t, .slice a L.length c] := by rw [← hW]; exact (isCells_new w _ 24).alloc _
  have hy : IsCells W (w.heap.size + 1) #[.int .i64 k, .bool b, .int .i64 n, .bool no, .string t, .slice a' L.length c'] := by
    have := isCells_new (w.alloc (.cells #[.int .i64 k, .bool b, .int .i64 n, .bool no, .string t, .slice a L.length c] 24)) #[.int .i64 k, .bool b, .int .i64 n, .bool no, .string t, .slice a' L.length c'] 24
    rw [hW] at this
    simpa using this
  have HW : Hid (((w.alloc (.cells #[.int .i64 k, .bool b, .int .i64 n, .bool no, .string t, .slice a L.length c] 24)).alloc (.cells #[.int .i64 k, .bool b, .int .i64 n, .bool no, .string t, .slice a' L.length c'] 24)) = W ∧ Below w.heap.size w W ∧ IsCells W w.heap.size #[.int .i64 k, .bool b, .int .i64 n, .bool no, .string t, .slice a L.length c] ∧ IsCells W (w.heap.size + 1) #[.int .i64 k, .bool b, .int .i64 n, .bool no, .string t, .slice a' L.length c']) := ⟨hW, hbW, hx, hy⟩
  have H1 : Hid (SsAt w a L ∧ SsAt w a' L) := ⟨h, h'⟩
  obtain ⟨x0, x1, x2, x3, x4, x5⟩ := six_cells hx
  obtain ⟨y0, y1, y2, y3, y4, y5⟩ := six_cells hy
  have k1 : (k != k) = false := by simp
  have k2 : (b != b) = false := by simp
  have k3 : (n != n) = false := by simp
  have k4 : (no != no) = false := by simp
  have k5 : (t.toList != t.toList) = false := by simp
  clear hW hbW hx hy h h'
  go_enter Tryz.func14, Tryz.ntmps14
  go_wp2_with fail
  rw [HW.out.1]
  go_wp2
  go_loopw [5] (fun u wr => ∃ i : Nat, i ≤ L.length ∧ u = .int .i64 (i : Int) ∧ Hid (Below w.heap.size w wr ∧ IsCells wr w.heap.size #[.int .i64 k, .bool b, .int .i64 n, .bool no, .string t, .slice a L.length c] ∧ IsCells wr (w.heap.size + 1) #[.int .i64 k, .bool b, .int .i64 n, .bool no, .string t, .slice a' L.length c'])) (fun u _ => L.length - (intOf u).toNat)
  case atStart => exact ⟨0, by omega, rfl, HW.out.2⟩
  case round =>
    obtain ⟨i, hi, rfl, HS⟩ := hrel
    clear x0 x1 x2 x3 x4 x5 y0 y1 y2 y3 y4 y5
    obtain ⟨x0, x1, x2, x3, x4, x5⟩ := six_cells HS.out.2.1
    obtain ⟨y0, y1, y2, y3, y4, y5⟩ := six_cells HS.out.2.2
    by_cases hlt : i < L.length
    · have hltz : (i : Int) < (L.length : Int) := by omega
      obtain ⟨s, hs⟩ : ∃ s, L[i]? = some s := ⟨_, List.getElem?_eq_getElem hlt⟩
      obtain ⟨b1, o1, rfl, hb1, c1⟩ := (H1.out.1.bel HS.out.1) i s hs
      obtain ⟨b2, o2, rfl, hb2, c2⟩ := (H1.out.2.bel HS.out.1) i s hs
      have k6 : (s.toList != s.toList) = false := by simp
      clear hs
      go_wp2
      go_region
      all_goals go_wp2
      all_goals go_roundw
      case rel => exact ⟨i + 1, by omega, by go_num, HS.out.1.drew, HS.out.2.1.of_block rfl, HS.out.2.2.of_block rfl⟩
      case measure => simp [intOf]; omega
    · have hltz : ¬ (i : Int) < (L.length : Int) := by omega
      go_wp2
      go_ret
      exact ⟨rfl, HS.out.1⟩

end Go.Proofs.YtoabgmpcdnikeaaGreatDoor
