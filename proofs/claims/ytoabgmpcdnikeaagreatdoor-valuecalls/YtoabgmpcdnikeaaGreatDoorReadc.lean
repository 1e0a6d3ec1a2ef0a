/- What ValueCalls takes, read as data: a place, and a list of values. -/
import Derived.Test.YtoabgmpcdnikeaaGreatDoorRead
import Derived.Test.YtoabgmpcdnikeaaGreatDoorXu
namespace Go.Proofs.YtoabgmpcdnikeaaGreatDoor
open Go.RowKit Go.Deep
set_option linter.unusedVariables false
set_option maxRecDepth 100000

theorem cells45 : Tryz.prog.cellsOf 45 = 5 := by kernel_rfl
theorem cells43 : Tryz.prog.cellsOf 43 = 1 := by kernel_rfl
theorem bytes24 : Tryz.prog.bytesOf 24 = 72 := by kernel_rfl
/-- A place, read: its cells. -/
theorem here_of {H : Type} {enc : TypeId × Value → H} {W : World} {held : Bool} {fuel : Nat} {cs : List Value} {x : DataW H × List MemPlace} (h : DataW.trod enc Tryz.prog W 0 (fun _ => true) held fuel 45 cs = some x) :
    ∃ (ps la : Int) (nm tx : ByteArray) (ta : Option Addr) (tl tc : Nat), cs = [.int .i64 ps, .int .i64 la, .string nm, .string tx, .slice ta tl tc] := by
  obtain ⟨xs, n', hf, rfl, hl, g4, g5⟩ := DataW.trod_struct Tryz.underlying45 h
  have x6 : xs.length = 5 := g4
  rw [cells45] at hl
  have f0 : DataW.trod enc Tryz.prog W 0 (fun _ => true) held n' 3 ((cs.drop 0).take (Tryz.prog.cellsOf 3)) = xs[0]? := g5 0 _ rfl
  have f1 : DataW.trod enc Tryz.prog W 0 (fun _ => true) held n' 3 ((cs.drop 1).take (Tryz.prog.cellsOf 3)) = xs[1]? := g5 1 _ rfl
  have f2 : DataW.trod enc Tryz.prog W 0 (fun _ => true) held n' 9 ((cs.drop 2).take (Tryz.prog.cellsOf 9)) = xs[2]? := g5 2 _ rfl
  have f3 : DataW.trod enc Tryz.prog W 0 (fun _ => true) held n' 9 ((cs.drop 3).take (Tryz.prog.cellsOf 9)) = xs[3]? := g5 3 _ rfl
  have f4 : DataW.trod enc Tryz.prog W 0 (fun _ => true) held n' 43 ((cs.drop 4).take (Tryz.prog.cellsOf 43)) = xs[4]? := g5 4 _ rfl
  rw [List.getElem?_eq_getElem (by omega)] at f0 f1 f2 f3 f4
  rw [cells3] at f0 f1
  rw [cells9] at f2 f3
  rw [cells43] at f4
  obtain ⟨c0, c1, c2, c3, c4, rfl⟩ : ∃ c0 c1 c2 c3 c4, cs = [c0, c1, c2, c3, c4] := by
    match cs, hl with
    | [c0, c1, c2, c3, c4], _ => exact ⟨c0, c1, c2, c3, c4, rfl⟩
  simp at f0 f1 f2 f3 f4
  obtain ⟨ps, q0, _, _⟩ := DataW.trod_int Tryz.underlying3 f0
  obtain ⟨la, q1, _, _⟩ := DataW.trod_int Tryz.underlying3 f1
  obtain ⟨nm, q2, _⟩ := DataW.trod_string Tryz.underlying9 f2
  obtain ⟨tx, q3, _⟩ := DataW.trod_string Tryz.underlying9 f3
  simp at q0 q1 q2 q3
  subst q0 q1 q2 q3
  obtain ⟨ta, tl, tc, rfl⟩ : ∃ a m c, c4 = .slice a m c := by
    rcases DataW.trod_slice Tryz.underlying43 f4 with ⟨e, _⟩ | ⟨ad, l, c, _, _, _, _, e, _⟩
    · simp at e; exact ⟨_, _, _, e⟩
    · simp at e; exact ⟨_, _, _, e⟩
  exact ⟨ps, la, nm, tx, ta, tl, tc, rfl⟩
/-- A list of values, read. -/
theorem vals_of {H : Type} {enc : TypeId × Value → H} {W : World} {held : Bool} {fuel : Nat} {a : Option Addr} {len cap : Nat} {x : DataW H × List MemPlace} (h : DataW.trod enc Tryz.prog W 0 (fun _ => true) held fuel 46 [.slice a len cap] = some x) (hw : Wt 46 x.1) :
    ∃ A : List Vl, A.length = len ∧ len * 72 ≤ reachBytes ∧ AsAt W a A ∧ ∀ v ∈ A, v.L.length * 16 ≤ reachBytes := by
  obtain ⟨k1, k2, n, hn, hk⟩ := slice_cells Tryz.underlying46 cells24 (by decide) h hw
  rw [bytes24] at k2
  obtain ⟨A, rfl, hA⟩ := list_of len (fun i (v : Vl) => v.L.length * 16 ≤ reachBytes ∧ ∃ xa xc b o, AOk W a i v xa xc b o) (fun i hi => by
    obtain ⟨b, o, cs, y, e1, e2, e3, e4, e5, e6⟩ := hk i hi
    obtain ⟨k, bb, nn, no, t, va, L, c, rfl, hok, hz⟩ := val_of e5 e6
    have g : ∀ j u, j < 6 → [Value.int .i64 k, .bool bb, .int .i64 nn, .bool no, .string t, .slice va L.length c][j]? = some u → W.cell? ⟨b, o + i * 6 + j, none⟩ = some u := fun j u hj hu => (e4 j hj).trans hu
    exact ⟨⟨k, bb, nn, no, t, L⟩, hz, va, c, b, o, e1, e2, g 0 _ (by omega) rfl, g 1 _ (by omega) rfl, g 2 _ (by omega) rfl, g 3 _ (by omega) rfl, g 4 _ (by omega) rfl, g 5 _ (by omega) rfl, hok⟩)
  refine ⟨A, rfl, k2, fun i v hv => (hA i v hv).2, fun v hv => ?_⟩
  obtain ⟨i, hi⟩ := List.getElem?_of_mem hv
  exact (hA i v hi).1

end Go.Proofs.YtoabgmpcdnikeaaGreatDoor
