/- Sums: the program's add and sum; values made. -/
import Derived.Test.YtoabgmpcdnikeaaGreatDoorVo
namespace Go.Proofs.YtoabgmpcdnikeaaGreatDoor
open Go.RowKit
set_option linter.unusedVariables false

/-- The sum of two numbers. -/
def addN (a b : Nm) : Nm := if a.2 && b.2 && (decide (IntKind.i64.wrap (a.1 + b.1) > a.1) == decide (b.1 > 0)) then (IntKind.i64.wrap (a.1 + b.1), true) else (0, false)

theorem below3 (w : World) (x y z : Obj) : Below w.heap.size w (((w.alloc x).alloc y).alloc z) := (((Below.refl _ _).alloc (Nat.le_refl _) _).alloc (by simp) _).alloc (by simp; omega) _
theorem below2 (w : World) (x y : Obj) : Below w.heap.size w ((w.alloc x).alloc y) := ((Below.refl _ _).alloc (Nat.le_refl _) _).alloc (by simp) _
theorem below1 (w : World) (x : Obj) : Below w.heap.size w (w.alloc x) := (Below.refl _ _).alloc (Nat.le_refl _) _

set_option maxRecDepth 100000 in
theorem add_any (w : World) (x y : Int) (p q : Bool) (zn : Int) (zb : Bool) (hz : addN (x, p) (y, q) = (zn, zb)) : Calls Tryz.prog 113 #[.agg #[.int .i64 x, .bool p], .agg #[.int .i64 y, .bool q]] w fun e w' => e = .returned (.agg #[.int .i64 zn, .bool zb]) ∧ Below w.heap.size w w' := by
  obtain ⟨S, hS⟩ : ∃ S, IntKind.i64.wrap (x + y) = S := ⟨_, rfl⟩
  have HZ : Hid (addN (x, p) (y, q) = (zn, zb)) := hz
  unfold addN at HZ
  simp only [hS] at HZ
  clear hz
  cases p with
  | false =>
    obtain ⟨rfl, rfl⟩ : (0 : Int) = zn ∧ false = zb := Prod.mk.inj (by simpa using HZ.out)
    go_enter Tryz.func113, Tryz.ntmps113
    go_wp2
    exact bodyPost_ret (v := .agg #[.int .i64 0, .bool false]) (by simp [results, Tryz.results113, go_sem]) rfl ⟨rfl, below3 _ _ _ _⟩
  | true =>
    cases q with
    | false =>
      obtain ⟨rfl, rfl⟩ : (0 : Int) = zn ∧ false = zb := Prod.mk.inj (by simpa using HZ.out)
      go_enter Tryz.func113, Tryz.ntmps113
      go_wp2
      exact bodyPost_ret (v := .agg #[.int .i64 0, .bool false]) (by simp [results, Tryz.results113, go_sem]) rfl ⟨rfl, below3 _ _ _ _⟩
    | true =>
      cases h1 : decide (S > x) <;> cases h2 : decide (y > 0) <;> rw [h1, h2] at HZ
      · obtain ⟨rfl, rfl⟩ : S = zn ∧ true = zb := Prod.mk.inj (by simpa using HZ.out)
        go_enter Tryz.func113, Tryz.ntmps113
        go_wp2
        exact bodyPost_ret (v := .agg #[.int .i64 S, .bool true]) (by simp [results, Tryz.results113, go_sem]) rfl ⟨rfl, below3 _ _ _ _⟩
      · obtain ⟨rfl, rfl⟩ : (0 : Int) = zn ∧ false = zb := Prod.mk.inj (by simpa using HZ.out)
        go_enter Tryz.func113, Tryz.ntmps113
        go_wp2
        exact bodyPost_ret (v := .agg #[.int .i64 0, .bool false]) (by simp [results, Tryz.results113, go_sem]) rfl ⟨rfl, below3 _ _ _ _⟩
      · obtain ⟨rfl, rfl⟩ : (0 : Int) = zn ∧ false = zb := Prod.mk.inj (by simpa using HZ.out)
        go_enter Tryz.func113, Tryz.ntmps113
        go_wp2
        exact bodyPost_ret (v := .agg #[.int .i64 0, .bool false]) (by simp [results, Tryz.results113, go_sem]) rfl ⟨rfl, below3 _ _ _ _⟩
      · obtain ⟨rfl, rfl⟩ : S = zn ∧ true = zb := Prod.mk.inj (by simpa using HZ.out)
        go_enter Tryz.func113, Tryz.ntmps113
        go_wp2
        exact bodyPost_ret (v := .agg #[.int .i64 S, .bool true]) (by simp [results, Tryz.results113, go_sem]) rfl ⟨rfl, below3 _ _ _ _⟩

/-- A value that is made: no texts. -/
abbrev mkV (k : Int) (b : Bool) (n : Int) (no : Bool) (t : ByteArray) : Value := .agg #[.int .i64 k, .bool b, .int .i64 n, .bool no, .string t, .slice none 0 0]

theorem mktruth_any (w : World) (b : Bool) : Calls Tryz.prog 79 #[.bool b] w fun e w' => e = .returned (mkV 1 b 0 false ⟨#[]⟩) ∧ Below w.heap.size w w' := by
  go_enter Tryz.func79, Tryz.ntmps79
  go_wp2
  exact bodyPost_ret (v := mkV 1 b 0 false ⟨#[]⟩) (by simp [results, Tryz.results79, go_sem]) rfl ⟨rfl, below1 _ _⟩
theorem mkint_any (w : World) (n : Int) : Calls Tryz.prog 80 #[.int .i64 n] w fun e w' => e = .returned (mkV 2 false n false ⟨#[]⟩) ∧ Below w.heap.size w w' := by
  go_enter Tryz.func80, Tryz.ntmps80
  go_wp2
  exact bodyPost_ret (v := mkV 2 false n false ⟨#[]⟩) (by simp [results, Tryz.results80, go_sem]) rfl ⟨rfl, below1 _ _⟩
theorem mkwords_any (w : World) (s : ByteArray) : Calls Tryz.prog 81 #[.string s] w fun e w' => e = .returned (mkV 3 false 0 false s) ∧ Below w.heap.size w w' := by
  go_enter Tryz.func81, Tryz.ntmps81
  go_wp2
  exact bodyPost_ret (v := mkV 3 false 0 false s) (by simp [results, Tryz.results81, go_sem]) rfl ⟨rfl, below1 _ _⟩
theorem mknum_any (w : World) (n : Int) : Calls Tryz.prog 32 #[.int .i64 n] w fun e w' => e = .returned (mkV 2 false n false ⟨#[]⟩) ∧ Below w.heap.size w w' := by
  go_enter Tryz.func32, Tryz.ntmps32
  go_wp2
  exact bodyPost_ret (v := mkV 2 false n false ⟨#[]⟩) (by simp [results, Tryz.results32, go_sem]) rfl ⟨rfl, below1 _ _⟩
theorem mktext_any (w : World) (s : ByteArray) : Calls Tryz.prog 33 #[.string s] w fun e w' => e = .returned (mkV 3 false 0 false s) ∧ Below w.heap.size w w' := by
  go_enter Tryz.func33, Tryz.ntmps33
  go_wp2
  exact bodyPost_ret (v := mkV 3 false 0 false s) (by simp [results, Tryz.results33, go_sem]) rfl ⟨rfl, below1 _ _⟩
theorem mknodes_any (w : World) (a : Option Addr) (m c : Nat) : Calls Tryz.prog 62 #[.slice a m c] w fun e w' => e = .returned (.agg #[.int .i64 4, .bool false, .int .i64 0, .bool false, .string ⟨#[]⟩, .slice a m c]) ∧ Below w.heap.size w w' := by
  go_enter Tryz.func62, Tryz.ntmps62
  go_wp2
  exact bodyPost_ret (v := .agg #[.int .i64 4, .bool false, .int .i64 0, .bool false, .string ⟨#[]⟩, .slice a m c]) (by simp [results, Tryz.results62, go_sem]) rfl ⟨rfl, below1 _ _⟩
theorem numval_any (w : World) (n : Int) (p : Bool) : Calls Tryz.prog 82 #[.agg #[.int .i64 n, .bool p]] w fun e w' => e = .returned (mkV 2 false n (!p) ⟨#[]⟩) ∧ Below w.heap.size w w' := by
  go_enter Tryz.func82, Tryz.ntmps82
  go_wp2
  exact bodyPost_ret (v := mkV 2 false n (!p) ⟨#[]⟩) (by simp [results, Tryz.results82, go_sem]) rfl ⟨rfl, below2 _ _ _⟩
/-- How many nodes. -/
def cntV (k : Int) (m : Nat) : Nm := if k = 4 then ((m : Int), true) else (0, false)
theorem count_any (w : World) (k n : Int) (b no : Bool) (t : ByteArray) (a : Option Addr) (m c : Nat) : Calls Tryz.prog 83 #[.agg #[.int .i64 k, .bool b, .int .i64 n, .bool no, .string t, .slice a m c]] w fun e w' => e = .returned (.agg #[.int .i64 (cntV k m).1, .bool (cntV k m).2]) ∧ Below w.heap.size w w' := by
  by_cases h4 : k = 4
  · subst h4
    rw [show cntV 4 m = ((m : Int), true) from rfl]
    go_enter Tryz.func83, Tryz.ntmps83
    go_wp2
    exact bodyPost_ret (v := .agg #[.int .i64 m, .bool true]) (by simp [results, Tryz.results83, go_sem]) rfl ⟨rfl, below2 _ _ _⟩
  · have q4 : (k == 4) = false := by simpa using h4
    have q5 : (k != 4) = true := by simpa using h4
    rw [show cntV k m = (0, false) from by simp [cntV, h4]]
    clear h4
    go_enter Tryz.func83, Tryz.ntmps83
    go_wp2
    exact bodyPost_ret (v := .agg #[.int .i64 0, .bool false]) (by simp [results, Tryz.results83, go_sem]) rfl ⟨rfl, below2 _ _ _⟩

end Go.Proofs.YtoabgmpcdnikeaaGreatDoor
