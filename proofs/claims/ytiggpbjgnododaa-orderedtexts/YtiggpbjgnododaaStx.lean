/- OrderedTexts: what its walk stands on: the order by lengths, At, Has. -/
import Derived.Test.YtiggpbjgnododaaSo
namespace Go.Proofs.Ytiggpbjgnododaa.S
open Go.RowKit Go.Shelf
set_option linter.unusedVariables false

def szK (s : ByteArray) : Int := s.size

set_option maxRecDepth 100000 in
set_option maxHeartbeats 1000000 in
theorem less_any (w : World) (x y : ByteArray) : Calls Try.prog 31 #[.string x, .string y] w fun e w' => e = .returned (.bool (ltK szK x y)) ∧ w' = w := by
  go_enter Try.func31, Try.ntmps31
  go_wp2
  go_ret
  exact ⟨congrArg _ (v_bool (by simp [ltK, szK])), rfl⟩

theorem less_is (w : World) : Less w 31 #[] (ltK szK) (fun _ => True) :=
  ⟨enters_of Try.func31 (by kernel_rfl) rfl, fun W hW x y _ _ => (less_any W x y).mono fun e W' ⟨he, hw⟩ => ⟨he, by rw [hw]; exact Below.refl _ _⟩⟩

set_option maxRecDepth 100000 in
set_option maxHeartbeats 1000000 in
theorem at_some (w : World) (B db g : Nat) (caps : Array Value) (L : List ByteArray) (a : Option Addr) (cap : Nat) (lent : Bool) (ed : Int) (i : Nat) (y : ByteArray) (h : LAt w B db g caps L a cap lent ed) (hy : L[i]? = some y) :
    Calls Try.prog 33 #[.pointer (some ⟨db, 0, none⟩), .int .i64 (i : Int)] w fun e w' => e = .returned (.tuple #[.string y, .bool true]) ∧ w' = w := by
  have c1 : w.cell? ⟨db, 1, none⟩ = some (.slice a L.length cap) := h.head.cell 1
  obtain ⟨rb, rfl, hr1, hr2⟩ := h.items i y hy
  have hlt : i < L.length := (List.getElem?_eq_some_iff.1 hy).1
  have hi1 : (i : Int) < (L.length : Int) := by omega
  have hi2 : (0 : Int) ≤ (i : Int) := by omega
  have hl : (L.length : Int) ≤ 8192 := by have := h.len; omega
  clear h hy
  generalize L.length = n at *
  go_enter Try.func33, Try.ntmps33
  go_wp2
  go_ret2
  exact ⟨rfl, rfl⟩

set_option maxRecDepth 100000 in
set_option maxHeartbeats 1000000 in
theorem has_any (w : World) (B db g : Nat) (caps : Array Value) (L : List ByteArray) (a : Option Addr) (cap : Nat) (lent : Bool) (ed : Int) (lt : ByteArray → ByteArray → Bool) (dom : ByteArray → Prop) (x : ByteArray) (k : Nat)
    (h : LAt w B db g caps L a cap lent ed) (hless : Less w g caps lt dom) (hx : dom x) (hL : ∀ y ∈ L, dom y) (hc : Cut lt L x k) :
    Calls Try.prog 35 #[.pointer (some ⟨db, 0, none⟩), .string x] w fun e w' => e = .returned (.bool (thereB lt L x k)) ∧ Below w.heap.size w w' := by
  have hf := find_any w B db g caps L a cap lent ed lt dom x k h hless hx hL hc
  clear h hless hL hc
  go_enter Try.func35, Try.ntmps35
  go_wp2_with fail
  refine hf.mono ?_
  rintro e w1 ⟨rfl, hb⟩
  have HB : Hid (Below w.heap.size w w1) := hb
  clear hf hb
  go_wp2
  go_ret
  exact ⟨rfl, HB.out⟩

end Go.Proofs.Ytiggpbjgnododaa.S
