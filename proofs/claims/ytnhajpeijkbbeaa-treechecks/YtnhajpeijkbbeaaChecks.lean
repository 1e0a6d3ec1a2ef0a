/- TreeChecks' walk. -/
import Derived.Test.YtnhajpeijkbbeaaCopy
import Derived.Deep.RegionHeld3
namespace Go.Proofs.Ytnhajpeijkbbeaa
open Go.RowKit
set_option linter.unusedVariables false

def leafT (k : Int) (nm : ByteArray) : T 1 := { kind := k, name := nm, attrs := [], text := ⟨#[]⟩, kids := [] }
theorem leaf_at (w : World) (k : Int) (nm : ByteArray) : TreeAt w 0 0 1 #[.int .i64 k, .string nm, .slice none 0 0, .string ⟨#[]⟩, .slice none 0 0] (leafT k nm) :=
  ⟨none, 0, none, 0, rfl, Nat.zero_le _, Nat.zero_le _, Nat.le_refl _, Nat.le_refl _, fun i p h => by simp [leafT] at h, fun i p h => by simp [leafT] at h⟩

theorem check_leaf (W : World) : Calls Try.prog 4 #[.agg #[.int .i64 1, .string ⟨#[97]⟩, .slice none 0 0, .string ⟨#[]⟩, .slice none 0 0]] W fun e w' => e = .returned (.int .i64 0) ∧ Below W.heap.size W w' := by
  have h := Check_any 1 W _ _ 0 0 (leaf_at W 1 ⟨#[97]⟩) (Nat.zero_le _)
  have e : (chk 1 (leafT 1 ⟨#[97]⟩) 1 0).2 = 0 := by decide +kernel
  rw [e] at h
  exact h
theorem check_zero (W : World) : Calls Try.prog 4 #[.agg #[.int .i64 0, .string ⟨#[]⟩, .slice none 0 0, .string ⟨#[]⟩, .slice none 0 0]] W fun e w' => e = .returned (.int .i64 1) ∧ Below W.heap.size W w' := by
  have h := Check_any 1 W _ _ 0 0 (leaf_at W 0 ⟨#[]⟩) (Nat.zero_le _)
  have e : (chk 1 (leafT 0 ⟨#[]⟩) 1 0).2 = 1 := by decide +kernel
  rw [e] at h
  exact h

set_option maxRecDepth 100000 in
set_option maxHeartbeats 2000000 in
theorem checks_walk (n : Nat) (w : World) (v : Array Value) (t : T n) (h : TreeAt w 0 w.heap.size n v t) :
    Calls Try.prog 3 #[.agg v] w fun e w' => e = .returned (.bool true) ∧ Below w.heap.size w w' := by
  obtain ⟨k, nm, a, al, ac, tx, ka, kl, kc, rfl⟩ := h.form
  have HB0 : Hid (Below w.heap.size w (w.alloc (.cells #[.int .i64 k, .string nm, .slice a al ac, .string tx, .slice ka kl kc] 25))) := below_new' w _
  have HT : Hid (∀ W, Below w.heap.size w W → Calls Try.prog 5 #[.agg #[.int .i64 k, .string nm, .slice a al ac, .string tx, .slice ka kl kc]] W (CopP W n t)) := fun W hb => copied_any n W _ t 0 w.heap.size (h.below hb (Nat.le_refl _)) hb.size
  have HR : Hid (∀ W, Below w.heap.size w W → Calls Try.prog 6 #[.agg #[.int .i64 k, .string nm, .slice a al ac, .string tx, .slice ka kl kc]] W fun e w' => e = .returned (.int .i64 (chk n t 1 0).2) ∧ Below W.heap.size W w') := fun W hb => rCheck_any n W _ t 0 w.heap.size (h.below hb (Nat.le_refl _)) hb.size
  have HC : Hid (∀ (W W' : World) (u : Array Value), TreeAt W' W.heap.size W'.heap.size n u t → Calls Try.prog 4 #[.agg u] W' fun e w' => e = .returned (.int .i64 (chk n t 1 0).2) ∧ Below W'.heap.size W' w') := fun W W' u hu => Check_any n W' u t _ _ hu (Nat.le_refl _)
  generalize (chk n t 1 0).2 = x at *
  clear h
  have tokA : True := trivial
  have tokB : True := trivial
  go_enter Try.func3, Try.ntmps3
  go_wp2
  go_region_held3 (fun w' => w'.cell? ⟨w.heap.size, 0, none⟩ = some (.int .i64 k) ∧ w'.cell? ⟨w.heap.size, 1, none⟩ = some (.string nm) ∧ w'.cell? ⟨w.heap.size, 2, none⟩ = some (.slice a al ac) ∧ w'.cell? ⟨w.heap.size, 3, none⟩ = some (.string tx) ∧ w'.cell? ⟨w.heap.size, 4, none⟩ = some (.slice ka kl kc)) (go_keep)
    (first
      | (go_at_call 5; refine (HT.out _ HB0.out.drew).mono ?_; rintro e w1 ⟨u, rfl, htu, hb1⟩; obtain ⟨k', nm', a', al', ac', tx', ka', kl', kc', rfl⟩ := htu.form; have hc1 := (bcell hb1).1; have hz1 : w.heap.size < w1.heap.size := (by have := hb1.size; simp at this; omega); have HC1 := HC.out _ _ _ htu; have HB1 : Hid (Below w.heap.size w w1) := HB0.out.drew.trans (hb1.mono (by simp)); clear htu hb1)
      | (go_at_call 4; have _t := tokA; refine HC1.mono ?_; rintro e w2 ⟨rfl, hb2⟩; have hc2 := (bcell hb2).1; have hz2 : w.heap.size < w2.heap.size := (by have := hb2.size; omega); have HB2 : Hid (Below w.heap.size w w2) := HB1.out.trans (hb2.mono (by omega)); clear hb2 tokA _t)
      | (go_at_call 6; refine (HR.out _ HB2.out).mono ?_; rintro e w3 ⟨rfl, hb3⟩; have hc3 := (bcell hb3).1; have hz3 : w.heap.size < w3.heap.size := (by have := hb3.size; omega); have HB3 : Hid (Below w.heap.size w w3) := HB2.out.trans (hb3.mono (by omega)); clear hb3)
      | (go_at_call 4; have _t := tokB; refine (check_leaf _).mono ?_; rintro e w4 ⟨rfl, hb4⟩; have hc4 := (bcell hb4).1; have hz4 : w.heap.size < w4.heap.size := (by have := hb4.size; omega); have HB4 : Hid (Below w.heap.size w w4) := HB3.out.trans (hb4.mono (by omega)); clear hb4 tokB _t)
      | (go_at_call 4; refine (check_zero _).mono ?_; rintro e w5 ⟨rfl, hb5⟩; have hc5 := (bcell hb5).1; have hz5 : w.heap.size < w5.heap.size := (by have := hb5.size; omega); have HB5 : Hid (Below w.heap.size w w5) := HB4.out.trans (hb5.mono (by omega)); clear hb5))
  go_wp2
  go_ret
  exact ⟨rfl, HB5.out⟩

end Go.Proofs.Ytnhajpeijkbbeaa
