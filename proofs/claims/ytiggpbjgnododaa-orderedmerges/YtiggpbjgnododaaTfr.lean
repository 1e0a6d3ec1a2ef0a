/- lend, split; All, From, Back of a list of items: what they go through. -/
import Derived.Test.YtiggpbjgnododaaTit
namespace Go.Proofs.Ytiggpbjgnododaa.T
open Go.RowKit Go.Shelf
set_option linter.unusedVariables false
attribute [local go_sem] Bel.cell

theorem bel_drewN' {B : Nat} {a w : World} (h : Below B a w) (n : Nat) : Below B a (w.drewN n) := ⟨h.os, h.tape, h.output, h.size, h.block⟩

theorem capm_of' {w : World} {B : Nat} {xs : List Value} {a : Option Addr} {n cap : Nat} (h : w.ownsRow B 28 2 (.slice a n cap) n xs) : n ≤ cap ∧ cap ≤ maxLen := by
  rcases h.2 with ⟨e, _⟩ | ⟨g, cap', cur, e, _, _, h1, h2, _⟩
  · simp only [Value.slice.injEq] at e
    omega
  · simp only [Value.slice.injEq, true_and] at e
    omega

theorem LAt.lent {w : World} {B db g : Nat} {caps : Array Value} {L : List (Int × Int)} {a : Option Addr} {cap : Nat} {lent : Bool} {ed : Int} (h : LAt w B db g caps L a cap lent ed) : LAt (w.setCell ⟨db, 2, none⟩ (.bool true)) B db g caps L a cap true ed :=
  ⟨by simpa using h.head.set 2 (.bool true), own_of_block h.row (fun k hk => Below.heap_setCell _ _ _ _ (h.ne k hk)), h.ne, h.len⟩

set_option maxRecDepth 100000 in
set_option maxHeartbeats 1000000 in
theorem lend_any (w : World) (B db g : Nat) (caps : Array Value) (L : List (Int × Int)) (a : Option Addr) (cap : Nat) (lent : Bool) (ed : Int) (h : LAt w B db g caps L a cap lent ed) :
    Calls Try.prog 49 #[.pointer (some ⟨db, 0, none⟩)] w fun e w' => e = .returned (.slice a L.length cap) ∧ w' = w.setCell ⟨db, 2, none⟩ (.bool true) := by
  have c1 : w.cell? ⟨db, 1, none⟩ = some (.slice a L.length cap) := h.head.cell 1
  have c2 : w.cell? ⟨db, 2, none⟩ = some (.bool lent) := h.head.cell 2
  have f2 : w.frozen? ⟨db, 2, none⟩ = false := h.head.frozen 2
  clear h
  go_enter Try.func49, Try.ntmps49
  go_wp2
  go_ret
  exact ⟨rfl, rfl⟩

/-- The part of a slice from some place on, as Go slices it. -/
def cutA (a : Option Addr) (cap k : Nat) : Option Addr := match a with
  | some ad => if cap = k then some ad else some (ad.add (k * 2))
  | none => none

set_option maxRecDepth 100000 in
set_option maxHeartbeats 2000000 in
theorem split_any (w : World) (B db g : Nat) (caps : Array Value) (L : List (Int × Int)) (a : Option Addr) (cap : Nat) (lent : Bool) (ed : Int) (lt : Int × Int → Int × Int → Bool) (dom : Int × Int → Prop) (x : Int × Int) (k : Nat)
    (h : LAt w B db g caps L a cap lent ed) (hless : ∀ W, LAt W B db g caps L a cap true ed → Less W g caps lt dom) (hx : dom x) (hL : ∀ y ∈ L, dom y) (hc : Cut lt L x k) :
    Calls Try.prog 98 #[.pointer (some ⟨db, 0, none⟩), .agg #[.int .i64 x.1, .int .i64 x.2]] w fun e w' => ∃ A, e = .returned (.tuple #[.slice a k cap, .slice A (L.length - k) (cap - k)]) ∧ LAt w' B db g caps L a cap true ed ∧ (∀ N M, M db → Stab N M w w') ∧
      (∀ i y, (L.drop k)[i]? = some y → ∃ g off, A = some ⟨g, off, none⟩ ∧ (Value.slice a L.length cap).ownBlock = some g ∧ w'.cell? ⟨g, off + i * 2, none⟩ = some (.int .i64 y.1) ∧ w'.cell? ⟨g, off + i * 2 + 1, none⟩ = some (.int .i64 y.2)) := by
  obtain ⟨W0, hW0⟩ : ∃ W0, w.alloc (.cells #[.int .i64 x.1, .int .i64 x.2] 28) = W0 := ⟨_, rfl⟩
  have hb0 : Below w.heap.size w W0 := by rw [← hW0]; exact bel1 w _
  have hlend := lend_any W0 B db g caps L a cap lent ed (h.below hb0)
  have hdl := h.head.lt
  have hdb0 : db < W0.heap.size := Nat.lt_of_lt_of_le hdl hb0.size
  have hxs : IsCells W0 w.heap.size #[.int .i64 x.1, .int .i64 x.2] := by rw [← hW0]; exact isCells_new w _ _
  obtain ⟨W1, hW1⟩ : ∃ W1, W0.setCell ⟨db, 2, none⟩ (.bool true) = W1 := ⟨_, rfl⟩
  have h1 : LAt W1 B db g caps L a cap true ed := by rw [← hW1]; exact (h.below hb0).lent
  have hx1 : IsCells W1 w.heap.size #[.int .i64 x.1, .int .i64 x.2] := by rw [← hW1]; exact hxs.other (by show w.heap.size ≠ db; omega) _
  have t1 : ∀ N M, M db → Stab N M w W1 := fun N M hm => by rw [← hW1]; exact (Stab.below hb0).trans (Stab.set db hm)
  have hp := fun W (hb : Below W1.heap.size W1 W) => place_any W g a cap caps lt dom x L k (h1.below hb).items (h1.below hb).addr (by have := h.len; omega) (hless W (h1.below hb)) hx hL hc
  have hdl1 := h1.head.lt
  have hxl1 := hx1.lt
  have c0 : W1.cell? ⟨db, 0, none⟩ = some (.func (.func g) #[] caps) := h1.head.cell 0
  have cx0 : W1.cell? ⟨w.heap.size, 0, none⟩ = some (.int .i64 x.1) := hx1.cell 0
  have cx1 : W1.cell? ⟨w.heap.size, 1, none⟩ = some (.int .i64 x.2) := hx1.cell 1
  obtain ⟨hcc, hcm⟩ := capm_of' h.row
  unfold maxLen at hcm
  have hkl := hc.le
  have hcm' : (cap : Int) ≤ 9223372036854775807 := by omega
  have hl8 : (L.length : Int) ≤ 8192 := by have := h.len; omega
  have hk1 : (k : Int) ≤ (L.length : Int) := by omega
  have hk2 : (0 : Int) ≤ (k : Int) := by omega
  have hk3 : (k : Int) ≤ (cap : Int) := by omega
  have hk4 : k ≤ L.length := hkl
  have hk5 : k ≤ cap := by omega
  have HP : Hid (∀ W, Below W1.heap.size W1 W → LAt W B db g caps L a cap true ed ∧ (∀ N M, M db → Stab N M w W)) := fun W hb => ⟨h1.below hb, fun N M hm => (t1 N M hm).trans (Stab.below hb)⟩
  have HW0 : Hid (w.alloc (.cells #[.int .i64 x.1, .int .i64 x.2] 28) = W0) := hW0
  have HW1 : Hid (W0.setCell ⟨db, 2, none⟩ (.bool true) = W1) := hW1
  have hitem : Hid (∀ W, LAt W B db g caps L a cap true ed → Items W a L) := fun W hW => hW.items
  have hblk : Hid (∀ g', a = some ⟨g', 0, none⟩ → (Value.slice a L.length cap).ownBlock = some g') := fun g' e => by rw [e]; rfl
  have hdrop : Hid (∀ i y, (L.drop k)[i]? = some y → L[k + i]? = some y) := fun i y hy => by rw [List.getElem?_drop] at hy; exact hy
  have hnil : Hid (a = none → L.length = 0 ∧ cap = 0) := fun e => by
    subst e
    rcases h.row.2 with ⟨e, e2⟩ | ⟨g, cap', cur, e, _⟩
    · simp only [Value.slice.injEq] at e; omega
    · simp only [Value.slice.injEq] at e; simp at e
  have hsome : Hid (∀ ad, a = some ad → ∃ g', ad = ⟨g', 0, none⟩) := fun ad e => by
    subst e
    rcases h.row.2 with ⟨e, e2⟩ | ⟨g, cap', cur, e, _⟩
    · simp only [Value.slice.injEq] at e; simp at e
    · simp only [Value.slice.injEq, Option.some.injEq] at e; exact ⟨g, e.1⟩
  obtain ⟨th, hth⟩ : ∃ b, Hid (thereB lt L x k = b) := ⟨_, rfl⟩
  rw [hth.out] at hp
  clear h hless hc hb0 hW0 hW1 h1 hx1 t1 hxs hx hL
  go_enter Try.func98, Try.ntmps98
  go_wp2_with fail
  rw [HW0.out]
  refine hlend.mono ?_
  rintro e w' ⟨rfl, rfl⟩
  rw [HW1.out]
  clear hlend HW0 HW1
  go_wp2
  refine wp_region_bel (by kernel_rfl) (by kernel_rfl) ?_
  intro hne
  repeat go_big_quiet_step ((exact Calls.bel_of (hp _ (Bel.h _))))
  refine wpQuiet_nil ?_
  rintro _ ⟨u, rfl⟩
  have hP := HP.out u.w u.h
  have HL : Hid (LAt u.w B db g caps L a cap true ed) := hP.1
  have HT : Hid (∀ N M, M db → Stab N M w u.w) := hP.2
  clear hP HP hp
  cases a with
  | none =>
    obtain ⟨hL0, rfl⟩ := hnil.out rfl
    obtain rfl := List.length_eq_zero_iff.1 hL0
    obtain rfl : k = 0 := by simpa using hkl
    go_wp2
    go_quiet (fail)
    go_wp2
    go_ret2
    exact ⟨none, rfl, HL.out.below (bel_drewN' (Below.refl _ _) _), (fun N M hm => (HT.out N M hm).trans (Stab.below (bel_drewN' (Below.refl _ _) _))), fun i y hy => by simp at hy⟩
  | some ad =>
    obtain ⟨g', rfl⟩ := hsome.out ad rfl
    obtain ⟨A, hA, hAn⟩ : ∃ A, (if cap = k then some (⟨g', 0, none⟩ : Addr) else some ⟨g', k * 2, none⟩) = some A ∧ Hid (∀ i y, (L.drop k)[i]? = some y → A = ⟨g', k * 2, none⟩) := by
      by_cases e : cap = k
      · refine ⟨_, if_pos e, fun i y hy => ?_⟩
        have hlt := (List.getElem?_eq_some_iff.1 hy).1
        simp only [List.length_drop] at hlt
        omega
      · exact ⟨_, if_neg e, fun _ _ _ => rfl⟩
    go_wp2
    go_quiet (fail)
    go_wp2
    go_ret2
    have HLd := HL.out.below (bel_drewN' (Below.refl u.w.heap.size u.w) 1)
    refine ⟨some A, rfl, HL.out.below (bel_drewN' (Below.refl _ _) _), (fun N M hm => (HT.out N M hm).trans (Stab.below (bel_drewN' (Below.refl _ _) _))), fun i y hy => ?_⟩
    obtain ⟨g2, e1, e2, e3, e4⟩ := hitem.out _ HL.out (k + i) y (hdrop.out i y hy)
    cases e1
    refine ⟨g', k * 2, by rw [hAn.out i y hy], hblk.out g' rfl, ?_, ?_⟩
    · rw [← Nat.add_mul]; exact e3
    · rw [← Nat.add_mul]; exact e4

end Go.Proofs.Ytiggpbjgnododaa.T
