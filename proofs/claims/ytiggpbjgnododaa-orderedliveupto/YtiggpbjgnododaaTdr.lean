/- does: From and Back, as they are ranged over. -/
import Derived.Test.YtiggpbjgnododaaTdo
namespace Go.Proofs.Ytiggpbjgnododaa.T
open Go.RowKit Go.Shelf
set_option linter.unusedVariables false

theorem own_turn {X Y : World} {B e size n : Nat} {v : Value} {xs : List Value} {A : Nat → Prop} (h : X.ownsRow B e size v n xs) (hA : ∀ k, B ≤ k → ¬ A k) (t : Turn A X Y) : Y.ownsRow B e size v n xs :=
  own_of_block h (fun k hk => t.block k (own_block_lt h k hk).2 (hA k (own_block_lt h k hk).1))

theorem turn_trans {A : Nat → Prop} {X Y Z : World} (h : Turn A X Y) (k : Turn A Y Z) : Turn A X Z :=
  ⟨k.os.trans h.os, k.tape.trans h.tape, k.output.trans h.output, Nat.le_trans h.size k.size, fun b hb hn => (k.block b (Nat.lt_of_lt_of_le hb h.size) hn).trans (h.block b hb hn)⟩

/-- What stays while a list is ranged over. -/
def Kpt (W : World) (B db : Nat) (L : List (Int × Int)) (a : Option Addr) (cap : Nat) (ed : Int) (l0 : Bool) (X : World) : Prop :=
  Turn (fun b => b = db) W X ∧ ∃ lent', (l0 = true → lent' = true) ∧ LAt X B db 9 #[] L a cap lent' ed

theorem Kpt.below {W X Y : World} {B db : Nat} {L : List (Int × Int)} {a : Option Addr} {cap : Nat} {ed : Int} {l0 : Bool} (h : Kpt W B db L a cap ed l0 X) (hb : Below X.heap.size X Y) : Kpt W B db L a cap ed l0 Y := by
  obtain ⟨h1, l, h2, h3⟩ := h
  exact ⟨turn_trans h1 ((Turn.refl _ X).then hb (Nat.le_refl _)), l, h2, h3.below hb⟩

theorem ranged_kpt {W X : World} {B db : Nat} {L : List (Int × Int)} {a : Option Addr} {cap : Nat} {ed : Int} {l0 : Bool} {R : List (Int × Int)} {args : Array Value} (hB : B ≤ W.heap.size) (hd : db < W.heap.size) (h : Kpt W B db L a cap ed l0 X)
    (hc : ∀ lent, LAt X B db 9 #[] L a cap lent ed → Calls Try.prog 43 args X (RngP X B db L a cap ed lent R)) :
    Calls Try.prog 43 args X fun e Y => ∃ la lc, e = .returned (.slice la R.length lc) ∧ Y.ownsRow W.heap.size 28 2 (.slice la R.length lc) R.length (cellsOf R) ∧ Kpt W B db L a cap ed l0 Y := by
  obtain ⟨h1, l, h2, h3⟩ := h
  refine (hc l h3).mono ?_
  rintro e Y ⟨la, lc, rfl, q1, ⟨l', q2, q3⟩, q4⟩
  have hs := h1.size
  exact ⟨la, lc, rfl, own_base q1 (fun k hk => by have := (own_block_lt q1 k hk).1; omega), turn_trans h1 q4, l', fun e => q2 (h2 e), q3⟩

set_option maxRecDepth 100000 in
set_option maxHeartbeats 8000000 in
theorem does_range (w : World) (B db rb : Nat) (L : List (Int × Int)) (a : Option Addr) (cap : Nat) (lent : Bool) (ed : Int) (ra : Option Addr) (rc : Nat) (kind stop : Int) (x : Int × Int) (h : Both w B db rb L a cap lent ed ra rc) (hr : Rise kf L) (hB : B ≤ w.heap.size) (k0 : (kind == 0) = false) (k1 : (kind == 1) = false) (k2 : (kind == 2) = false) (k3 : (kind == 3) = false) :
    Calls Try.prog 10 #[.pointer (some ⟨db, 0, none⟩), .pointer (some ⟨rb, 0, none⟩), .agg #[.int .i64 kind, .int .i64 stop, .int .i64 x.1, .int .i64 x.2]] w fun e w' => e = .returned (.bool true) ∧ DoP w B db rb a L.length cap lent (.slice ra L.length rc) w' := by
  obtain ⟨W, hW⟩ : ∃ W, w.alloc (.cells #[.int .i64 kind, .int .i64 stop, .int .i64 x.1, .int .i64 x.2] 36) = W := ⟨_, rfl⟩
  have hb0 : Below w.heap.size w W := by rw [← hW]; exact bel1 w _
  have hx1 : IsCells W w.heap.size #[.int .i64 kind, .int .i64 stop, .int .i64 x.1, .int .i64 x.2] := by rw [← hW]; exact isCells_new w _ _
  have c0 : W.cell? ⟨w.heap.size, 0, none⟩ = some (.int .i64 kind) := hx1.cell 0
  have c1 : W.cell? ⟨w.heap.size, 1, none⟩ = some (.int .i64 stop) := hx1.cell 1
  have c2 : W.cell? ⟨w.heap.size, 2, none⟩ = some (.int .i64 x.1) := hx1.cell 2
  have c3 : W.cell? ⟨w.heap.size, 3, none⟩ = some (.int .i64 x.2) := hx1.cell 3
  have hw1 := hx1.lt
  have hws := hb0.size
  have h1 := h.below hb0
  have hdl := h.list.head.lt
  have hrl := h.ref.head.lt
  have c4 : W.cell? ⟨rb, 0, none⟩ = some (.slice ra L.length rc) := h1.ref.head.cell 0
  have hrank := rrank_any W B rb L ra rc x.1 h1.ref hr
  have hl8 := h.list.len
  have hrkl := rk_le kf L x.1
  obtain ⟨hcc, hcm⟩ := capm_of h.ref.row
  -- what is read stays
  have HS : ∀ X, Turn (fun b => b = db) W X → X.cell? ⟨w.heap.size, 1, none⟩ = some (.int .i64 stop) ∧ X.cell? ⟨w.heap.size, 2, none⟩ = some (.int .i64 x.1) ∧ X.cell? ⟨w.heap.size, 3, none⟩ = some (.int .i64 x.2) ∧ X.cell? ⟨rb, 0, none⟩ = some (.slice ra L.length rc) := fun X t => by
    have b1 := t.block w.heap.size hw1 (by show w.heap.size ≠ db; omega)
    have b2 := t.block rb h1.ref.head.lt (fun e => h.ne e.symm)
    exact ⟨(hx1.of_block b1).cell 1, (hx1.of_block b1).cell 2, (hx1.of_block b1).cell 3, (h1.ref.head.of_block b2).cell 0⟩
  have HR : ∀ X, Turn (fun b => b = db) W X → Sg X ra L := fun X t => sg_of_own (h1.ref.turned (db := db) (fun e => h.ne e.symm) h.rowd t).row rfl
  have HD : ∀ X, Kpt W B db L a cap ed lent X → DoP w B db rb a L.length cap lent (.slice ra L.length rc) X := fun X t => (by
    obtain ⟨t1, l, t2, t3⟩ := t
    exact (DoP.read h1 hr t2 t3 t1).below hb0)
  have k00 : Kpt W B db L a cap ed lent W.drew := ⟨(Turn.refl _ W).then (Below.refl _ _).drew (Nat.le_refl _), lent, id, h1.list.below (Below.refl _ _).drew⟩
  have g43a := ranged_kpt (R := someL (L.drop (rk kf L x.1)) stop) (args := #[.pointer (some ⟨db, 0, none⟩), .agg #[.int .i64 x.1, .int .i64 x.2], .int .i64 stop, .bool false]) (by omega) (by omega) k00 (fun l hl => ranged_from _ B db L a cap l ed x stop hl (by have := k00.1.size; omega) hr)
  have g43b : ∀ X, Kpt W B db L a cap ed lent X → Calls Try.prog 43 #[.pointer (some ⟨db, 0, none⟩), .agg #[.int .i64 x.1, .int .i64 x.2], .int .i64 stop, .bool true] X fun e Y => ∃ la lc, e = .returned (.slice la (someL (L.take (rk kf L x.1)).reverse stop).length lc) ∧ Y.ownsRow W.heap.size 28 2 (.slice la (someL (L.take (rk kf L x.1)).reverse stop).length lc) (someL (L.take (rk kf L x.1)).reverse stop).length (cellsOf (someL (L.take (rk kf L x.1)).reverse stop)) ∧ Kpt W B db L a cap ed lent Y :=
    fun X kX => ranged_kpt (by omega) (by omega) kX (fun l hl => ranged_back _ B db L a cap l ed x stop hl (by have := kX.1.size; omega) hr)
  have hRl : (someL (L.drop (rk kf L x.1)) stop).length ≤ 8192 ∧ (someL (L.take (rk kf L x.1)).reverse stop).length ≤ 8192 := by
    constructor
    · unfold someL; split <;> simp <;> omega
    · unfold someL; split <;> simp <;> omega
  -- the slice that begins there
  obtain ⟨A, hAn, hA, hAS⟩ : ∃ A, (ra = none → A = none) ∧ (∀ g, ra = some ⟨g, 0, none⟩ → (if rc = rk kf L x.1 then some (⟨g, 0, none⟩ : Addr) else some ⟨g, rk kf L x.1 * 2, none⟩) = A) ∧ (∀ X, Sg X ra L → Sg X A (L.drop (rk kf L x.1))) := by
    cases ra with
    | none =>
      refine ⟨none, fun _ => rfl, fun g e => (by cases e), fun X hX i y hy => ?_⟩
      rw [List.getElem?_drop] at hy
      obtain ⟨g, off, e, _⟩ := hX _ _ hy
      cases e
    | some ad =>
      by_cases e : rc = rk kf L x.1
      · refine ⟨some ad, fun e => (by cases e), fun g eg => (by cases eg; exact if_pos e), fun X hX i y hy => ?_⟩
        have hlt := (List.getElem?_eq_some_iff.1 hy).1
        simp only [List.length_drop] at hlt
        omega
      · refine ⟨some ⟨ad.block, rk kf L x.1 * 2, none⟩, fun e => (by cases e), fun g eg => (by cases eg; exact if_neg e), fun X hX i y hy => ?_⟩
        rw [List.getElem?_drop] at hy
        obtain ⟨g, off, eg, _, s1, s2, s3⟩ := hX _ _ hy
        have hoff : off = 0 := by
          rcases h.ref.row.2 with ⟨e, _⟩ | ⟨g', cap', cur, e, _⟩
          · simp at e
          · simp only [Value.slice.injEq, Option.some.injEq] at e
            rw [e.1] at eg
            simp at eg
            omega
        cases eg
        subst hoff
        exact ⟨g, rk kf L x.1 * 2, rfl, trivial, s1, by rw [← Nat.add_mul]; simpa using s2, by rw [← Nat.add_mul]; simpa using s3⟩
  have hnil : Hid (ra = none → L.length = 0 ∧ rc = 0 ∧ A = none) := fun e => by
    refine ⟨?_, ?_, hAn e⟩
    all_goals
      subst e
      rcases h.ref.row.2 with ⟨e, e2⟩ | ⟨g, cap', cur, e, _⟩
      · simp only [Value.slice.injEq] at e; omega
      · simp only [Value.slice.injEq] at e; simp at e
  have hsome : Hid (∀ ad, ra = some ad → ∃ g', ad = ⟨g', 0, none⟩) := fun ad e => by
    subst e
    rcases h.ref.row.2 with ⟨e, e2⟩ | ⟨g, cap', cur, e, _⟩
    · simp only [Value.slice.injEq] at e; simp at e
    · simp only [Value.slice.injEq, Option.some.injEq] at e; exact ⟨g, e.1⟩
  have htake : ∀ X, Sg X ra L → Sg X ra (L.take (rk kf L x.1)) := fun X hX i y hy => by
    rw [List.getElem?_take] at hy
    split at hy
    · exact hX i y hy
    · cases hy
  obtain ⟨D, hD⟩ : ∃ D, L.drop (rk kf L x.1) = D := ⟨_, rfl⟩
  obtain ⟨E, hE⟩ : ∃ E, L.take (rk kf L x.1) = E := ⟨_, rfl⟩
  have hDl : D.length = L.length - rk kf L x.1 := by rw [← hD]; simp
  have hEl : E.length = rk kf L x.1 := by rw [← hE]; simp; omega
  rw [hD] at g43a hRl hAS
  rw [hE] at g43b hRl htake
  have h43a : Calls Try.prog 43 #[.pointer (some ⟨db, 0, none⟩), .agg #[.int .i64 x.1, .int .i64 x.2], .int .i64 stop, .bool false] W.drew fun e u => ∃ la lc, e = .returned (.slice la (someL D stop).length lc) ∧ u.cell? ⟨w.heap.size, 1, none⟩ = some (.int .i64 stop) ∧ u.cell? ⟨w.heap.size, 2, none⟩ = some (.int .i64 x.1) ∧ u.cell? ⟨w.heap.size, 3, none⟩ = some (.int .i64 x.2) ∧ u.cell? ⟨rb, 0, none⟩ = some (.slice ra L.length rc) ∧ Hid (u.ownsRow W.heap.size 28 2 (.slice la (someL D stop).length lc) (someL D stop).length (cellsOf (someL D stop)) ∧ Kpt W B db L a cap ed lent u) := by
    refine g43a.mono ?_
    rintro e u ⟨la, lc, rfl, q1, q2⟩
    obtain ⟨s1, s2, s3, s4⟩ := HS u q2.1
    exact ⟨la, lc, rfl, s1, s2, s3, s4, q1, q2⟩
  have h44a : ∀ u la lc, Hid (u.ownsRow W.heap.size 28 2 (.slice la (someL D stop).length lc) (someL D stop).length (cellsOf (someL D stop)) ∧ Kpt W B db L a cap ed lent u) → Calls Try.prog 44 #[.slice A (L.length - rk kf L x.1) (rc - rk kf L x.1), .int .i64 stop] u fun e v => e = .returned (.slice A (someL D stop).length (rc - rk kf L x.1)) ∧ v = u := by
    intro u la lc hu
    refine (some_any u A (rc - rk kf L x.1) D (L.length - rk kf L x.1) hDl (by omega) (by omega) (by omega) stop (hAS u (HR u hu.out.2.1))).mono ?_
    rintro e v ⟨he, rfl, -⟩
    exact ⟨he, rfl⟩
  have h15a : ∀ u la lc, Hid (u.ownsRow W.heap.size 28 2 (.slice la (someL D stop).length lc) (someL D stop).length (cellsOf (someL D stop)) ∧ Kpt W B db L a cap ed lent u) → Calls Try.prog 15 #[.slice la (someL D stop).length lc, .slice A (someL D stop).length (rc - rk kf L x.1)] u fun e v => e = .returned (.bool true) ∧ v.cell? ⟨w.heap.size, 1, none⟩ = some (.int .i64 stop) ∧ v.cell? ⟨w.heap.size, 2, none⟩ = some (.int .i64 x.1) ∧ v.cell? ⟨w.heap.size, 3, none⟩ = some (.int .i64 x.2) ∧ v.cell? ⟨rb, 0, none⟩ = some (.slice ra L.length rc) ∧ Hid (Kpt W B db L a cap ed lent v) := by
    intro u la lc hu
    have hsA : Sg u A (someL D stop) := by
      have := hAS u (HR u hu.out.2.1)
      unfold someL
      split
      · intro i y hy
        rw [List.getElem?_take] at hy
        split at hy
        · exact this i y hy
        · cases hy
      · exact this
    refine (items_same u la A lc (rc - rk kf L x.1) (someL D stop) _ rfl (by omega) (sg_of_own hu.out.1 rfl) hsA).mono ?_
    rintro e v ⟨he, m, rfl⟩
    have kv := hu.out.2.below (bel_drewN' (Below.refl u.heap.size u) m)
    obtain ⟨s1, s2, s3, s4⟩ := HS _ kv.1
    exact ⟨he, s1, s2, s3, s4, kv⟩
  have h43b : ∀ u, Hid (Kpt W B db L a cap ed lent u) → Calls Try.prog 43 #[.pointer (some ⟨db, 0, none⟩), .agg #[.int .i64 x.1, .int .i64 x.2], .int .i64 stop, .bool true] u fun e v => ∃ la lc, e = .returned (.slice la (someL E.reverse stop).length lc) ∧ v.cell? ⟨w.heap.size, 1, none⟩ = some (.int .i64 stop) ∧ v.cell? ⟨w.heap.size, 2, none⟩ = some (.int .i64 x.1) ∧ v.cell? ⟨w.heap.size, 3, none⟩ = some (.int .i64 x.2) ∧ v.cell? ⟨rb, 0, none⟩ = some (.slice ra L.length rc) ∧ Hid (v.ownsRow W.heap.size 28 2 (.slice la (someL E.reverse stop).length lc) (someL E.reverse stop).length (cellsOf (someL E.reverse stop)) ∧ Kpt W B db L a cap ed lent v) := by
    intro u hu
    refine (g43b u hu.out).mono ?_
    rintro e v ⟨la, lc, rfl, q1, q2⟩
    obtain ⟨s1, s2, s3, s4⟩ := HS v q2.1
    exact ⟨la, lc, rfl, s1, s2, s3, s4, q1, q2⟩
  have h45 : ∀ u la lc, Hid (u.ownsRow W.heap.size 28 2 (.slice la (someL E.reverse stop).length lc) (someL E.reverse stop).length (cellsOf (someL E.reverse stop)) ∧ Kpt W B db L a cap ed lent u) → Calls Try.prog 45 #[.slice ra (rk kf L x.1) rc] u fun e v => ∃ ta tc, e = .returned (.slice ta (rk kf L x.1) tc) ∧ v.cell? ⟨w.heap.size, 1, none⟩ = some (.int .i64 stop) ∧ v.cell? ⟨w.heap.size, 2, none⟩ = some (.int .i64 x.1) ∧ v.cell? ⟨w.heap.size, 3, none⟩ = some (.int .i64 x.2) ∧ v.cell? ⟨rb, 0, none⟩ = some (.slice ra L.length rc) ∧
      Hid (v.ownsRow W.heap.size 28 2 (.slice la (someL E.reverse stop).length lc) (someL E.reverse stop).length (cellsOf (someL E.reverse stop)) ∧ Kpt W B db L a cap ed lent v ∧ v.ownsRow W.heap.size 28 2 (.slice ta (rk kf L x.1) tc) (rk kf L x.1) (cellsOf E.reverse)) := by
    intro u la lc hu
    refine (turned_any u ra rc E (rk kf L x.1) hEl (by omega) (htake u (HR u hu.out.2.1))).mono ?_
    rintro e v ⟨ta, tc, rfl, q1, q2⟩
    have kv := hu.out.2.below q2
    obtain ⟨s1, s2, s3, s4⟩ := HS _ kv.1
    have hs := hu.out.2.1.size
    exact ⟨ta, tc, rfl, s1, s2, s3, s4, own_of_block hu.out.1 (fun k hk => q2.block k (own_block_lt hu.out.1 k hk).2), kv, own_base q1 (fun k hk => by have := (own_block_lt q1 k hk).1; omega)⟩
  have h44b : ∀ u la lc ta tc, Hid (u.ownsRow W.heap.size 28 2 (.slice la (someL E.reverse stop).length lc) (someL E.reverse stop).length (cellsOf (someL E.reverse stop)) ∧ Kpt W B db L a cap ed lent u ∧ u.ownsRow W.heap.size 28 2 (.slice ta (rk kf L x.1) tc) (rk kf L x.1) (cellsOf E.reverse)) → Calls Try.prog 44 #[.slice ta (rk kf L x.1) tc, .int .i64 stop] u fun e v => e = .returned (.slice ta (someL E.reverse stop).length tc) ∧ v = u := by
    intro u la lc ta tc hu
    obtain ⟨z1, z2⟩ := capm_of hu.out.2.2
    refine (some_any u ta tc E.reverse (rk kf L x.1) (by simp [hEl]) (by omega) z1 z2 stop (sg_of_own hu.out.2.2 (by simp [hEl]))).mono ?_
    rintro e v ⟨he, rfl, -⟩
    exact ⟨he, rfl⟩
  have h15b : ∀ u la lc ta tc, Hid (u.ownsRow W.heap.size 28 2 (.slice la (someL E.reverse stop).length lc) (someL E.reverse stop).length (cellsOf (someL E.reverse stop)) ∧ Kpt W B db L a cap ed lent u ∧ u.ownsRow W.heap.size 28 2 (.slice ta (rk kf L x.1) tc) (rk kf L x.1) (cellsOf E.reverse)) → Calls Try.prog 15 #[.slice la (someL E.reverse stop).length lc, .slice ta (someL E.reverse stop).length tc] u fun e v => e = .returned (.bool true) ∧ v.cell? ⟨w.heap.size, 1, none⟩ = some (.int .i64 stop) ∧ v.cell? ⟨w.heap.size, 2, none⟩ = some (.int .i64 x.1) ∧ v.cell? ⟨w.heap.size, 3, none⟩ = some (.int .i64 x.2) ∧ v.cell? ⟨rb, 0, none⟩ = some (.slice ra L.length rc) ∧ Hid (DoP w B db rb a L.length cap lent (.slice ra L.length rc) v) := by
    intro u la lc ta tc hu
    have hsT : Sg u ta (someL E.reverse stop) := by
      have := sg_of_own hu.out.2.2 (by simp [hEl])
      unfold someL
      split
      · intro i y hy
        rw [List.getElem?_take] at hy
        split at hy
        · exact this i y hy
        · cases hy
      · exact this
    refine (items_same u la ta lc tc (someL E.reverse stop) _ rfl (by omega) (sg_of_own hu.out.1 rfl) hsT).mono ?_
    rintro e v ⟨he, m, rfl⟩
    have kv := hu.out.2.1.below (bel_drewN' (Below.refl u.heap.size u) m)
    obtain ⟨s1, s2, s3, s4⟩ := HS _ kv.1
    exact ⟨he, s1, s2, s3, s4, HD _ kv⟩
  have HW : Hid (w.alloc (.cells #[.int .i64 kind, .int .i64 stop, .int .i64 x.1, .int .i64 x.2] 36) = W) := hW
  unfold maxLen at hcm
  clear h hr hW hx1 h1 HS HR HD k00 g43a g43b hAS htake hAn hb0
  obtain ⟨R1, hR1⟩ : ∃ R1, someL D stop = R1 := ⟨_, rfl⟩
  obtain ⟨R2, hR2⟩ : ∃ R2, someL E.reverse stop = R2 := ⟨_, rfl⟩
  obtain ⟨E2, hE2⟩ : ∃ E2, E.reverse = E2 := ⟨_, rfl⟩
  rw [hR1] at h43a h44a h15a hRl
  rw [hR2] at h43b h45 h44b h15b hRl
  rw [hE2] at h45 h44b h15b
  clear hR1 hR2 hE2 hDl hEl hD hE
  obtain ⟨n1, hn1⟩ : ∃ n1, R1.length = n1 := ⟨_, rfl⟩
  obtain ⟨n2, hn2⟩ : ∃ n2, R2.length = n2 := ⟨_, rfl⟩
  rw [hn1] at h43a h44a h15a hRl
  rw [hn2] at h43b h45 h44b h15b hRl
  obtain ⟨hRl1, hRl2⟩ := hRl
  generalize rk kf L x.1 = r at *
  have hr1 : (r : Int) ≤ (L.length : Int) := by omega
  have hr2 : (0 : Int) ≤ (r : Int) := by omega
  have hr3 : (r : Int) ≤ (rc : Int) := by omega
  have hr4 : (rc : Int) ≤ 9223372036854775807 := by omega
  have hr5 : (L.length : Int) ≤ 8192 := by omega
  cases ra with
  | none =>
    obtain ⟨hL0, rfl, rfl⟩ := hnil.out rfl
    clear hnil hsome hA
    rw [hL0] at *
    obtain rfl : r = 0 := by omega
    simp only [Nat.sub_self] at h44a h15a
    go_enter Try.func10, Try.ntmps10
    go_wp2_with fail
    rw [HW.out]
    refine hrank.mono ?_
    rintro e W2 ⟨rfl, rfl⟩
    clear hrank HW
    go_wp2
    go_region_held3 (fun X => X.cell? ⟨w.heap.size, 1, none⟩ = some (.int .i64 stop) ∧ X.cell? ⟨w.heap.size, 2, none⟩ = some (.int .i64 x.1) ∧ X.cell? ⟨w.heap.size, 3, none⟩ = some (.int .i64 x.2) ∧ X.cell? ⟨rb, 0, none⟩ = some (.slice none 0 0)) (go_keep)
      (first
        | (go_at_call 43; refine h43a.mono ?_; rintro e u1 ⟨la, lc, rfl, s1, s2, s3, s4, q1⟩; clear h43a)
        | (go_at_call 44; refine (h44a _ _ _ q1).mono ?_; rintro e u2 ⟨rfl, rfl⟩; clear h44a)
        | (go_at_call 15; refine (h15a _ _ _ q1).mono ?_; rintro e u3 ⟨rfl, s5, s6, s7, s8, q3⟩; clear h15a q1)
        | (go_at_call 43; refine (h43b _ q3).mono ?_; rintro e u4 ⟨la4, lc4, rfl, s9, s10, s11, s12, q4⟩; clear h43b q3)
        | (go_at_call 45; refine (h45 _ _ _ q4).mono ?_; rintro e u5 ⟨ta, tc, rfl, s13, s14, s15, s16, q5⟩; clear h45 q4)
        | (go_at_call 44; refine (h44b _ _ _ _ _ q5).mono ?_; rintro e u6 ⟨rfl, rfl⟩; clear h44b)
        | (go_at_call 15; refine (h15b _ _ _ _ _ q5).mono ?_; rintro e u7 ⟨rfl, s17, s18, s19, s20, q7⟩; clear h15b q5))
    go_wp2
    go_ret
    exact ⟨rfl, q7.out⟩
  | some ad =>
    obtain ⟨g, rfl⟩ := hsome.out ad rfl
    have hA' := hA g rfl
    clear hnil hsome hA
    generalize L.length = n at *
    have hr6 : r ≤ n := by omega
    have hr7 : r ≤ rc := by omega
    go_enter Try.func10, Try.ntmps10
    go_wp2_with fail
    rw [HW.out]
    refine hrank.mono ?_
    rintro e W2 ⟨rfl, rfl⟩
    clear hrank HW
    go_wp2
    go_region_held3 (fun X => X.cell? ⟨w.heap.size, 1, none⟩ = some (.int .i64 stop) ∧ X.cell? ⟨w.heap.size, 2, none⟩ = some (.int .i64 x.1) ∧ X.cell? ⟨w.heap.size, 3, none⟩ = some (.int .i64 x.2) ∧ X.cell? ⟨rb, 0, none⟩ = some (.slice (some ⟨g, 0, none⟩) n rc)) (go_keep)
      (first
        | (go_at_call 43; refine h43a.mono ?_; rintro e u1 ⟨la, lc, rfl, s1, s2, s3, s4, q1⟩; clear h43a)
        | (go_at_call 44; refine (h44a _ _ _ q1).mono ?_; rintro e u2 ⟨rfl, rfl⟩; clear h44a)
        | (go_at_call 15; refine (h15a _ _ _ q1).mono ?_; rintro e u3 ⟨rfl, s5, s6, s7, s8, q3⟩; clear h15a q1)
        | (go_at_call 43; refine (h43b _ q3).mono ?_; rintro e u4 ⟨la4, lc4, rfl, s9, s10, s11, s12, q4⟩; clear h43b q3)
        | (go_at_call 45; refine (h45 _ _ _ q4).mono ?_; rintro e u5 ⟨ta, tc, rfl, s13, s14, s15, s16, q5⟩; clear h45 q4)
        | (go_at_call 44; refine (h44b _ _ _ _ _ q5).mono ?_; rintro e u6 ⟨rfl, rfl⟩; clear h44b)
        | (go_at_call 15; refine (h15b _ _ _ _ _ q5).mono ?_; rintro e u7 ⟨rfl, s17, s18, s19, s20, q7⟩; clear h15b q5))
    go_wp2
    go_ret
    exact ⟨rfl, q7.out⟩

end Go.Proofs.Ytiggpbjgnododaa.T
