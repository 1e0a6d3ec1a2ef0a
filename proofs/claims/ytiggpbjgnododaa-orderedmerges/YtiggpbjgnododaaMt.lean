/- mergedTwo at items: two lists in one. -/
import Derived.Test.YtiggpbjgnododaaMr
namespace Go.Proofs.Ytiggpbjgnododaa.T
open Go.RowKit Go.Shelf
set_option linter.unusedVariables false
attribute [local go_sem] Bel.cell

theorem cells_src {w : World} {a : Option Addr} {L : List (Int × Int)} (h : Sg w a L) {X : World} (hb : Below w.heap.size w X) : ∀ j u, (cellsOf L)[j]? = some u → ∃ ad, a = some ad ∧ X.cell? (ad.add j) = some u := by
  intro j u hu
  have hlt := (List.getElem?_eq_some_iff.1 hu).1
  rw [cellsOf_length] at hlt
  have hi : j / 2 < L.length := by omega
  have hy := List.getElem?_eq_getElem hi
  obtain ⟨h1, h2⟩ := cellsOf_at L (j / 2) _ hy
  obtain ⟨g, off, e, _, h3, h4, h5⟩ := h (j / 2) _ hy
  refine ⟨_, e, ?_⟩
  rw [addr_add]
  by_cases hj : j % 2 = 0
  · have e1 : j / 2 * 2 = j := by omega
    rw [e1] at h1 h4
    rw [h1] at hu
    cases hu
    rw [hb.cell (p := ⟨g, _, none⟩) h3]
    exact h4
  · have e1 : j / 2 * 2 + 1 = j := by omega
    rw [e1] at h2
    rw [Nat.add_assoc, e1] at h5
    rw [h2] at hu
    cases hu
    rw [hb.cell (p := ⟨g, _, none⟩) h3]
    exact h5

def slen : Value → Nat
  | .slice _ n _ => n
  | _ => 0

theorem isCells_drew {w : World} {b : Nat} {cs : Array Value} (h : IsCells w b cs) : IsCells w.drew b cs := h

theorem one2 (x : Int × Int) : ∀ u ∈ ([.int .i64 x.1, .int .i64 x.2] : List Value), u.oneCell' = true := by intro u hu; simp at hu; rcases hu with rfl | rfl <;> rfl

set_option maxRecDepth 100000 in
set_option maxHeartbeats 2000000 in
theorem two_any (w : World) (a b : Option Addr) (n m ca cb : Nat) (A B : List (Int × Int)) (hA : Sl w a n ca A) (hB : Sl w b m cb B) (hnm : n + m ≤ 8192) :
    Calls Try.prog 84 #[.func (.func 9) #[] #[], .slice a n ca, .slice b m cb] w fun e w' => ∃ ra rc, e = .returned (.slice ra (n + m) rc) ∧ Mk w w' (.slice ra (n + m) rc) (n + m) (cellsOf (mg A B)) := by
  have hnm' : (n : Int) + (m : Int) ≤ 8192 := by omega
  have hn0 : (0 : Int) ≤ (n : Int) := by omega
  have hm0 : (0 : Int) ≤ (m : Int) := by omega
  have HA : Hid (Sl w a n ca A) := hA
  have HB : Hid (Sl w b m cb B) := hB
  have eg : ∀ args w, (callFunc 9 args).run Try.prog w = .ok (.enter 9 args) w := enters_of Try.func9 (by kernel_rfl) rfl
  clear hA hB
  obtain ⟨W1, hmk, hM1⟩ : ∃ W1, (Instr.makeSlice 31 (.int .i64 0) (.int .i64 ((n : Int) + (m : Int)))).run Try.prog w = .ok (.slice (some ⟨w.heap.size, 0, none⟩) 0 (n + m)) W1 ∧ Hid (Mk w W1 (.slice (some ⟨w.heap.size, 0, none⟩) 0 (n + m)) 0 []) := by
    obtain ⟨i, hi0, hz0, hz1, hz2⟩ := infoE.parts
    obtain ⟨w', hr, h2, h3⟩ := run_make_own (P := Try.prog) w w.heap.size 31 28 i _ 2 Try.underlying31 hi0 hz0 hz1 .i64 .i64 (n + m) (by rw [hz2]; omega) (by unfold maxLen; omega) (Nat.le_refl _)
    refine ⟨w', by simpa using hr, h2, ⟨h3.os, h3.tape, h3.output, h3.size, fun k hk => h3.block k hk (by simp)⟩⟩
  go_enter Try.func84, Try.ntmps84
  go_wp2
  clear hmk
  go_loopw [1, 2, 7] (fun va vb vo wr => ∃ (A' B' O : List (Int × Int)) (a' b' oa : Option Addr) (n' m' ca' cb' k oc : Nat), va = .slice a' n' ca' ∧ vb = .slice b' m' cb' ∧ vo = .slice oa k oc ∧ k + n' + m' = n + m ∧
    Hid (Sl w a' n' ca' A') ∧ Hid (Sl w b' m' cb' B') ∧ Hid (Mk w wr (.slice oa k oc) k (cellsOf O)) ∧ Hid (O ++ mg A' B' = mg A B)) (fun va vb _ _ => slen va + slen vb)
  case atStart => exact ⟨A, B, [], a, b, _, n, m, ca, cb, 0, n + m, rfl, rfl, rfl, by omega, HA, HB, hM1, rfl⟩
  case round =>
    obtain ⟨A', B', O, a', b', oa, n', m', ca', cb', k, oc, rfl, rfl, rfl, hk, hA, hB, hM, hO⟩ := hrel
    have hk' : (k : Int) + (n' : Int) + (m' : Int) ≤ 8192 := by omega
    by_cases hn1 : n' = 0
    · have HE : Hid (O ++ A' ++ B' = mg A B) := by
        show _ = _
        have e : A' = [] := List.length_eq_zero_iff.1 (hA.out.len.trans hn1)
        rw [← hO.out, e, mg_nil_left]
        simp
      have hnw : ¬ (0 : Int) < (n' : Int) := by omega
      have la : Hid ((cellsOf A').length = n' * 2) := by show _ = _; rw [cellsOf_length, hA.out.len]
      have lb : Hid ((cellsOf B').length = m' * 2) := by show _ = _; rw [cellsOf_length, hB.out.len]
      go_wp2_with (first
        | (at_builtin; refine wpList_mk rfl _ _ rfl _ k _ hM.out rfl a' n' ca' (cellsOf A') rfl la.out (cells_src hA.out.sg hM.out.bel) (cellsOf_one _) (by omega) ?_; intro v1 w1 m1; have M1 : Hid (Mk w w1 v1 (k + n') (cellsOf O ++ cellsOf A')) := m1; clear m1 hM)
        | (at_builtin; refine wpList_mk rfl _ _ rfl _ (k + n') _ M1.out rfl b' m' cb' (cellsOf B') rfl lb.out (cells_src hB.out.sg M1.out.bel) (cellsOf_one _) (by omega) ?_; intro v2 w2 m2; have M2 : Hid (Mk w w2 v2 (k + n' + m') (cellsOf O ++ cellsOf A' ++ cellsOf B')) := m2; clear m2 M1))
      obtain ⟨ra, rc, rfl⟩ := own_slice M2.out.own
      go_ret
      refine ⟨ra, rc, by rw [hk]; rfl, ?_⟩
      have := M2.out
      rw [← cellsOf_append, ← cellsOf_append, HE.out, hk] at this
      exact this
    · by_cases hm1 : m' = 0
      · subst hm1
        have HE : Hid (O ++ A' ++ B' = mg A B) := by
          show _ = _
          have e : B' = [] := List.length_eq_zero_iff.1 (hB.out.len)
          rw [← hO.out, e, mg_nil_right]
          simp
        have hnw : (0 : Int) < (n' : Int) := by omega
        have la : Hid ((cellsOf A').length = n' * 2) := by show _ = _; rw [cellsOf_length, hA.out.len]
        have lb : Hid ((cellsOf B').length = 0 * 2) := by show _ = _; rw [cellsOf_length, hB.out.len]
        go_wp2_with (first
          | (at_builtin; refine wpList_mk rfl _ _ rfl _ k _ hM.out rfl a' n' ca' (cellsOf A') rfl la.out (cells_src hA.out.sg hM.out.bel) (cellsOf_one _) (by omega) ?_; intro v1 w1 m1; have M1 : Hid (Mk w w1 v1 (k + n') (cellsOf O ++ cellsOf A')) := m1; clear m1 hM)
          | (at_builtin; refine wpList_mk rfl _ _ rfl _ (k + n') _ M1.out rfl b' 0 cb' (cellsOf B') rfl lb.out (cells_src hB.out.sg M1.out.bel) (cellsOf_one _) (by omega) ?_; intro v2 w2 m2; have M2 : Hid (Mk w w2 v2 (k + n' + 0) (cellsOf O ++ cellsOf A' ++ cellsOf B')) := m2; clear m2 M1))
        obtain ⟨ra, rc, rfl⟩ := own_slice M2.out.own
        go_ret
        refine ⟨ra, rc, by rw [hk]; rfl, ?_⟩
        have := M2.out
        rw [← cellsOf_append, ← cellsOf_append, HE.out, hk] at this
        exact this
      · obtain ⟨x, A1, rfl⟩ : ∃ x A1, A' = x :: A1 := by
          cases A' with
          | nil => exact absurd hA.out.len.symm hn1
          | cons x A1 => exact ⟨x, A1, rfl⟩
        obtain ⟨y, B1, rfl⟩ : ∃ y B1, B' = y :: B1 := by
          cases B' with
          | nil => exact absurd hB.out.len.symm hm1
          | cons y B1 => exact ⟨y, B1, rfl⟩
        obtain ⟨g, off, rfl, hg0, hg1, hg2⟩ := (hA.out.below hM.out.bel).head
        obtain ⟨h, hoff, rfl, hh0, hh1, hh2⟩ := (hB.out.below hM.out.bel).head
        have hn2 : (0 : Int) < (n' : Int) := by omega
        have hm2 : (0 : Int) < (m' : Int) := by omega
        have hn3 : (1 : Int) ≤ (n' : Int) := by omega
        have hm3 : (1 : Int) ≤ (m' : Int) := by omega
        have hca : (n' : Int) ≤ (ca' : Int) := by have := hA.out.le; omega
        have hcb : (m' : Int) ≤ (cb' : Int) := by have := hB.out.le; omega
        have hca2 : (ca' : Int) ≤ 9223372036854775807 := by have := hA.out.capm; unfold maxLen at this; omega
        have hcb2 : (cb' : Int) ≤ 9223372036854775807 := by have := hB.out.capm; unfold maxLen at this; omega
        have hc := fun W => byKey_any W y x
        obtain ⟨t, ht⟩ : ∃ b, Hid (ltK kf y x = b) := ⟨_, rfl⟩
        rw [ht.out] at hc
        clear hn1 hm1
        go_wp2
        refine wp_region_bel (by kernel_rfl) (by kernel_rfl) ?_
        intro hne
        repeat go_big_quiet_step ((exact Calls.bel_of (hc _)))
        refine wpQuiet_nil ?_
        rintro _ ⟨u, rfl⟩
        have HM : Hid (Mk w u.w (.slice oa k oc) k (cellsOf O)) := ⟨own_of_block hM.out.own (fun j hj => u.h.block j (own_block_lt hM.out.own j hj).2), hM.out.bel.trans (u.h.mono hM.out.bel.size)⟩
        clear hM hc
        cases t with
        | true =>
          have hyx : y.1 < x.1 := by have := ht.out; unfold ltK kf at this; exact of_decide_eq_true this
          have HO : Hid (O ++ [y] ++ mg (x :: A1) B1 = mg A B) := by
            show _ = _
            rw [← hO.out, mg_gt _ _ (by omega)]
            simp
          obtain ⟨T, hT, hB1⟩ := hB.out.tail
          have HB1 : Hid (Sl w (some T) (m' - 1) (cb' - 1) B1) := hB1
          have q1 : u.w.cell? ⟨h, hoff, none⟩ = some (.int .i64 y.1) := (u.h.cell (p := ⟨h, hoff, none⟩) hh0).trans hh1
          have q2 : u.w.cell? ⟨h, hoff + 1, none⟩ = some (.int .i64 y.2) := (u.h.cell (p := ⟨h, hoff + 1, none⟩) hh0).trans hh2
          have hhw : Hid (h < w.heap.size ∧ w.cell? ⟨h, hoff, none⟩ = some (.int .i64 y.1) ∧ w.cell? ⟨h, hoff + 1, none⟩ = some (.int .i64 y.2)) := by
            obtain ⟨h', hoff', e, i1, i2, i3⟩ := hB.out.head
            cases e
            exact ⟨i1, i2, i3⟩
          have hne1 := World.new_ne u.w ⟨h, hoff, none⟩ q1
          clear hB1 hO hyx hg1 hg2 hh1 hh2 hne
          go_wp2
          go_region_held3 (fun X => X.cell? ⟨h, hoff, none⟩ = some (.int .i64 y.1) ∧ X.cell? ⟨h, hoff + 1, none⟩ = some (.int .i64 y.2)) (go_keep)
            (first
              | (refine step_mk rfl _ _ rfl _ k _ (HM.out.alloc _).drew rfl _ 1 1 [.int .i64 y.1, .int .i64 y.2] rfl rfl (two_at (isCells_drew (isCells_new u.w _ _))) (one2 y) (by omega) ?_; intro v1 w1 m1 q3; have s1 : w1.cell? ⟨h, hoff, none⟩ = some (.int .i64 y.1) := (m1.bel.cell (p := ⟨h, hoff, none⟩) hhw.out.1).trans hhw.out.2.1; have s2 : w1.cell? ⟨h, hoff + 1, none⟩ = some (.int .i64 y.2) := (m1.bel.cell (p := ⟨h, hoff + 1, none⟩) hhw.out.1).trans hhw.out.2.2; have M1 : Hid (Mk w w1 v1 (k + 1) (cellsOf O ++ [.int .i64 y.1, .int .i64 y.2])) := m1; clear m1 q3 HM))
          obtain ⟨oa', oc', rfl⟩ := own_slice M1.out.own
          go_wp2
          go_roundw
          case rel => exact ⟨x :: A1, B1, O ++ [y], _, _, oa', n', m' - 1, ca', cb' - 1, k + 1, oc', rfl, rfl, rfl, by omega, hA, HB1, (by have := M1.out; rw [cellsOf_append]; exact this), HO⟩
          case measure => simp [slen]; omega
        | false =>
          have hyx : x.1 ≤ y.1 := by have h3 := ht.out; unfold ltK kf at h3; have := of_decide_eq_false h3; omega
          have HO : Hid (O ++ [x] ++ mg A1 (y :: B1) = mg A B) := by
            show _ = _
            rw [← hO.out, mg_le _ _ hyx]
            simp
          obtain ⟨T, hT, hA1⟩ := hA.out.tail
          have HA1 : Hid (Sl w (some T) (n' - 1) (ca' - 1) A1) := hA1
          have q1 : u.w.cell? ⟨g, off, none⟩ = some (.int .i64 x.1) := (u.h.cell (p := ⟨g, off, none⟩) hg0).trans hg1
          have q2 : u.w.cell? ⟨g, off + 1, none⟩ = some (.int .i64 x.2) := (u.h.cell (p := ⟨g, off + 1, none⟩) hg0).trans hg2
          have hhw : Hid (g < w.heap.size ∧ w.cell? ⟨g, off, none⟩ = some (.int .i64 x.1) ∧ w.cell? ⟨g, off + 1, none⟩ = some (.int .i64 x.2)) := by
            obtain ⟨h', hoff', e, i1, i2, i3⟩ := hA.out.head
            cases e
            exact ⟨i1, i2, i3⟩
          have hne1 := World.new_ne u.w ⟨g, off, none⟩ q1
          clear hA1 hO hyx hg1 hg2 hh1 hh2 hne
          go_wp2
          go_region_held3 (fun X => X.cell? ⟨g, off, none⟩ = some (.int .i64 x.1) ∧ X.cell? ⟨g, off + 1, none⟩ = some (.int .i64 x.2)) (go_keep)
            (first
              | (refine step_mk rfl _ _ rfl _ k _ (HM.out.alloc _).drew rfl _ 1 1 [.int .i64 x.1, .int .i64 x.2] rfl rfl (two_at (isCells_drew (isCells_new u.w _ _))) (one2 x) (by omega) ?_; intro v1 w1 m1 q3; have s1 : w1.cell? ⟨g, off, none⟩ = some (.int .i64 x.1) := (m1.bel.cell (p := ⟨g, off, none⟩) hhw.out.1).trans hhw.out.2.1; have s2 : w1.cell? ⟨g, off + 1, none⟩ = some (.int .i64 x.2) := (m1.bel.cell (p := ⟨g, off + 1, none⟩) hhw.out.1).trans hhw.out.2.2; have M1 : Hid (Mk w w1 v1 (k + 1) (cellsOf O ++ [.int .i64 x.1, .int .i64 x.2])) := m1; clear m1 q3 HM))
          obtain ⟨oa', oc', rfl⟩ := own_slice M1.out.own
          go_wp2
          go_roundw
          case rel => exact ⟨A1, y :: B1, O ++ [x], _, _, oa', n' - 1, m', ca' - 1, cb', k + 1, oc', rfl, rfl, rfl, by omega, HA1, hB, (by have := M1.out; rw [cellsOf_append]; exact this), HO⟩
          case measure => simp [slen]; omega

end Go.Proofs.Ytiggpbjgnododaa.T
