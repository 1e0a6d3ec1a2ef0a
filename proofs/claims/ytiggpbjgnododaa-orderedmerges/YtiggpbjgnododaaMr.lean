/- Lists of items that are handed in, and whether they rise: rises of the program and of the document. -/
import Derived.Test.YtiggpbjgnododaaTw
import Derived.Test.YtiggpbjgnododaaMp
namespace Go.Proofs.Ytiggpbjgnododaa.T
open Go.RowKit Go.Shelf
set_option linter.unusedVariables false
attribute [local go_sem] Bel.cell

theorem rises_true {L : List (Int × Int)} (h : ∀ (i : Nat) x y, L[i]? = some x → L[i + 1]? = some y → x.1 ≤ y.1) : risesB L = true := by
  unfold risesB
  rw [List.all_eq_true]
  intro i _
  split
  · rename_i x y hx hy
    have := h i x y hx hy
    simp
    omega
  · rfl
theorem rises_false {L : List (Int × Int)} {i : Nat} {x y : Int × Int} (hx : L[i]? = some x) (hy : L[i + 1]? = some y) (h : y.1 < x.1) : risesB L = false := by
  unfold risesB
  rw [List.all_eq_false]
  have := (List.getElem?_eq_some_iff.1 hy).1
  refine ⟨i, by simp; omega, ?_⟩
  rw [hx, hy]
  simpa using h

/-- A slice of items that is handed in. -/
structure Sl (w : World) (a : Option Addr) (n cap : Nat) (L : List (Int × Int)) : Prop where
  len : L.length = n
  sg : Sg w a L
  le : n ≤ cap
  capm : cap ≤ maxLen
  nil : a = none → cap = 0

theorem Sl.below {w w' : World} {a : Option Addr} {n cap : Nat} {L : List (Int × Int)} (h : Sl w a n cap L) (hb : Below w.heap.size w w') : Sl w' a n cap L := ⟨h.len, h.sg.below hb, h.le, h.capm, h.nil⟩
theorem Sl.of_own {w : World} {B : Nat} {a : Option Addr} {n cap : Nat} {L : List (Int × Int)} (h : w.ownsRow B 28 2 (.slice a n cap) n (cellsOf L)) : Sl w a n cap L := by
  have hl : L.length = n := by have := h.1; rw [cellsOf_length] at this; omega
  obtain ⟨h1, h2⟩ := capm_of h
  refine ⟨hl, sg_of_own h hl, h1, h2, fun e => ?_⟩
  subst e
  rcases h.2 with ⟨e, e2⟩ | ⟨g, cap', cur, e, _⟩
  · simp only [Value.slice.injEq] at e; omega
  · simp only [Value.slice.injEq] at e; simp at e
theorem Sl.head {w : World} {a : Option Addr} {n cap : Nat} {x : Int × Int} {L : List (Int × Int)} (h : Sl w a n cap (x :: L)) :
    ∃ g off, a = some ⟨g, off, none⟩ ∧ g < w.heap.size ∧ w.cell? ⟨g, off, none⟩ = some (.int .i64 x.1) ∧ w.cell? ⟨g, off + 1, none⟩ = some (.int .i64 x.2) := by
  obtain ⟨g, off, e, _, h1, h2, h3⟩ := h.sg 0 x rfl
  exact ⟨g, off, e, h1, by simpa using h2, by simpa using h3⟩
theorem Sl.tail {w : World} {g off n cap : Nat} {x : Int × Int} {L : List (Int × Int)} (h : Sl w (some ⟨g, off, none⟩) n cap (x :: L)) :
    ∃ A, (if cap = 1 then some (⟨g, off, none⟩ : Addr) else some ⟨g, off + 2, none⟩) = some A ∧ Sl w (some A) (n - 1) (cap - 1) L := by
  have hl := h.len
  have hc := h.le
  have hm := h.capm
  simp only [List.length_cons] at hl
  by_cases e : cap = 1
  · refine ⟨_, if_pos e, by omega, fun i y hy => ?_, by omega, by omega, fun h => by cases h⟩
    have := (List.getElem?_eq_some_iff.1 hy).1
    omega
  · refine ⟨_, if_neg e, by omega, fun i y hy => ?_, by omega, by omega, fun h => by cases h⟩
    obtain ⟨g', off', e', _, h1, h2, h3⟩ := h.sg (i + 1) y (by simpa using hy)
    cases e'
    refine ⟨g, off + 2, rfl, trivial, h1, ?_, ?_⟩
    · rw [← h2]; congr 2; omega
    · rw [← h3]; congr 2; omega

def lessV : Value := .func (.func 9) #[] #[]

set_option maxRecDepth 100000 in
set_option maxHeartbeats 1000000 in
theorem rrises_any (w : World) (a : Option Addr) (n cap : Nat) (L : List (Int × Int)) (h : Sl w a n cap L) (hn : n ≤ 8192) :
    Calls Try.prog 56 #[.slice a n cap] w fun e w' => e = .returned (.bool (risesB L)) ∧ ∃ m, w' = w.drewN m := by
  have hn' : (n : Int) ≤ 8192 := by omega
  have Hl : Hid (L.length = n) := h.len
  have HA : Hid (Sg w a L) := h.sg
  clear h
  go_enter Try.func56, Try.ntmps56
  go_wp2
  go_loopw [3] (fun i wr => ∃ k m : Nat, 1 ≤ k ∧ i = .int .i64 (k : Int) ∧ wr = w.drewN m ∧ Hid (∀ (i : Nat) x y, i + 1 < k → L[i]? = some x → L[i + 1]? = some y → x.1 ≤ y.1)) (fun i _ => n - (intOf i).toNat)
  case atStart => exact ⟨1, 0, Nat.le_refl _, rfl, rfl, fun i x y hi => by omega⟩
  case round =>
    obtain ⟨k, m, hk, rfl, rfl, hI⟩ := hrel
    by_cases hlt : k < n
    · obtain ⟨k0, rfl⟩ : ∃ k0, k = k0 + 1 := ⟨k - 1, by omega⟩
      have hx := List.getElem?_eq_getElem (l := L) (i := k0) (by have := Hl.out; omega)
      have hy := List.getElem?_eq_getElem (l := L) (i := k0 + 1) (by have := Hl.out; omega)
      generalize L[k0]'(by have := Hl.out; omega) = x at *
      generalize L[k0 + 1]'(by have := Hl.out; omega) = y at *
      have hD := hI.out
      obtain ⟨g, off, rfl, -, hg1, hg2, hg3⟩ := HA.out k0 _ hx
      obtain ⟨g', off', e', -, hg4, hg5, hg6⟩ := HA.out (k0 + 1) _ hy
      cases e'
      have HX : Hid (L[k0]? = some x) := hx
      have HY : Hid (L[k0 + 1]? = some y) := hy
      have hk1 : (k0 : Int) + 1 < (n : Int) := by omega
      have hk2 : (0 : Int) ≤ (k0 : Int) := by omega
      have hpush : ((k0 + 1 : Nat) : Int) = (k0 : Int) + 1 := by omega
      clear hx hy hD
      by_cases hb : y.1 < x.1
      · have hd : decide (y.1 < x.1) = true := by simpa using hb
        have HR : Hid (risesB L = false) := rises_false HX.out HY.out hb
        rw [hpush]
        go_wp2
        go_quiet (fail)
        go_wp2
        go_ret
        exact ⟨congrArg _ (v_bool HR.out.symm), m + nq, World.drewN_drewN _ _ _⟩
      · have hd : decide (y.1 < x.1) = false := by simpa using hb
        rw [hpush]
        go_wp2
        go_quiet (fail)
        go_wp2
        go_roundw
        case rel => exact ⟨k0 + 1 + 1, m + _, by omega, by go_num, rfl, fun i x' y' hi h1 h2 => by
          by_cases e : i = k0
          · subst e
            rw [HX.out] at h1
            rw [HY.out] at h2
            cases h1
            cases h2
            omega
          · exact hI.out i x' y' (by omega) h1 h2⟩
        case measure => simp [intOf]; omega
    · have HR : Hid (risesB L = true) := rises_true (fun i x y h1 h2 => hI.out i x y (by have := (List.getElem?_eq_some_iff.1 h2).1; have := Hl.out; omega) h1 h2)
      go_wp2
      go_ret
      exact ⟨congrArg _ (v_bool HR.out.symm), m, rfl⟩

set_option maxRecDepth 100000 in
set_option maxHeartbeats 1000000 in
theorem rises_any (w : World) (a : Option Addr) (n cap : Nat) (L : List (Int × Int)) (h : Sl w a n cap L) (hn : n ≤ 8192) :
    Calls Try.prog 83 #[.func (.func 9) #[] #[], .slice a n cap] w fun e w' => e = .returned (.bool (risesB L)) ∧ Below w.heap.size w w' := by
  have hn' : (n : Int) ≤ 8192 := by omega
  have Hl : Hid (L.length = n) := h.len
  have HA : Hid (Sg w a L) := h.sg
  have eg : ∀ args w, (callFunc 9 args).run Try.prog w = .ok (.enter 9 args) w := enters_of Try.func9 (by kernel_rfl) rfl
  clear h
  go_enter Try.func83, Try.ntmps83
  go_wp2
  go_loopw [5] (fun i wr => ∃ k : Nat, 1 ≤ k ∧ i = .int .i64 (k : Int) ∧ Hid (Below w.heap.size w wr) ∧ Hid (∀ (i : Nat) x y, i + 1 < k → L[i]? = some x → L[i + 1]? = some y → x.1 ≤ y.1)) (fun i _ => n - (intOf i).toNat)
  case atStart => exact ⟨1, Nat.le_refl _, rfl, Below.refl _ _, fun i x y hi => by omega⟩
  case round =>
    obtain ⟨k, hk, rfl, hB, hI⟩ := hrel
    by_cases hlt : k < n
    · obtain ⟨k0, rfl⟩ : ∃ k0, k = k0 + 1 := ⟨k - 1, by omega⟩
      have hx := List.getElem?_eq_getElem (l := L) (i := k0) (by have := Hl.out; omega)
      have hy := List.getElem?_eq_getElem (l := L) (i := k0 + 1) (by have := Hl.out; omega)
      generalize L[k0]'(by have := Hl.out; omega) = x at *
      generalize L[k0 + 1]'(by have := Hl.out; omega) = y at *
      obtain ⟨g, off, rfl, -, hg1', hg2', hg3'⟩ := HA.out k0 _ hx
      obtain ⟨g', off', e', -, hg4', hg5', hg6'⟩ := HA.out (k0 + 1) _ hy
      cases e'
      have HX : Hid (L[k0]? = some x) := hx
      have HY : Hid (L[k0 + 1]? = some y) := hy
      have hk1 : (k0 : Int) + 1 < (n : Int) := by omega
      have hk2 : (0 : Int) ≤ (k0 : Int) := by omega
      have hpush : ((k0 + 1 : Nat) : Int) = (k0 : Int) + 1 := by omega
      have hg1 : g < wr.heap.size := Nat.lt_of_lt_of_le hg1' hB.out.size
      have hg2 : wr.cell? ⟨g, off + k0 * 2, none⟩ = some (.int .i64 x.1) := (hB.out.cell (p := ⟨g, _, none⟩) hg1').trans hg2'
      have hg3 : wr.cell? ⟨g, off + k0 * 2 + 1, none⟩ = some (.int .i64 x.2) := (hB.out.cell (p := ⟨g, _, none⟩) hg1').trans hg3'
      have hg5 : wr.cell? ⟨g, off + (k0 + 1) * 2, none⟩ = some (.int .i64 y.1) := (hB.out.cell (p := ⟨g, _, none⟩) hg1').trans hg5'
      have hg6 : wr.cell? ⟨g, off + (k0 + 1) * 2 + 1, none⟩ = some (.int .i64 y.2) := (hB.out.cell (p := ⟨g, _, none⟩) hg1').trans hg6'
      have hc := fun W => byKey_any W y x
      obtain ⟨b, hb⟩ : ∃ b, Hid (ltK kf y x = b) := ⟨_, rfl⟩
      rw [hb.out] at hc
      clear hx hy hg2' hg3' hg5' hg6' hg4'
      rw [hpush]
      go_wp2
      refine wp_region_bel (by kernel_rfl) (by kernel_rfl) ?_
      intro hne
      repeat go_big_quiet_step ((exact Calls.bel_of (hc _)))
      refine wpQuiet_nil ?_
      rintro _ ⟨u, rfl⟩
      have HB2 : Hid (Below w.heap.size w u.w) := hB.out.trans (u.h.mono hB.out.size)
      cases b with
      | true =>
        have HR : Hid (risesB L = false) := rises_false HX.out HY.out (by have := hb.out; unfold ltK kf at this; exact of_decide_eq_true this)
        go_wp2
        go_ret
        exact ⟨congrArg _ (v_bool HR.out.symm), HB2.out⟩
      | false =>
        go_wp2
        go_roundw
        case rel => exact ⟨k0 + 1 + 1, by omega, by go_num, HB2, fun i x' y' hi h1 h2 => by
          by_cases e : i = k0
          · subst e
            rw [HX.out] at h1
            rw [HY.out] at h2
            cases h1
            cases h2
            have h3 := hb.out
            unfold ltK kf at h3
            have h4 := of_decide_eq_false h3
            omega
          · exact hI.out i x' y' (by omega) h1 h2⟩
        case measure => simp [intOf]; omega
    · have HR : Hid (risesB L = true) := rises_true (fun i x y h1 h2 => hI.out i x y (by have := (List.getElem?_eq_some_iff.1 h2).1; have := Hl.out; omega) h1 h2)
      go_wp2
      go_ret
      exact ⟨congrArg _ (v_bool HR.out.symm), hB.out⟩

end Go.Proofs.Ytiggpbjgnododaa.T
