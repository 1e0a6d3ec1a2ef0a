/- What the document's list answers: Next, Prev, Order, There. -/
import Derived.Test.YtkppcnednfjbhaaRef
namespace Go.Proofs.Ytkppcnednfjbhaa
open Go.RowKit Go.Maps

theorem pos_le {L : List Nat} {t c : Nat} (h : pos L t = some c) : c ≤ L.length := by
  rcases pos_some_iff h with ⟨_, rfl⟩ | ⟨i, rfl, hi⟩
  · exact Nat.zero_le _
  · exact (List.getElem?_eq_some_iff.1 hi).1

theorem tg_get {L : List Nat} {i x : Nat} (h : L[i]? = some x) : tg L (i + 1) = x := by simp [tg, h]

set_option maxRecDepth 100000 in
set_option maxHeartbeats 400000 in
theorem rnext_any (w : World) (db : Nat) (sl : Option (Nat × Nat)) (L : List Nat) (g t : Nat) (h : RefAt w db sl L g) (hlen : L.length ≤ 8192) :
    Calls Try.prog 21 #[.pointer (some ⟨db, 0, none⟩), .int .u64 (t : Int)] w fun e w' => e = .returned (.tuple #[.int .u64 ((nextAns L t).1 : Int), .int .i64 ((nextAns L t).2 : Int)]) ∧ w' = w := by
  have hat := rat_any w db sl L g t h hlen
  obtain ⟨a, cap, hv, _, hc⟩ := h.slice
  have HC : Hid (∀ (i t : Nat), L[i]? = some t → ∃ rb, a = some ⟨rb, 0, none⟩ ∧ w.cell? ⟨rb, i, none⟩ = some (.int .u64 (t : Int))) := hc
  clear hc h
  cases hp : pos L t with
  | none =>
    have e1 : atI L t = -1 := by simp only [atI, hp]
    have e2 : nextAns L t = (0, 10) := by simp only [nextAns, hp]
    rw [e1] at hat
    rw [e2]
    clear e1 e2 hp
    go_enter Try.func21, Try.ntmps21
    go_wp2_with fail
    refine hat.mono ?_
    rintro e w' ⟨rfl, rfl⟩
    go_wp2
    go_ret2
    exact ⟨rfl, rfl⟩
  | some c =>
    have hcl := pos_le hp
    have e1 : atI L t = (c : Int) := by simp only [atI, hp]
    have e2 : nextAns L t = (tg L (c + 1), 0) := by simp only [nextAns, hp]
    rw [e1] at hat
    rw [e2]
    clear e1 e2 hp
    by_cases hl : c = L.length
    · have e3 : tg L (c + 1) = 0 := tg_out (by omega)
      rw [e3]
      have hb : ((c : Int) == ((L.length : Nat) : Int)) = true := beq_iff_eq.2 (by omega)
      clear hl e3
      go_enter Try.func21, Try.ntmps21
      go_wp2_with fail
      refine hat.mono ?_
      rintro e w' ⟨rfl, rfl⟩
      go_wp2
      go_ret2
      exact ⟨rfl, rfl⟩
    · have hb : ((c : Int) == ((L.length : Nat) : Int)) = false := beq_eq_false_iff_ne.2 (by omega)
      have hlt : c < L.length := by omega
      obtain ⟨x, hx⟩ : ∃ x, L[c]? = some x := ⟨_, List.getElem?_eq_getElem hlt⟩
      rw [tg_get hx]
      obtain ⟨rb, ha, hcell⟩ := HC.out c x hx
      subst ha
      clear hx HC hl
      go_enter Try.func21, Try.ntmps21
      go_wp2_with fail
      refine hat.mono ?_
      rintro e w' ⟨rfl, rfl⟩
      go_wp2
      go_ret2
      exact ⟨rfl, rfl⟩

set_option maxRecDepth 100000 in
set_option maxHeartbeats 400000 in
theorem rprev_any (w : World) (db : Nat) (sl : Option (Nat × Nat)) (L : List Nat) (g t : Nat) (h : RefAt w db sl L g) (hlen : L.length ≤ 8192) :
    Calls Try.prog 23 #[.pointer (some ⟨db, 0, none⟩), .int .u64 (t : Int)] w fun e w' => e = .returned (.tuple #[.int .u64 ((prevAns L t).1 : Int), .int .i64 ((prevAns L t).2 : Int)]) ∧ w' = w := by
  have hat := rat_any w db sl L g t h hlen
  obtain ⟨a, cap, hv, _, hc⟩ := h.slice
  have HC : Hid (∀ (i t : Nat), L[i]? = some t → ∃ rb, a = some ⟨rb, 0, none⟩ ∧ w.cell? ⟨rb, i, none⟩ = some (.int .u64 (t : Int))) := hc
  clear hc h
  cases hp : pos L t with
  | none =>
    have e1 : atI L t = -1 := by simp only [atI, hp]
    have e2 : prevAns L t = (0, 10) := by simp only [prevAns, hp]
    rw [e1] at hat
    rw [e2]
    clear e1 e2 hp
    go_enter Try.func23, Try.ntmps23
    go_wp2_with fail
    refine hat.mono ?_
    rintro e w' ⟨rfl, rfl⟩
    go_wp2
    go_ret2
    exact ⟨rfl, rfl⟩
  | some c =>
    have hcl := pos_le hp
    have e1 : atI L t = (c : Int) := by simp only [atI, hp]
    have e2 : prevAns L t = (tg L (c - 1), 0) := by simp only [prevAns, hp]
    rw [e1] at hat
    rw [e2]
    clear e1 e2 hp
    by_cases hl : c < 2
    · have e3 : tg L (c - 1) = 0 := by rw [show c - 1 = 0 from by omega]; rfl
      rw [e3]
      clear e3
      go_enter Try.func23, Try.ntmps23
      go_wp2_with fail
      refine hat.mono ?_
      rintro e w' ⟨rfl, rfl⟩
      go_wp2
      go_ret2
      exact ⟨rfl, rfl⟩
    · obtain ⟨d, rfl⟩ : ∃ d, c = d + 2 := ⟨c - 2, by omega⟩
      obtain ⟨x, hx⟩ : ∃ x, L[d]? = some x := ⟨_, List.getElem?_eq_getElem (by omega)⟩
      rw [show d + 2 - 1 = d + 1 from rfl, tg_get hx]
      obtain ⟨rb, ha, hcell⟩ := HC.out d x hx
      subst ha
      clear hx HC hl
      have hi1 : ((d + 2 : Nat) : Int) - 2 = (d : Int) := by omega
      have hi2 : (d : Int) < ((L.length : Nat) : Int) := by omega
      go_enter Try.func23, Try.ntmps23
      go_wp2_with fail
      refine hat.mono ?_
      rintro e w' ⟨rfl, rfl⟩
      go_wp2
      go_ret2
      exact ⟨rfl, rfl⟩

set_option maxRecDepth 100000 in
set_option maxHeartbeats 400000 in
theorem rorder_any (w : World) (db : Nat) (sl : Option (Nat × Nat)) (L : List Nat) (g t s : Nat) (h : RefAt w db sl L g) (hlen : L.length ≤ 8192) :
    Calls Try.prog 24 #[.pointer (some ⟨db, 0, none⟩), .int .u64 (t : Int), .int .u64 (s : Int)] w fun e w' => e = .returned (.tuple #[.int .i64 (orderAns L t s).1, .int .i64 ((orderAns L t s).2 : Int)]) ∧ w' = w := by
  have hat := rat_any w db sl L g t h hlen
  have hat2 := rat_any w db sl L g s h hlen
  clear h
  by_cases hn : pos L t = none ∨ pos L s = none
  · have e2 : orderAns L t s = (0, 10) := by
      unfold orderAns
      rcases hn with hn | hn
      · rw [hn]
      · rw [hn]; cases pos L t <;> rfl
    rw [e2]
    have h1 : -1 ≤ atI L t := by unfold atI; split <;> omega
    have h2 : atI L t < 0 ∨ (0 ≤ atI L t ∧ atI L s < 0) := by
      unfold atI
      rcases hn with hn | hn
      · rw [hn]; exact .inl (by decide)
      · rw [hn]
        split
        · exact .inl (by decide)
        · exact .inr ⟨by omega, by decide⟩
    generalize atI L t = x at *
    generalize atI L s = y at *
    clear hn e2
    rcases h2 with h2 | ⟨h2, h3⟩
    · go_enter Try.func24, Try.ntmps24
      go_wp2_with fail
      refine hat.mono ?_
      rintro e w' ⟨rfl, rfl⟩
      go_wp2_with fail
      refine hat2.mono ?_
      rintro e w' ⟨rfl, rfl⟩
      go_wp2
      go_ret2
      exact ⟨rfl, rfl⟩
    · go_enter Try.func24, Try.ntmps24
      go_wp2_with fail
      refine hat.mono ?_
      rintro e w' ⟨rfl, rfl⟩
      go_wp2_with fail
      refine hat2.mono ?_
      rintro e w' ⟨rfl, rfl⟩
      go_wp2
      go_ret2
      exact ⟨rfl, rfl⟩
  · cases hp : pos L t with
    | none => exact absurd (.inl hp) hn
    | some c =>
      cases hq : pos L s with
      | none => exact absurd (.inr hq) hn
      | some d =>
        have e1 : atI L t = (c : Int) := by simp only [atI, hp]
        have e2 : atI L s = (d : Int) := by simp only [atI, hq]
        have e3 : orderAns L t s = (sgn c d, 0) := by simp only [orderAns, hp, hq]
        have hcl := pos_le hp
        have hdl := pos_le hq
        rw [e1] at hat
        rw [e2] at hat2
        rw [e3]
        clear hp hq hn e1 e2 e3
        rcases Nat.lt_trichotomy c d with hlt | heq | hgt
        · rw [show sgn c d = -1 from by unfold sgn; rw [if_pos hlt]]
          go_enter Try.func24, Try.ntmps24
          go_wp2_with fail
          refine hat.mono ?_
          rintro e w' ⟨rfl, rfl⟩
          go_wp2_with fail
          refine hat2.mono ?_
          rintro e w' ⟨rfl, rfl⟩
          go_wp2
          go_ret2
          exact ⟨rfl, rfl⟩
        · subst heq
          rw [show sgn c c = 0 from by unfold sgn; rw [if_neg (by omega), if_neg (by omega)]]
          go_enter Try.func24, Try.ntmps24
          go_wp2_with fail
          refine hat.mono ?_
          rintro e w' ⟨rfl, rfl⟩
          go_wp2_with fail
          refine hat2.mono ?_
          rintro e w' ⟨rfl, rfl⟩
          go_wp2
          go_ret2
          exact ⟨rfl, rfl⟩
        · rw [show sgn c d = 1 from by unfold sgn; rw [if_neg (by omega), if_pos hgt]]
          go_enter Try.func24, Try.ntmps24
          go_wp2_with fail
          refine hat.mono ?_
          rintro e w' ⟨rfl, rfl⟩
          go_wp2_with fail
          refine hat2.mono ?_
          rintro e w' ⟨rfl, rfl⟩
          go_wp2
          go_ret2
          exact ⟨rfl, rfl⟩

theorem there_any (w : World) (db : Nat) (sl : Option (Nat × Nat)) (L : List Nat) (g t : Nat) (h : RefAt w db sl L g) (hlen : L.length ≤ 8192) :
    Calls Try.prog 13 #[.pointer (some ⟨db, 0, none⟩), .int .u64 (t : Int)] w fun e w' => e = .returned (.bool (pos L t).isSome) ∧ w' = w := by
  have hat := rat_any w db sl L g t h hlen
  clear h
  cases hp : pos L t with
  | none =>
    have e1 : atI L t = -1 := by simp only [atI, hp]
    rw [e1] at hat
    clear e1 hp
    go_enter Try.func13, Try.ntmps13
    go_wp2_with fail
    refine hat.mono ?_
    rintro e w' ⟨rfl, rfl⟩
    go_wp2
    go_ret
    exact ⟨rfl, rfl⟩
  | some c =>
    have e1 : atI L t = (c : Int) := by simp only [atI, hp]
    rw [e1] at hat
    clear e1 hp
    go_enter Try.func13, Try.ntmps13
    go_wp2_with fail
    refine hat.mono ?_
    rintro e w' ⟨rfl, rfl⟩
    go_wp2
    go_ret
    exact ⟨rfl, rfl⟩

end Go.Proofs.Ytkppcnednfjbhaa
