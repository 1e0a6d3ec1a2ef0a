/- The spans around one, kept in a row: in plain, and what notEnded and nests answer. -/
import Derived.Test.YtfhbfilmejegcaaTests
namespace Go.Proofs.Ytfhbfilmejegcaa
open Go.RowKit
set_option linter.unusedVariables false

/-- Those that have not ended ahead of b. -/
def pop (b : Int) (st : List Sp) : List Sp := (st.reverse.dropWhile (fun x => decide (x.e < b))).reverse
theorem pop_nil (b : Int) : pop b [] = [] := rfl
theorem pop_lt {b : Int} {st : List Sp} {x : Sp} (h : x.e < b) : pop b (st ++ [x]) = pop b st := by simp [pop, h]
theorem pop_ge {b : Int} {st : List Sp} {x : Sp} (h : ¬ x.e < b) : pop b (st ++ [x]) = st ++ [x] := by simp [pop, h]
/-- Whether those are around x, as many as its level says. -/
def nst (st : List Sp) (x : Sp) : Bool := decide (x.l = (st.length : Int)) && (match st.getLast? with | none => true | some t => anc t x)

/-- Spans in a row, from a block's beginning on. -/
def StkAt (w : World) (a : Option Addr) (st : List Sp) : Prop :=
  ∀ i x, st[i]? = some x → ∃ g, a = some ⟨g, 0, none⟩ ∧ g < w.heap.size ∧ w.cell? ⟨g, i * 3, none⟩ = some (.int .u64 x.b) ∧ w.cell? ⟨g, i * 3 + 1, none⟩ = some (.int .u64 x.e) ∧ w.cell? ⟨g, i * 3 + 2, none⟩ = some (.int .i64 x.l)

theorem take_snoc {α : Type} {st : List α} {n : Nat} {x : α} (h : st[n]? = some x) : st.take (n + 1) = st.take n ++ [x] := by
  have hlt := (List.getElem?_eq_some_iff.1 h).1
  rw [List.take_succ_eq_append_getElem hlt, (List.getElem?_eq_some_iff.1 h).2]

set_option maxRecDepth 100000 in
set_option maxHeartbeats 1000000 in
theorem nend_any (w : World) (a : Option Addr) (st : List Sp) (cap : Nat) (b : Int) (h : StkAt w a st) (hc : st.length ≤ cap) (hl : st.length ≤ 8192) :
    Calls Try.prog 35 #[.slice a st.length cap, .int .u64 b] w fun e w' => ∃ m, m ≤ st.length ∧ pop b st = st.take m ∧ e = .returned (.slice a m cap) ∧ w' = w := by
  have HA : Hid (StkAt w a st) := h
  clear h
  go_enter Try.func35, Try.ntmps35
  go_wp2
  go_loop [0] (fun v => ∃ n : Nat, n ≤ st.length ∧ v = .slice a n cap ∧ Hid (pop b st = pop b (st.take n))) (fun v => match v with | .slice _ n _ => n | _ => 0)
  case atStart => exact ⟨st.length, Nat.le_refl _, rfl, by show _ = _; rw [List.take_length]⟩
  case round =>
    obtain ⟨n, hn, rfl, HP⟩ := hrel
    by_cases hn0 : n = 0
    · subst hn0
      go_wp2
      go_ret
      exact ⟨0, by omega, by rw [HP.out]; rfl, rfl, rfl⟩
    · obtain ⟨k, rfl⟩ : ∃ k, n = k + 1 := ⟨n - 1, by omega⟩
      obtain ⟨x, hx⟩ : ∃ x, st[k]? = some x := ⟨_, List.getElem?_eq_getElem (by omega)⟩
      obtain ⟨g, rfl, hg, h0, h1, h2⟩ := HA.out k x hx
      have HT : Hid (st.take (k + 1) = st.take k ++ [x]) := take_snoc hx
      have hi1 : ((k + 1 : Nat) : Int) - 1 = (k : Int) := by omega
      clear hn0 hx
      by_cases hlt : x.e < b
      · go_wp2
        go_round
        case rel => exact ⟨k, by omega, rfl, by show _ = _; rw [HP.out, HT.out, pop_lt hlt]⟩
        case measure => simp
      · go_wp2
        go_ret
        exact ⟨k + 1, hn, by rw [HP.out, HT.out, pop_ge (by omega)], rfl, rfl⟩

theorem nst_last {st : List Sp} {k : Nat} {t x : Sp} (hk : st.length = k + 1) (h : st[k]? = some t) : nst st x = (decide (x.l = ((k + 1 : Nat) : Int)) && anc t x) := by
  have : st.getLast? = some t := by rw [List.getLast?_eq_getElem?, hk]; exact h
  simp [nst, this, hk]

attribute [local go_sem] Bel.cell Bel.fz
set_option maxRecDepth 100000 in
set_option maxHeartbeats 1000000 in
theorem nests_any (w : World) (a : Option Addr) (st : List Sp) (cap : Nat) (x : Sp) (h : StkAt w a st) (hc : st.length ≤ cap) (hl : st.length ≤ 8192) :
    Calls Try.prog 36 #[.slice a st.length cap, .agg (sv x)] w fun e w' => e = .returned (.bool (nst st x)) ∧ Below w.heap.size w w' := by
  by_cases hx : x.l = (st.length : Int)
  · cases hst : st.length with
    | zero =>
      have : st = [] := List.length_eq_zero_iff.1 hst
      subst this
      have HN : Hid (nst [] x = true) := by show _ = _; rw [hst] at hx; simp [nst, hx]
      generalize nst [] x = z at *
      rw [hst] at hx
      obtain ⟨x1, x2, x3⟩ := x
      unfold sv
      simp only at *
      have hb : (x3 == ((0 : Nat) : Int)) = true := by rw [hx]; rfl
      have hb' : (x3 == 0) = true := hb
      clear h hc hl hst hx
      go_enter Try.func36, Try.ntmps36
      go_wp2
      refine wp_region_bel (by kernel_rfl) (by kernel_rfl) ?_
      intro hne
      repeat go_big_quiet_step (fail)
      refine wpQuiet_nil ?_
      rintro _ ⟨u, rfl⟩
      go_wp2
      go_ret
      exact ⟨ret_bool HN.out.symm, rel_end (below1 _ _) u⟩
    | succ k =>
      obtain ⟨t, ht⟩ : ∃ t, st[k]? = some t := ⟨_, List.getElem?_eq_getElem (by omega)⟩
      have HN : Hid (nst st x = anc t x) := by show _ = _; rw [nst_last hst ht, hx, hst]; simp
      obtain ⟨g, rfl, hg, h0, h1, h2⟩ := h k t ht
      have hcall := fun W => anc_any W t x
      have hi1 : ((k + 1 : Nat) : Int) - 1 = (k : Int) := by omega
      have hi2 : (k : Int) < ((k + 1 : Nat) : Int) := by omega
      have hl1 : k + 1 ≤ 8192 := by omega
      have hcc : k + 1 ≤ cap := by omega
      have hb : (x.l == (k : Int) + 1) = true := by rw [hx, hst]; simp
      have hb0 : ((k : Int) + 1 == 0) = false := by rw [beq_eq_false_iff_ne]; omega
      have hb1 : (k : Int) + 1 - 1 = (k : Int) := by omega
      have hb2 : (0 : Int) ≤ (k : Int) := by omega
      have hb3 : (k : Int) < (k : Int) + 1 := by omega
      generalize nst st x = z at *
      generalize anc t x = y at *
      clear ht h hc hl hx hst
      obtain ⟨x1, x2, x3⟩ := x
      obtain ⟨t1, t2, t3⟩ := t
      unfold sv at *
      simp only at *
      go_enter Try.func36, Try.ntmps36
      go_wp2
      refine wp_region_bel (by kernel_rfl) (by kernel_rfl) ?_
      intro hne
      repeat go_big_quiet_step ((go_at_call 9; with_reducible exact Calls.bel_of (hcall _)))
      refine wpQuiet_nil ?_
      rintro _ ⟨u, rfl⟩
      go_wp2
      go_ret
      exact ⟨ret_bool HN.out.symm, rel_end (below1 _ _) u⟩
  · have HN : Hid (nst st x = false) := by show _ = _; simp [nst, hx]
    have hb : (x.l == ((st.length : Nat) : Int)) = false := beq_eq_false_iff_ne.2 hx
    generalize nst st x = z at *
    generalize st.length = n at *
    obtain ⟨x1, x2, x3⟩ := x
    unfold sv
    simp only at *
    clear hx h
    go_enter Try.func36, Try.ntmps36
    go_wp2
    refine wp_region_bel (by kernel_rfl) (by kernel_rfl) ?_
    intro hne
    repeat go_big_quiet_step (fail)
    refine wpQuiet_nil ?_
    rintro _ ⟨u, rfl⟩
    go_wp2
    go_ret
    exact ⟨ret_bool HN.out.symm, rel_end (below1 _ _) u⟩

end Go.Proofs.Ytfhbfilmejegcaa
