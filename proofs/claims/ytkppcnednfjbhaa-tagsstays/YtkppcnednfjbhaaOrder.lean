/- What Order answers of a list that lies in memory. -/
import Derived.Test.YtkppcnednfjbhaaReads
namespace Go.Proofs.Ytkppcnednfjbhaa
open Go.RowKit Go.Maps

set_option maxHeartbeats 400000 in
theorem order_none (w : World) (pb : Nat) (S : St) (t s : Nat) (h : Lies w pb S) (ht : t < 18446744073709551616) (hs : s < 18446744073709551616) (hc : posOf S.ns t = none ∨ posOf S.ns s = none) :
    Calls Try.prog 14 #[.pointer (some ⟨pb, 0, none⟩), .int .u64 (t : Int), .int .u64 (s : Int)] w fun e w' => e = .returned (.tuple #[.int .i64 0, .int .i64 10]) ∧ w' = w := by
  have hfind := find_any w pb S t h ht
  have hfind2 := find_any w pb S s h hs
  by_cases hc1 : posOf S.ns t = none
  · rw [hc1, Option.bind_none] at hfind
    generalize (posOf S.ns s).bind (prevOf pb S.ns) = v at hfind2
    clear hc hc1 h
    go_enter Try.func14, Try.ntmps14
    go_wp2_with fail
    refine hfind.mono ?_
    rintro e w' ⟨rfl, rfl⟩
    go_wp2_with fail
    refine hfind2.mono ?_
    rintro e w' ⟨rfl, rfl⟩
    go_wp2
    go_ret2
    exact ⟨rfl, rfl⟩
  · obtain ⟨c, hc1⟩ := Option.ne_none_iff_exists'.1 hc1
    have hc2 : posOf S.ns s = none := by
      rcases hc with hc | hc
      · rw [hc] at hc1; simp at hc1
      · exact hc
    obtain ⟨b, o, hb, _⟩ := h.place (posOf_le hc1)
    rw [hc1, Option.bind_some, hb] at hfind
    rw [hc2, Option.bind_none] at hfind2
    clear hc hc1 hc2 hb h
    go_enter Try.func14, Try.ntmps14
    go_wp2_with fail
    refine hfind.mono ?_
    rintro e w' ⟨rfl, rfl⟩
    go_wp2_with fail
    refine hfind2.mono ?_
    rintro e w' ⟨rfl, rfl⟩
    go_wp2
    go_ret2
    exact ⟨rfl, rfl⟩

theorem drewN_two (w : World) (a b : Nat) : (w.drewN a).drewN b = w.drewN (a + b) := by simp [World.drewN, Nat.add_assoc]

def sgn (a b : Nat) : Int := if a < b then -1 else if b < a then 1 else 0

set_option maxHeartbeats 400000 in
theorem order_some (w : World) (pb : Nat) (S : St) (t s c d : Nat) (h : Lies w pb S) (ht : t < 18446744073709551616) (hs : s < 18446744073709551616) (hc : posOf S.ns t = some c) (hd : posOf S.ns s = some d) :
    Calls Try.prog 14 #[.pointer (some ⟨pb, 0, none⟩), .int .u64 (t : Int), .int .u64 (s : Int)] w fun e w' => e = .returned (.tuple #[.int .i64 (sgn (labAt S.ns c) (labAt S.ns d)), .int .i64 0]) ∧ ∃ n, w' = w.drewN n := by
  have hfind := find_any w pb S t h ht
  have hfind2 := find_any w pb S s h hs
  obtain ⟨b, o, hb, _, hl, _⟩ := h.place (posOf_le hc)
  obtain ⟨b', o', hb', _, hl', _⟩ := h.place (posOf_le hd)
  rw [hc, Option.bind_some, hb] at hfind
  rw [hd, Option.bind_some, hb'] at hfind2
  generalize labAt S.ns c = x at *
  generalize labAt S.ns d = y at *
  clear hc hd hb hb' h
  by_cases h1 : x < y
  · have hS : Hid (sgn x y = -1) := by unfold sgn; rw [if_pos h1]; rfl
    go_enter Try.func14, Try.ntmps14
    go_wp2_with fail
    refine hfind.mono ?_
    rintro e w' ⟨rfl, rfl⟩
    go_wp2_with fail
    refine hfind2.mono ?_
    rintro e w' ⟨rfl, rfl⟩
    go_wp2_with fail
    go_quiet (fail)
    go_wp2
    go_ret2
    exact ⟨by rw [hS.out]; rfl, _, rfl⟩
  · by_cases h2 : y < x
    · have hS : Hid (sgn x y = 1) := by unfold sgn; rw [if_neg h1, if_pos h2]; rfl
      go_enter Try.func14, Try.ntmps14
      go_wp2_with fail
      refine hfind.mono ?_
      rintro e w' ⟨rfl, rfl⟩
      go_wp2_with fail
      refine hfind2.mono ?_
      rintro e w' ⟨rfl, rfl⟩
      go_wp2_with fail
      go_quiet (fail)
      go_wp2_with fail
      go_quiet (fail)
      go_wp2
      go_ret2
      exact ⟨by rw [hS.out]; rfl, _, drewN_two _ _ _⟩
    · have hS : Hid (sgn x y = 0) := by unfold sgn; rw [if_neg h1, if_neg h2]; rfl
      go_enter Try.func14, Try.ntmps14
      go_wp2_with fail
      refine hfind.mono ?_
      rintro e w' ⟨rfl, rfl⟩
      go_wp2_with fail
      refine hfind2.mono ?_
      rintro e w' ⟨rfl, rfl⟩
      go_wp2_with fail
      go_quiet (fail)
      go_wp2_with fail
      go_quiet (fail)
      go_wp2
      go_ret2
      exact ⟨by rw [hS.out]; rfl, _, drewN_two _ _ _⟩

end Go.Proofs.Ytkppcnednfjbhaa
