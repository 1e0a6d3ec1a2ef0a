/- What the calls of the list that only read answer: find, Label, Next, Prev, Order, Len, Given, Writes, of a list that lies in memory. -/
import Derived.Test.YtkppcnednfjbhaaHeap
import Derived.Deep.QuietTactic
import Derived.BigQuiet
namespace Go.Proofs.Ytkppcnednfjbhaa
open Go.RowKit Go.Maps

set_option maxHeartbeats 400000 in
theorem find_zero (w : World) (pb : Nat) :
    Calls Try.prog 25 #[.pointer (some ⟨pb, 0, none⟩), .int .u64 0] w fun e w' => e = .returned (.pointer (some ⟨pb, 1, none⟩)) ∧ w' = w := by
  go_enter Try.func25, Try.ntmps25
  go_wp2
  go_ret
  exact ⟨rfl, rfl⟩

set_option maxHeartbeats 400000 in
theorem find_tag (w : World) (pb : Nat) (mb : Option Nat) (f : Nat → Option Nat) (N t : Nat) (hm : MapAt w mb f N) (hp : w.cell? ⟨pb, 0, none⟩ = some (.map mb)) (ht : t < 18446744073709551616) (h0 : 0 < t) :
    Calls Try.prog 25 #[.pointer (some ⟨pb, 0, none⟩), .int .u64 (t : Int)] w fun e w' => e = .returned (.pointer ((f t).map fun b => ⟨b, 0, none⟩)) ∧ w' = w := by
  have hrun := hm.look ht
  have hz : ((t : Int) == 0) = false := beq_eq_false_iff_ne.2 (by omega)
  go_enter Try.func25, Try.ntmps25
  go_wp2
  go_ret
  exact ⟨rfl, rfl⟩

theorem find_any (w : World) (pb : Nat) (S : St) (t : Nat) (h : Lies w pb S) (ht : t < 18446744073709551616) :
    Calls Try.prog 25 #[.pointer (some ⟨pb, 0, none⟩), .int .u64 (t : Int)] w fun e w' => e = .returned (.pointer ((posOf S.ns t).bind (prevOf pb S.ns))) ∧ w' = w := by
  by_cases h0 : t = 0
  · subst h0
    exact find_zero w pb
  · rw [← blkOf_pos pb S.ns h0]
    exact find_tag w pb S.mb _ _ t h.map (by rw [h.head.cell]; rfl) ht (by omega)

set_option maxHeartbeats 400000 in
theorem label_some (w : World) (pb : Nat) (S : St) (t c : Nat) (h : Lies w pb S) (ht : t < 18446744073709551616) (hc : posOf S.ns t = some c) :
    Calls Try.prog 11 #[.pointer (some ⟨pb, 0, none⟩), .int .u64 (t : Int)] w fun e w' => e = .returned (.tuple #[.int .u64 (labAt S.ns c), .int .i64 0]) ∧ w' = w := by
  obtain ⟨b, o, hb, _, hl, _⟩ := h.place (posOf_le hc)
  have hfind := find_any w pb S t h ht
  rw [hc, Option.bind_some, hb] at hfind
  clear hb hc h
  go_enter Try.func11, Try.ntmps11
  go_wp2_with (go_at_call 25; refine hfind.mono ?_; rintro e w' ⟨rfl, rfl⟩)
  go_ret2
  exact ⟨rfl, rfl⟩

set_option maxHeartbeats 400000 in
theorem label_none (w : World) (pb : Nat) (S : St) (t : Nat) (h : Lies w pb S) (ht : t < 18446744073709551616) (hc : posOf S.ns t = none) :
    Calls Try.prog 11 #[.pointer (some ⟨pb, 0, none⟩), .int .u64 (t : Int)] w fun e w' => e = .returned (.tuple #[.int .u64 0, .int .i64 10]) ∧ w' = w := by
  have hfind := find_any w pb S t h ht
  rw [hc, Option.bind_none] at hfind
  clear hc h
  go_enter Try.func11, Try.ntmps11
  go_wp2_with (go_at_call 25; refine hfind.mono ?_; rintro e w' ⟨rfl, rfl⟩)
  go_ret2
  exact ⟨rfl, rfl⟩

set_option maxHeartbeats 400000 in
theorem tagOf_none (w : World) : Calls Try.prog 29 #[.pointer none] w fun e w' => e = .returned (.int .u64 0) ∧ w' = w := by
  go_enter Try.func29, Try.ntmps29
  go_wp2
  go_ret
  exact ⟨rfl, rfl⟩

set_option maxHeartbeats 400000 in
theorem tagOf_some (w : World) (b o t : Nat) (h : w.cell? ⟨b, o, none⟩ = some (.int .u64 (t : Int))) : Calls Try.prog 29 #[.pointer (some ⟨b, o, none⟩)] w fun e w' => e = .returned (.int .u64 (t : Int)) ∧ w' = w := by
  go_enter Try.func29, Try.ntmps29
  go_wp2
  go_ret
  exact ⟨rfl, rfl⟩

theorem tagAt_zero_of_gt {ns : List Nd} {c : Nat} (h : ns.length < c) : tagAt ns c = 0 := by
  cases c with
  | zero => rfl
  | succ i => simp [tagAt, List.getElem?_eq_none (show ns.length ≤ i by omega)]

/-- tagOf of the pointer to the chain's place c (nil behind the last). -/
theorem tagOf_place (w : World) (pb : Nat) (S : St) (c : Nat) (h : Lies w pb S) : Calls Try.prog 29 #[.pointer (prevOf pb S.ns c)] w fun e w' => e = .returned (.int .u64 (tagAt S.ns c)) ∧ w' = w := by
  by_cases hc : c ≤ S.ns.length
  · obtain ⟨b, o, hb, ht, _⟩ := h.place hc
    rw [hb]
    exact tagOf_some w b o _ ht
  · have e1 : prevOf pb S.ns c = none := by
      cases c with
      | zero => omega
      | succ i => simp [prevOf, ptrN]; omega
    rw [e1, tagAt_zero_of_gt (by omega)]
    exact tagOf_none w

theorem tagOf_back (w : World) (pb : Nat) (S : St) (c : Nat) (h : Lies w pb S) : Calls Try.prog 29 #[.pointer (backOf pb S.ns c)] w fun e w' => e = .returned (.int .u64 (tagAt S.ns (c - 1))) ∧ w' = w := by
  cases c with
  | zero => exact tagOf_none w
  | succ i => exact tagOf_place w pb S i h

set_option maxHeartbeats 400000 in
theorem next_some (w : World) (pb : Nat) (S : St) (t c : Nat) (h : Lies w pb S) (ht : t < 18446744073709551616) (hc : posOf S.ns t = some c) :
    Calls Try.prog 15 #[.pointer (some ⟨pb, 0, none⟩), .int .u64 (t : Int)] w fun e w' => e = .returned (.tuple #[.int .u64 (tagAt S.ns (c + 1)), .int .i64 0]) ∧ w' = w := by
  obtain ⟨b, o, hb, _, _, _, hn, _⟩ := h.place (posOf_le hc)
  have hfind := find_any w pb S t h ht
  rw [hc, Option.bind_some, hb] at hfind
  have htag := tagOf_place w pb S (c + 1) h
  simp only [prevOf] at htag
  clear hb hc h
  go_enter Try.func15, Try.ntmps15
  go_wp2_with (first | (go_at_call 25; refine hfind.mono ?_; rintro e w' ⟨rfl, rfl⟩) | (go_at_call 29; refine htag.mono ?_; rintro e w' ⟨rfl, rfl⟩))
  go_ret2
  exact ⟨rfl, rfl⟩

set_option maxHeartbeats 400000 in
theorem next_none (w : World) (pb : Nat) (S : St) (t : Nat) (h : Lies w pb S) (ht : t < 18446744073709551616) (hc : posOf S.ns t = none) :
    Calls Try.prog 15 #[.pointer (some ⟨pb, 0, none⟩), .int .u64 (t : Int)] w fun e w' => e = .returned (.tuple #[.int .u64 0, .int .i64 10]) ∧ w' = w := by
  have hfind := find_any w pb S t h ht
  rw [hc, Option.bind_none] at hfind
  clear hc h
  go_enter Try.func15, Try.ntmps15
  go_wp2_with (go_at_call 25; refine hfind.mono ?_; rintro e w' ⟨rfl, rfl⟩)
  go_ret2
  exact ⟨rfl, rfl⟩

set_option maxHeartbeats 400000 in
theorem prev_some (w : World) (pb : Nat) (S : St) (t c : Nat) (h : Lies w pb S) (ht : t < 18446744073709551616) (hc : posOf S.ns t = some c) :
    Calls Try.prog 22 #[.pointer (some ⟨pb, 0, none⟩), .int .u64 (t : Int)] w fun e w' => e = .returned (.tuple #[.int .u64 (tagAt S.ns (c - 1)), .int .i64 0]) ∧ w' = w := by
  obtain ⟨b, o, hb, _, _, hp, _⟩ := h.place (posOf_le hc)
  have hfind := find_any w pb S t h ht
  rw [hc, Option.bind_some, hb] at hfind
  have htag := tagOf_back w pb S c h
  clear hb hc h
  go_enter Try.func22, Try.ntmps22
  go_wp2_with (first | (go_at_call 25; refine hfind.mono ?_; rintro e w' ⟨rfl, rfl⟩) | (go_at_call 29; refine htag.mono ?_; rintro e w' ⟨rfl, rfl⟩))
  go_ret2
  exact ⟨rfl, rfl⟩

set_option maxHeartbeats 400000 in
theorem prev_none (w : World) (pb : Nat) (S : St) (t : Nat) (h : Lies w pb S) (ht : t < 18446744073709551616) (hc : posOf S.ns t = none) :
    Calls Try.prog 22 #[.pointer (some ⟨pb, 0, none⟩), .int .u64 (t : Int)] w fun e w' => e = .returned (.tuple #[.int .u64 0, .int .i64 10]) ∧ w' = w := by
  have hfind := find_any w pb S t h ht
  rw [hc, Option.bind_none] at hfind
  clear hc h
  go_enter Try.func22, Try.ntmps22
  go_wp2_with (go_at_call 25; refine hfind.mono ?_; rintro e w' ⟨rfl, rfl⟩)
  go_ret2
  exact ⟨rfl, rfl⟩

set_option maxHeartbeats 400000 in
theorem len_any (w : World) (pb : Nat) (S : St) (h : Lies w pb S) :
    Calls Try.prog 17 #[.pointer (some ⟨pb, 0, none⟩)] w fun e w' => e = .returned (.int .i64 (S.ns.length : Int)) ∧ w' = w := by
  have hp : w.cell? ⟨pb, 0, none⟩ = some (.map S.mb) := by rw [h.head.cell]; rfl
  have hrun := fun ty => h.map.len ty
  clear h
  go_enter Try.func17, Try.ntmps17
  go_wp2
  go_ret
  exact ⟨rfl, rfl⟩

set_option maxHeartbeats 400000 in
theorem given_any (w : World) (pb : Nat) (S : St) (h : Lies w pb S) :
    Calls Try.prog 18 #[.pointer (some ⟨pb, 0, none⟩)] w fun e w' => e = .returned (.int .u64 (S.given : Int)) ∧ w' = w := by
  have hp : w.cell? ⟨pb, 5, none⟩ = some (.int .u64 (S.given : Int)) := by rw [h.head.cell]; rfl
  clear h
  go_enter Try.func18, Try.ntmps18
  go_wp2
  go_ret
  exact ⟨rfl, rfl⟩

set_option maxHeartbeats 400000 in
theorem writes_any (w : World) (pb : Nat) (S : St) (h : Lies w pb S) :
    Calls Try.prog 12 #[.pointer (some ⟨pb, 0, none⟩)] w fun e w' => e = .returned (.int .u64 (S.writes : Int)) ∧ w' = w := by
  have hp : w.cell? ⟨pb, 6, none⟩ = some (.int .u64 (S.writes : Int)) := by rw [h.head.cell]; rfl
  clear h
  go_enter Try.func12, Try.ntmps12
  go_wp2
  go_ret
  exact ⟨rfl, rfl⟩

end Go.Proofs.Ytkppcnednfjbhaa
