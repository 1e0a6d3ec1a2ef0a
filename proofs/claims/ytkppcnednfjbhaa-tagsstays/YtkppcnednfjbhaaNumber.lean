/- What 'number' does: a place that was just linked in gets its first label, in the gap that it stands in, or by a spread where the gap has closed. -/
import Derived.Test.YtkppcnednfjbhaaSpread
namespace Go.Proofs.Ytkppcnednfjbhaa
open Go.RowKit Go.Maps

/-- The label up to which there is room behind the chain's place c. -/
def roof (ns : List Nd) (c : Nat) : Nat := if c < ns.length then labAt ns (c + 1) else 4611686018427387904

set_option maxHeartbeats 400000 in
theorem behind_nil (w : World) (b o : Nat) (h : w.cell? ⟨b, o + 3, none⟩ = some (.pointer none)) : Calls Try.prog 30 #[.pointer (some ⟨b, o, none⟩)] w fun e w' => e = .returned (.int .u64 4611686018427387904) ∧ w' = w := by
  go_enter Try.func30, Try.ntmps30
  go_wp2
  go_ret
  exact ⟨rfl, rfl⟩

set_option maxHeartbeats 400000 in
theorem behind_some (w : World) (b o b2 o2 x : Nat) (h : w.cell? ⟨b, o + 3, none⟩ = some (.pointer (some ⟨b2, o2, none⟩))) (h2 : w.cell? ⟨b2, o2 + 1, none⟩ = some (.int .u64 (x : Int))) : Calls Try.prog 30 #[.pointer (some ⟨b, o, none⟩)] w fun e w' => e = .returned (.int .u64 (x : Int)) ∧ w' = w := by
  go_enter Try.func30, Try.ntmps30
  go_wp2
  go_ret
  exact ⟨rfl, rfl⟩

theorem behind_any (w : World) (pb : Nat) (S : St) (c b o : Nat) (h : Lies w pb S) (hc : c ≤ S.ns.length) (hb : prevOf pb S.ns c = some ⟨b, o, none⟩) : Calls Try.prog 30 #[.pointer (some ⟨b, o, none⟩)] w fun e w' => e = .returned (.int .u64 (roof S.ns c : Int)) ∧ w' = w := by
  obtain ⟨b1, o1, hb1, -, -, -, hn, -⟩ := h.place hc
  rw [hb] at hb1
  simp only [Option.some.injEq, Addr.mk.injEq] at hb1
  obtain ⟨rfl, rfl, _⟩ := hb1
  by_cases hlt : c < S.ns.length
  · obtain ⟨b2, o2, hb2, -, hl2, -⟩ := h.place (c := c + 1) hlt
    rw [show ptrN S.ns c = some ⟨b2, o2, none⟩ from hb2] at hn
    rw [show roof S.ns c = labAt S.ns (c + 1) from if_pos hlt]
    exact behind_some w b o b2 o2 _ hn hl2
  · rw [show ptrN S.ns c = none from by simp [ptrN]; omega] at hn
    rw [show roof S.ns c = 4611686018427387904 from if_neg hlt]
    exact behind_nil w b o hn

theorem min_lt {a : Int} (h : a < 281474976710656) : min a 281474976710656 = a := by omega

set_option maxHeartbeats 1000000 in
theorem number_any (w : World) (pb : Nat) (S : St) (q : Nat) (n : Nd) (h : Lies w pb S) (hn : S.ns[q]? = some n) (hlen : S.ns.length ≤ 8192) (hwr : S.writes + 8192 < 18446744073709551616)
    (hlab : ∀ c, 1 ≤ c → c ≤ S.ns.length → labAt S.ns c < 4611686018427387904) (hup : ∀ c, q + 2 ≤ c → c ≤ S.ns.length → labAt S.ns q ≤ labAt S.ns c) (htag : ∀ c, 1 ≤ c → c ≤ S.ns.length → tagAt S.ns c ≠ 0) :
    Calls Try.prog 27 #[.pointer (some ⟨pb, 0, none⟩), .pointer (prevOf pb S.ns (q + 1))] w fun e w' => e = .returned (.tuple #[]) ∧ Turn (Own pb S) w w' ∧
      ((2 ≤ roof S.ns (q + 1) - labAt S.ns q ∧ Lies w' pb (S.put q n (labAt S.ns q + min ((roof S.ns (q + 1) - labAt S.ns q) / 2) 281474976710656))) ∨ (roof S.ns (q + 1) - labAt S.ns q < 2 ∧ Found S q w' pb)) := by
  have hq : q < S.ns.length := (List.getElem?_eq_some_iff.1 hn).1
  have hp : prevOf pb S.ns (q + 1) = some ⟨n.blk, 0, none⟩ := by simp [prevOf, ptrN, hn]
  obtain ⟨b, o, hb, -, -, hpv, -⟩ := h.place (c := q + 1) (by omega)
  rw [hp] at hb
  simp only [Option.some.injEq, Addr.mk.injEq] at hb
  obtain ⟨rfl, rfl, _⟩ := hb
  obtain ⟨b0, o0, hb0, -, hl0, -⟩ := h.place (c := q) (by omega)
  simp only [backOf] at hpv
  rw [hb0] at hpv
  have hbehind := fun nq => behind_any (w.drewN nq) pb S (q + 1) n.blk 0 (h.drewN nq) (by omega) hp
  have hspread := fun nq => spread_any (w.drewN nq) pb S q (h.drewN nq) hq hlen hwr hlab hup htag
  have hwrite := fun nq l => write_any (w.drewN nq) pb S q n l (h.drewN nq) hn (by omega)
  rw [hp] at hspread ⊢
  have hx0 : labAt S.ns q < 4611686018427387904 := by
    cases q with
    | zero => simp [labAt]
    | succ i => exact hlab _ (by omega) (by omega)
  have hr : labAt S.ns q ≤ roof S.ns (q + 1) ∧ roof S.ns (q + 1) ≤ 4611686018427387904 := by
    unfold roof
    split
    · exact ⟨hup _ (by omega) (by omega), Nat.le_of_lt (hlab _ (by omega) (by omega))⟩
    · exact ⟨by omega, Nat.le_refl _⟩
  generalize hxx : labAt S.ns q = x at *
  generalize hrr : roof S.ns (q + 1) = r at *
  obtain ⟨hr1, hr2⟩ := hr
  clear hlab hup htag hb0 hp hxx hrr h hn
  by_cases hgap : r - x < 2
  · have hgap' : (r : Int) - (x : Int) < 2 := by omega
    have hg0 : (x : Int) ≤ (r : Int) := by omega
    go_enter Try.func27, Try.ntmps27
    go_wp2_with fail
    go_quiet ((go_at_call 30; exact Calls.quiet_of_same (hbehind _)))
    go_wp2_with fail
    refine (hspread _).mono ?_
    rintro e w' ⟨rfl, hF, hT⟩
    have HF : Hid (Found S q w' pb) := hF
    have HT : Hid (Turn (Own pb S) w w') := ⟨hT.os, hT.tape, hT.output, hT.size, hT.block⟩
    clear hF hT
    go_wp2
    (try simp only [Exit.inBlock, Exit.then])
    exact bodyPost_ret (results_none rfl _ _ _) rfl ⟨rfl, HT.out, .inr ⟨hgap, HF.out⟩⟩
  · have hgap' : 2 ≤ (r : Int) - (x : Int) := by omega
    have hg0 : (x : Int) ≤ (r : Int) := by omega
    by_cases hm : (r - x) / 2 ≤ 281474976710656
    · have hm' : ((r : Int) - (x : Int)) / 2 ≤ 281474976710656 := by omega
      obtain ⟨y, hy⟩ : ∃ y, y = x + min ((r - x) / 2) 281474976710656 := ⟨_, rfl⟩
      have hye : Hid ((x : Int) + ((r : Int) - (x : Int)) / 2 = (y : Int)) := by show _ = _; omega
      rw [← hy]
      clear hy
      go_enter Try.func27, Try.ntmps27
      go_wp2_with fail
      go_quiet ((go_at_call 30; exact Calls.quiet_of_same (hbehind _)))
      go_wp2_with fail
      rw [hye.out]
      refine (hwrite _ y).mono ?_
      rintro e w' ⟨rfl, hL, hT⟩
      have HL : Hid (Lies w' pb (S.put q n y)) := hL
      have HT : Hid (Turn (Own pb S) w w') := ⟨hT.os, hT.tape, hT.output, hT.size, hT.block⟩
      clear hL hT
      go_wp2
      go_end0
      exact ⟨rfl, HT.out, .inl ⟨by omega, HL.out⟩⟩
    · have hm' : 281474976710656 < ((r : Int) - (x : Int)) / 2 := by omega
      obtain ⟨y, hy⟩ : ∃ y, y = x + min ((r - x) / 2) 281474976710656 := ⟨_, rfl⟩
      have hye : Hid ((x : Int) + 281474976710656 = (y : Int)) := by show _ = _; omega
      rw [← hy]
      clear hy
      go_enter Try.func27, Try.ntmps27
      go_wp2_with fail
      go_quiet ((go_at_call 30; exact Calls.quiet_of_same (hbehind _)))
      go_wp2_with fail
      rw [hye.out]
      refine (hwrite _ y).mono ?_
      rintro e w' ⟨rfl, hL, hT⟩
      have HL : Hid (Lies w' pb (S.put q n y)) := hL
      have HT : Hid (Turn (Own pb S) w w') := ⟨hT.os, hT.tape, hT.output, hT.size, hT.block⟩
      clear hL hT
      go_wp2
      go_end0
      exact ⟨rfl, HT.out, .inl ⟨by omega, HL.out⟩⟩

end Go.Proofs.Ytkppcnednfjbhaa
