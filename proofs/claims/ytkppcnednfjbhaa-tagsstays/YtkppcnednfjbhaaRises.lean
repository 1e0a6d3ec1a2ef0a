/- Labels rise in the order, each below 2^62, and label writes are as many as may be: the law's own look says so of both lists. -/
import Derived.Test.YtkppcnednfjbhaaDoes
namespace Go.Proofs.Ytkppcnednfjbhaa
open Go.RowKit Go.Maps

set_option maxRecDepth 100000 in
set_option maxHeartbeats 2000000 in
theorem rises_any (B : Nat) (w : World) (pb db : Nat) (S : St) (sl : Option (Nat × Nat)) (T : List Nat) (g : Nat) (h : Both B w pb db S sl T g) (hg : g < 18014398509481984) :
    Calls Try.prog 8 #[.pointer (some ⟨pb, 0, none⟩), .pointer (some ⟨db, 0, none⟩)] w fun e w' => e = .returned (.bool true) ∧ ∃ n, w' = w.drewN n := by
  have hlen := h.p.tlen
  have hlab0 := h.p.label (t := 0) (c := 0) (by omega) rfl
  have hlenC := fun n => (h.drewN n).p.lenC
  have hgivC := fun n => (h.drewN n).p.givenC
  have hwriC := fun n => (h.drewN n).p.writesC
  obtain ⟨a, cap, hv, hgv, hc⟩ := h.d.slice
  have hw1 := h.p.good.lo
  have hw2 := h.p.good.writes
  rw [h.p.given] at hw1 hw2
  have HC : Hid (∀ (i t : Nat), T[i]? = some t → ∃ rb, a = some ⟨rb, 0, none⟩ ∧ w.cell? ⟨rb, i, none⟩ = some (.int .u64 (t : Int))) := hc
  have HP : Hid (Has w pb S T g) := h.p
  have HL : Hid (∀ n t c : Nat, t < 18446744073709551616 → pos T t = some c → Calls Try.prog 11 #[.pointer (some ⟨pb, 0, none⟩), .int .u64 (t : Int)] (w.drewN n) fun e w' => e = .returned (.tuple #[.int .u64 (labAt S.ns c), .int .i64 0]) ∧ w' = w.drewN n) := fun n t c h1 h2 => (h.drewN n).p.label h1 h2
  have HN : Hid (∀ n t : Nat, t < 18446744073709551616 → pos T t = none → Calls Try.prog 11 #[.pointer (some ⟨pb, 0, none⟩), .int .u64 (t : Int)] (w.drewN n) fun e w' => e = .returned (.tuple #[.int .u64 0, .int .i64 10]) ∧ w' = w.drewN n) := fun n t h1 h2 => (h.drewN n).p.label_no h1 h2
  have hd1 : decide (S.writes < g) = false := by simp; omega
  have hq : IntKind.u64.wrap ((S.writes : Int) / 496) = ((S.writes / 496 : Nat) : Int) := by rw [IntKind.wrap_u64]; omega
  have hd2 : decide (g < S.writes / 496) = false := by simp; omega
  have hm : IntKind.u64.wrap (496 * (g : Int)) = ((496 * g : Nat) : Int) := by rw [IntKind.wrap_u64]; omega
  have hd3 : decide (496 * g < S.writes) = false := by simp; omega
  generalize S.writes / 496 = q1 at hq hd2
  generalize 496 * g = q2 at hm hd3
  have hwb : (S.writes : Int) < 18446744073709551616 := by omega
  have e0 : labAt S.ns 0 = 0 := rfl
  rw [e0] at hlab0
  clear hc h e0
  go_enter Try.func8, Try.ntmps8
  go_wp2_with fail
  refine hlab0.mono ?_
  rintro e w2 ⟨rfl, rfl⟩
  clear hlab0
  go_wp2_with fail
  go_quiet ((first | (go_at_call 17; exact Calls.quiet_of_same (hlenC _)) | (go_at_call 18; exact Calls.quiet_of_same (hgivC _)) | (go_at_call 12; exact Calls.quiet_of_same (hwriC _))))
  clear hlenC hgivC hwriC hd1 hd2 hd3 hq hm hwb hw1 hw2
  go_wp2
  go_loop [5, 7] (fun last i => ∃ j : Nat, j ≤ T.length ∧ last = .int .u64 ((labAt S.ns j : Nat) : Int) ∧ i = .int .i64 (j : Int)) (fun _ i => T.length - (intOf i).toNat)
  case atStart => exact ⟨0, Nat.zero_le _, rfl, rfl⟩
  case round =>
    obtain ⟨j, hj, rfl, rfl⟩ := hrel
    by_cases hlt : j < T.length
    · obtain ⟨x, hx⟩ : ∃ x, T[j]? = some x := ⟨_, List.getElem?_eq_getElem hlt⟩
      obtain ⟨rb, ha, hcell⟩ := HC.out j x hx
      subst ha
      have hxm := HP.out.mem (List.mem_of_getElem? hx)
      have hlab := HL.out nq x (j + 1) (by omega) (pos_get HP.out.nodup (by omega) hx)
      have hr1 := HP.out.good.fine.rise j (j + 1) (by omega) (by rw [HP.out.len]; omega)
      have hr2 := HP.out.good.fine.low (j + 1) (by rw [HP.out.len]; omega)
      generalize labAt S.ns j = y at *
      generalize hzz : labAt S.ns (j + 1) = z at *
      have Hzz : Hid (labAt S.ns (j + 1) = z) := hzz
      clear hzz hx hxm
      go_wp2_with fail
      refine hlab.mono ?_
      rintro e w3 ⟨rfl, rfl⟩
      go_wp2
      go_round
      case rel => exact ⟨j + 1, by omega, by rw [Hzz.out], by go_num⟩
      case measure => simp [intOf]; omega
    · have hlab := HN.out nq (g + 1) (by omega) (pos_none_of (by omega) (fun hm => by have := (HP.out.mem hm).2; omega))
      go_wp2_with fail
      refine hlab.mono ?_
      rintro e w3 ⟨rfl, rfl⟩
      go_wp2
      go_ret
      exact ⟨rfl, nq, rfl⟩

end Go.Proofs.Ytkppcnednfjbhaa
