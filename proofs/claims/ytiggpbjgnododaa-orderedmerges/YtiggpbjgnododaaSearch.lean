/- sort.Search and what is asked under a recover. -/
import Derived.Test.YtiggpbjgnododaaBase
import Derived.Recover
import Derived.Defers
namespace Go.Proofs.Ytiggpbjgnododaa
open Go.RowKit
set_option linter.unusedVariables false

set_option maxRecDepth 100000 in
set_option maxHeartbeats 1000000 in
theorem search_any (n k : Nat) (hn : n ≤ 1048576) (hk : k ≤ n) (f : Nat) (caps : Array Value) (p : Nat → Bool) (w : World) (hlo : ∀ i, i < k → p i = false) (hhi : ∀ i, k ≤ i → i < n → p i = true)
    (eg : ∀ args w, (callFunc f args).run Try.prog w = .ok (.enter f args) w)
    (hf : ∀ W, Below w.heap.size w W → ∀ i, i < n → Calls Try.prog f (#[.int .i64 (i : Int)] ++ caps) W fun e W' => e = .returned (.bool (p i)) ∧ Below W.heap.size W W') :
    Calls Try.prog 103 #[.int .i64 (n : Int), .func (.func f) #[] caps] w fun e w' => e = .returned (.int .i64 (k : Int)) ∧ Below w.heap.size w w' := by
  have hn' : (n : Int) ≤ 1048576 := by omega
  have Hlo : Hid (∀ i, i < k → p i = false) := hlo
  have Hhi : Hid (∀ i, k ≤ i → i < n → p i = true) := hhi
  have Hf : Hid (∀ W, Below w.heap.size w W → ∀ i, i < n → Calls Try.prog f (#[.int .i64 (i : Int)] ++ caps) W fun e W' => e = .returned (.bool (p i)) ∧ Below W.heap.size W W') := hf
  clear hlo hhi hf
  go_enter Try.func103, Try.ntmps103
  go_wp2
  go_loopw [5, 6] (fun i j wr => ∃ (lo hi : Nat), lo ≤ k ∧ k ≤ hi ∧ hi ≤ n ∧ i = .int .i64 (lo : Int) ∧ j = .int .i64 (hi : Int) ∧ Hid (Below w.heap.size w wr)) (fun i j _ => (intOf j - intOf i).toNat)
  case atStart => exact ⟨0, n, Nat.zero_le _, hk, Nat.le_refl _, rfl, rfl, Below.refl _ _⟩
  case round =>
    obtain ⟨lo, hi, h1, h2, h3, rfl, rfl, hB⟩ := hrel
    by_cases hlt : lo < hi
    · obtain ⟨h, hh⟩ : ∃ h : Nat, ((lo : Int) + (hi : Int)) / 2 = (h : Int) := ⟨(lo + hi) / 2, by omega⟩
      have hh1 : lo ≤ h := by omega
      have hh2 : h < hi := by omega
      have hc := Hf.out wr hB.out h (by omega)
      by_cases hp : h < k
      · have hpv := Hlo.out h hp
        rw [hpv] at hc
        go_wp2_with fail
        refine hc.mono ?_
        rintro e w1 ⟨rfl, hb⟩
        have HB1 : Hid (Below w.heap.size w w1) := hB.out.trans (hb.mono hB.out.size)
        clear hb hc
        go_wp2
        go_roundw
        case rel => exact ⟨h + 1, hi, by omega, h2, h3, by go_num, rfl, HB1⟩
        case measure => simp [intOf]; omega
      · have hpv := Hhi.out h (by omega) (by omega)
        rw [hpv] at hc
        go_wp2_with fail
        refine hc.mono ?_
        rintro e w1 ⟨rfl, hb⟩
        have HB1 : Hid (Below w.heap.size w w1) := hB.out.trans (hb.mono hB.out.size)
        clear hb hc
        go_wp2
        go_roundw
        case rel => exact ⟨lo, h, h1, by omega, by omega, rfl, rfl, HB1⟩
        case measure => simp [intOf]; omega
    · go_wp2
      go_ret
      exact ⟨congrArg _ (v_int (by omega)), hB.out⟩

theorem idle (w : World) : CallsD Try.prog 106 #[] .returning w fun e u' w' => e = .returned (.tuple #[]) ∧ u' = .returning ∧ w' = w := by
  refine callsD_of_wpS Try.func106 rfl fun c₀ cs hu => ?_
  apply wpS_region
  simp [wpOpsS, go_sem, recoverD, hu, Try.ntmps106]
  cases c₀
  simp_all [bodyPostS, results, Try.results106]

set_option maxRecDepth 100000 in
set_option maxHeartbeats 1000000 in
theorem asked_any (f : Nat) (caps : Array Value) (w : World) (R : World → Prop) (eg : ∀ args w, (callFunc f args).run Try.prog w = .ok (.enter f args) w)
    (hf : Calls Try.prog f caps w fun e w' => (∃ v, e = .returned v) ∧ R w') :
    Calls Try.prog 81 #[.func (.func f) #[] caps] w fun e w' => e = .returned (.bool true) ∧ R w' := by
  have Hf : Hid (Calls Try.prog f caps w fun e w' => (∃ v, e = .returned v) ∧ R w') := hf
  clear hf
  go_enter_defers Try.func81, Try.ntmps81
  go_wp2_with fail
  refine Hf.out.mono ?_
  rintro e w1 ⟨⟨v, rfl⟩, hR⟩
  have HR : Hid (R w1) := hR
  clear hR
  go_wp2
  refine leaves_cons (f := 106) (args := #[]) (by simp) (by simp [go_sem]) ?_
  refine (idle _).mono ?_
  rintro e u' w'' ⟨rfl, rfl, rfl⟩
  exact ⟨_, results_tmp rfl _ _ _, rfl, HR.out⟩

end Go.Proofs.Ytiggpbjgnododaa
