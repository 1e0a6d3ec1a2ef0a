/- Small functions, and those that make iterators. -/
import Derived.Test.YtjkgjckkglfokaaFlat
import Derived.Test.YtjkgjckkglfokaaCnt
namespace Go.Proofs.Ytjkgjckkglfokaa
open Go.RowKit Go.Shelf
set_option linter.unusedVariables false

set_option maxRecDepth 100000 in
set_option maxHeartbeats 1000000 in
theorem mk_only (w : World) (gf : Nat) (lb : Array Value) (mf : Nat) (ml : Array Value) : Calls Try.prog 42 #[.func (.func gf) #[] lb, .func (.func mf) #[] ml] w fun e w' => e = .returned (.func (.func 91) #[] #[.pointer (some ⟨w.heap.size, 0, none⟩), .pointer (some ⟨w.heap.size + 1, 0, none⟩)]) ∧ w' = (w.alloc (.cells #[.func (.func gf) #[] lb] 50)).alloc (.cells #[.func (.func mf) #[] ml] 63) := by
  have hmf : ∀ (fn : Fn) (first cap : Array Value) (w : World), (Instr.makeFunc fn first cap).run Try.prog w = .ok (.func fn first cap) w := fun _ _ _ _ => rfl
  go_enter Try.func42, Try.ntmps42
  go_wp2
  go_ret
  exact ⟨rfl, rfl⟩

set_option maxRecDepth 100000 in
set_option maxHeartbeats 1000000 in
theorem mk_only_nil (w : World) (gf : Nat) (lb : Array Value) : Calls Try.prog 42 #[.func (.func gf) #[] lb, .nilFunc] w fun e w' => e = .returned (.func (.func 91) #[] #[.pointer (some ⟨w.heap.size, 0, none⟩), .pointer (some ⟨w.heap.size + 1, 0, none⟩)]) ∧ w' = (w.alloc (.cells #[.func (.func gf) #[] lb] 50)).alloc (.cells #[.nilFunc] 63) := by
  have hmf : ∀ (fn : Fn) (first cap : Array Value) (w : World), (Instr.makeFunc fn first cap).run Try.prog w = .ok (.func fn first cap) w := fun _ _ _ _ => rfl
  go_enter Try.func42, Try.ntmps42
  go_wp2
  go_ret
  exact ⟨rfl, rfl⟩

set_option maxRecDepth 100000 in
set_option maxHeartbeats 1000000 in
theorem mk_only_none (w : World) (mf : Nat) (ml : Array Value) : Calls Try.prog 42 #[.nilFunc, .func (.func mf) #[] ml] w fun e w' => e = .returned (.func (.func 91) #[] #[.pointer (some ⟨w.heap.size, 0, none⟩), .pointer (some ⟨w.heap.size + 1, 0, none⟩)]) ∧ w' = (w.alloc (.cells #[.nilFunc] 50)).alloc (.cells #[.func (.func mf) #[] ml] 63) := by
  have hmf : ∀ (fn : Fn) (first cap : Array Value) (w : World), (Instr.makeFunc fn first cap).run Try.prog w = .ok (.func fn first cap) w := fun _ _ _ _ => rfl
  go_enter Try.func42, Try.ntmps42
  go_wp2
  go_ret
  exact ⟨rfl, rfl⟩

set_option maxRecDepth 100000 in
set_option maxHeartbeats 1000000 in
theorem mk_map (w : World) (gf : Nat) (lb : Array Value) (mf : Nat) (ml : Array Value) : Calls Try.prog 23 #[.func (.func gf) #[] lb, .func (.func mf) #[] ml] w fun e w' => e = .returned (.func (.func 65) #[] #[.pointer (some ⟨w.heap.size, 0, none⟩), .pointer (some ⟨w.heap.size + 1, 0, none⟩)]) ∧ w' = (w.alloc (.cells #[.func (.func gf) #[] lb] 50)).alloc (.cells #[.func (.func mf) #[] ml] 68) := by
  have hmf : ∀ (fn : Fn) (first cap : Array Value) (w : World), (Instr.makeFunc fn first cap).run Try.prog w = .ok (.func fn first cap) w := fun _ _ _ _ => rfl
  go_enter Try.func23, Try.ntmps23
  go_wp2
  go_ret
  exact ⟨rfl, rfl⟩

set_option maxRecDepth 100000 in
set_option maxHeartbeats 1000000 in
theorem mk_map_nil (w : World) (gf : Nat) (lb : Array Value) : Calls Try.prog 23 #[.func (.func gf) #[] lb, .nilFunc] w fun e w' => e = .returned (.func (.func 65) #[] #[.pointer (some ⟨w.heap.size, 0, none⟩), .pointer (some ⟨w.heap.size + 1, 0, none⟩)]) ∧ w' = (w.alloc (.cells #[.func (.func gf) #[] lb] 50)).alloc (.cells #[.nilFunc] 68) := by
  have hmf : ∀ (fn : Fn) (first cap : Array Value) (w : World), (Instr.makeFunc fn first cap).run Try.prog w = .ok (.func fn first cap) w := fun _ _ _ _ => rfl
  go_enter Try.func23, Try.ntmps23
  go_wp2
  go_ret
  exact ⟨rfl, rfl⟩

set_option maxRecDepth 100000 in
set_option maxHeartbeats 1000000 in
theorem mk_map_none (w : World) (mf : Nat) (ml : Array Value) : Calls Try.prog 23 #[.nilFunc, .func (.func mf) #[] ml] w fun e w' => e = .returned (.func (.func 65) #[] #[.pointer (some ⟨w.heap.size, 0, none⟩), .pointer (some ⟨w.heap.size + 1, 0, none⟩)]) ∧ w' = (w.alloc (.cells #[.nilFunc] 50)).alloc (.cells #[.func (.func mf) #[] ml] 68) := by
  have hmf : ∀ (fn : Fn) (first cap : Array Value) (w : World), (Instr.makeFunc fn first cap).run Try.prog w = .ok (.func fn first cap) w := fun _ _ _ _ => rfl
  go_enter Try.func23, Try.ntmps23
  go_wp2
  go_ret
  exact ⟨rfl, rfl⟩

set_option maxRecDepth 100000 in
set_option maxHeartbeats 1000000 in
theorem mk_flat (w : World) (gf : Nat) (lb : Array Value) (mf : Nat) (ml : Array Value) : Calls Try.prog 46 #[.func (.func gf) #[] lb, .func (.func mf) #[] ml] w fun e w' => e = .returned (.func (.func 92) #[] #[.pointer (some ⟨w.heap.size, 0, none⟩), .pointer (some ⟨w.heap.size + 1, 0, none⟩)]) ∧ w' = (w.alloc (.cells #[.func (.func gf) #[] lb] 50)).alloc (.cells #[.func (.func mf) #[] ml] 92) := by
  have hmf : ∀ (fn : Fn) (first cap : Array Value) (w : World), (Instr.makeFunc fn first cap).run Try.prog w = .ok (.func fn first cap) w := fun _ _ _ _ => rfl
  go_enter Try.func46, Try.ntmps46
  go_wp2
  go_ret
  exact ⟨rfl, rfl⟩

set_option maxRecDepth 100000 in
set_option maxHeartbeats 1000000 in
theorem mk_flat_nil (w : World) (gf : Nat) (lb : Array Value) : Calls Try.prog 46 #[.func (.func gf) #[] lb, .nilFunc] w fun e w' => e = .returned (.func (.func 92) #[] #[.pointer (some ⟨w.heap.size, 0, none⟩), .pointer (some ⟨w.heap.size + 1, 0, none⟩)]) ∧ w' = (w.alloc (.cells #[.func (.func gf) #[] lb] 50)).alloc (.cells #[.nilFunc] 92) := by
  have hmf : ∀ (fn : Fn) (first cap : Array Value) (w : World), (Instr.makeFunc fn first cap).run Try.prog w = .ok (.func fn first cap) w := fun _ _ _ _ => rfl
  go_enter Try.func46, Try.ntmps46
  go_wp2
  go_ret
  exact ⟨rfl, rfl⟩

set_option maxRecDepth 100000 in
set_option maxHeartbeats 1000000 in
theorem mk_flat_none (w : World) (mf : Nat) (ml : Array Value) : Calls Try.prog 46 #[.nilFunc, .func (.func mf) #[] ml] w fun e w' => e = .returned (.func (.func 92) #[] #[.pointer (some ⟨w.heap.size, 0, none⟩), .pointer (some ⟨w.heap.size + 1, 0, none⟩)]) ∧ w' = (w.alloc (.cells #[.nilFunc] 50)).alloc (.cells #[.func (.func mf) #[] ml] 92) := by
  have hmf : ∀ (fn : Fn) (first cap : Array Value) (w : World), (Instr.makeFunc fn first cap).run Try.prog w = .ok (.func fn first cap) w := fun _ _ _ _ => rfl
  go_enter Try.func46, Try.ntmps46
  go_wp2
  go_ret
  exact ⟨rfl, rfl⟩

set_option maxRecDepth 100000 in
set_option maxHeartbeats 1000000 in
theorem mk_most (w : World) (gf : Nat) (lb : Array Value) (n : Int) : Calls Try.prog 22 #[.func (.func gf) #[] lb, .int .i64 n] w fun e w' => e = .returned (.func (.func 64) #[] #[.pointer (some ⟨w.heap.size, 0, none⟩), .pointer (some ⟨w.heap.size + 1, 0, none⟩)]) ∧ w' = (w.alloc (.cells #[.func (.func gf) #[] lb] 50)).alloc (.cells #[.int .i64 n] 3) := by
  have hmf : ∀ (fn : Fn) (first cap : Array Value) (w : World), (Instr.makeFunc fn first cap).run Try.prog w = .ok (.func fn first cap) w := fun _ _ _ _ => rfl
  go_enter Try.func22, Try.ntmps22
  go_wp2
  go_ret
  exact ⟨rfl, rfl⟩

set_option maxRecDepth 100000 in
set_option maxHeartbeats 1000000 in
theorem mk_most_none (w : World) (n : Int) : Calls Try.prog 22 #[.nilFunc, .int .i64 n] w fun e w' => e = .returned (.func (.func 64) #[] #[.pointer (some ⟨w.heap.size, 0, none⟩), .pointer (some ⟨w.heap.size + 1, 0, none⟩)]) ∧ w' = (w.alloc (.cells #[.nilFunc] 50)).alloc (.cells #[.int .i64 n] 3) := by
  have hmf : ∀ (fn : Fn) (first cap : Array Value) (w : World), (Instr.makeFunc fn first cap).run Try.prog w = .ok (.func fn first cap) w := fun _ _ _ _ => rfl
  go_enter Try.func22, Try.ntmps22
  go_wp2
  go_ret
  exact ⟨rfl, rfl⟩

set_option maxRecDepth 100000 in
set_option maxHeartbeats 1000000 in
theorem mk_pairs (w : World) (gf : Nat) (lb : Array Value) (mf : Nat) (ml : Array Value) : Calls Try.prog 17 #[.func (.func gf) #[] lb, .func (.func mf) #[] ml] w fun e w' => e = .returned (.func (.func 53) #[] #[.pointer (some ⟨w.heap.size, 0, none⟩), .pointer (some ⟨w.heap.size + 1, 0, none⟩)]) ∧ w' = (w.alloc (.cells #[.func (.func gf) #[] lb] 50)).alloc (.cells #[.func (.func mf) #[] ml] 50) := by
  have hmf : ∀ (fn : Fn) (first cap : Array Value) (w : World), (Instr.makeFunc fn first cap).run Try.prog w = .ok (.func fn first cap) w := fun _ _ _ _ => rfl
  go_enter Try.func17, Try.ntmps17
  go_wp2
  go_ret
  exact ⟨rfl, rfl⟩

set_option maxRecDepth 100000 in
set_option maxHeartbeats 1000000 in
theorem mk_pairs_none (w : World)  : Calls Try.prog 17 #[.nilFunc, .nilFunc] w fun e w' => e = .returned (.func (.func 53) #[] #[.pointer (some ⟨w.heap.size, 0, none⟩), .pointer (some ⟨w.heap.size + 1, 0, none⟩)]) ∧ w' = (w.alloc (.cells #[.nilFunc] 50)).alloc (.cells #[.nilFunc] 50) := by
  have hmf : ∀ (fn : Fn) (first cap : Array Value) (w : World), (Instr.makeFunc fn first cap).run Try.prog w = .ok (.func fn first cap) w := fun _ _ _ _ => rfl
  go_enter Try.func17, Try.ntmps17
  go_wp2
  go_ret
  exact ⟨rfl, rfl⟩

set_option maxRecDepth 100000 in
set_option maxHeartbeats 1000000 in
theorem mk_counted (w : World) (a : Option Addr) (n cap : Nat) (p : Option Addr) : Calls Try.prog 13 #[.slice a n cap, .pointer p] w fun e w' => e = .returned (.func (.func 41) #[] #[.pointer (some ⟨w.heap.size, 0, none⟩), .pointer (some ⟨w.heap.size + 1, 0, none⟩)]) ∧ w' = (w.alloc (.cells #[.slice a n cap] 47)).alloc (.cells #[.pointer p] 52) := by
  have hmf : ∀ (fn : Fn) (first cap : Array Value) (w : World), (Instr.makeFunc fn first cap).run Try.prog w = .ok (.func fn first cap) w := fun _ _ _ _ => rfl
  go_enter Try.func13, Try.ntmps13
  go_wp2
  go_ret
  exact ⟨rfl, rfl⟩

/-- How often Flat tells a number. -/
def oft (x : Int) : Nat := if x < 0 then 0 else (x % 4).toNat
theorem often_any (w : World) (x : Int) : Calls Try.prog 47 #[.int .i64 x] w fun e w' => e = .returned (.int .i64 (oft x : Int)) ∧ w' = w := by
  by_cases h : x < 0
  · go_enter Try.func47, Try.ntmps47
    go_wp2
    go_ret
    exact ⟨by simp [oft, h], rfl⟩
  · go_enter Try.func47, Try.ntmps47
    go_wp2
    go_ret
    refine ⟨congrArg (fun v => Ending.returned (.int .i64 v)) (?_ : x % 4 = (oft x : Int)), rfl⟩
    unfold oft
    rw [if_neg (by omega)]
    omega
/-- Whether a number divides another one. -/
def dvd0 (a b : Int) : Bool := a == 0 || b.tmod a == 0
theorem divides_any (w : World) (a b : Int) : Calls Try.prog 43 #[.int .i64 a, .int .i64 b] w fun e w' => e = .returned (.bool (dvd0 a b)) ∧ w' = w := by
  by_cases h : a = 0
  · have hb : (a == 0) = true := by simp [h]
    have HD : Hid (dvd0 a b = true) := by show _ = _; simp [dvd0, h]
    clear h
    go_enter Try.func43, Try.ntmps43
    go_wp2
    go_ret
    rw [HD.out]
    exact ⟨rfl, rfl⟩
  · have hb : (a == 0) = false := by simp [h]
    go_enter Try.func43, Try.ntmps43
    go_wp2
    go_ret
    exact ⟨congrArg (fun v => Ending.returned (.bool v)) (by simp [dvd0, hb] : (b.tmod a == 0) = dvd0 a b), rfl⟩

/-- A link of the law, in its block. -/
def LinkC (kd ag : Int) (ma : Option Addr) (mn mc : Nat) (nl : Bool) : Array Value := #[.int .i64 kd, .int .i64 ag, .slice ma mn mc, .bool nl]
theorem isC_stab {kb : Nat} {cs : Array Value} : ∀ W W' A, IsC W kb cs → Tn A W W' → (∀ b, b = kb → ¬ A b) → IsC W' kb cs := fun _ _ _ h ht hA => h.tn ht (hA _ rfl)

set_option maxRecDepth 100000 in
set_option maxHeartbeats 1000000 in
theorem div_fn {kb : Nat} {kd ag : Int} {ma : Option Addr} {mn mc : Nat} {nl : Bool} : IsFn Try.prog 44 #[.pointer (some ⟨kb, 0, none⟩)] (fun x => .bool (dvd0 ag x)) (fun b => b = kb) (fun W => IsC W kb (LinkC kd ag ma mn mc nl)) := by
  refine ⟨enters_of Try.func44 (by kernel_rfl) rfl, fun W h b hb => hb ▸ h.lt, isC_stab, fun W x h => ?_⟩
  have c1 : W.cell? ⟨kb, 1, none⟩ = some (.int .i64 ag) := h.cell 1
  have hl := h.lt
  have hd := divides_any W ag x
  clear h
  simp only [List.append_toArray, List.cons_append, List.nil_append]
  go_enter Try.func44, Try.ntmps44
  go_wp2_with fail
  refine hd.mono ?_
  rintro e w' ⟨rfl, rfl⟩
  go_wp2
  go_ret
  exact ⟨rfl, Below.refl _ _⟩
set_option maxRecDepth 100000 in
set_option maxHeartbeats 1000000 in
theorem add_fn {kb : Nat} {kd ag : Int} {ma : Option Addr} {mn mc : Nat} {nl : Bool} : IsFn Try.prog 45 #[.pointer (some ⟨kb, 0, none⟩)] (fun x => .int .i64 (wrap64 (x + ag))) (fun b => b = kb) (fun W => IsC W kb (LinkC kd ag ma mn mc nl)) := by
  refine ⟨enters_of Try.func45 (by kernel_rfl) rfl, fun W h b hb => hb ▸ h.lt, isC_stab, fun W x h => ?_⟩
  have c1 : W.cell? ⟨kb, 1, none⟩ = some (.int .i64 ag) := h.cell 1
  have hl := h.lt
  clear h
  simp only [List.append_toArray, List.cons_append, List.nil_append]
  go_enter Try.func45, Try.ntmps45
  go_wp2
  go_ret
  exact ⟨rfl, Below.refl _ _⟩

theorem rep_take {k m : Nat} {x : Int} (h : k < m) : List.replicate k x ++ [x] = List.replicate (k + 1) x ∧ List.replicate k x ++ [x] <+: List.replicate m x := by
  have e : List.replicate k x ++ [x] = List.replicate (k + 1) x := (List.replicate_succ' ..).symm
  refine ⟨e, ?_⟩
  rw [e]
  obtain ⟨d, rfl⟩ : ∃ d, m = k + 1 + d := ⟨m - (k + 1), by omega⟩
  exact ⟨List.replicate d x, List.replicate_append_replicate⟩

set_option maxRecDepth 100000 in
set_option maxHeartbeats 2000000 in
theorem rep_seq {xb : Nat} {x : Int} : IsSeq Try.prog 49 #[.pointer (some ⟨xb, 0, none⟩)] encI (List.replicate (oft x) x) (fun b => b = xb) (fun _ => False) (fun W => IsC W xb #[.int .i64 x]) := by
  refine ⟨fun b hb => hb.elim, fun W h b hb => hb ▸ h.lt, isC_stab, ?_⟩
  intro W l J Jx C0 D hq stJ stJx hY h0 hd hdT
  have HY : Hid (RoundOk Try.prog l encI (List.replicate (oft x) x) J Jx) := hY
  have HD : Hid (∀ b, C0 b → ¬ b = xb) := hd
  have HW0 : Hid (∃ C, Way J C0 (fun _ => False) (fun _ => True) (fun W => IsC W xb #[.int .i64 x]) W (List.replicate 0 x) W C) := ⟨C0, h0, fun _ h => .inl h, Tn.refl _ _, hq⟩
  have hlW := hq.lt
  have hof : (oft x : Int) ≤ 3 := by unfold oft; split <;> omega
  clear hdT hY hd stJ stJx h0 hq
  refine callsIn_of_wp Try.func49 rfl trivial ?_ rfl
  simp only [Try.ntmps49, List.size_toArray, List.length_cons, List.length_nil, Nat.reduceAdd, Nat.reduceSub, Array.replicate_succ, Array.replicate_zero, List.push_toArray, List.append_toArray, List.nil_append, List.cons_append]
  gi_wp2
  gi_loopw [3] (fun i wr => ∃ k : Nat, k ≤ oft x ∧ i = .int .i64 (k : Int) ∧ Hid (∃ C, Way J C0 (fun _ => False) (fun _ => True) (fun W => IsC W xb #[.int .i64 x]) W (List.replicate k x) wr C)) (fun i _ => oft x - (intOf i).toNat)
  case atStart => exact ⟨0, Nat.zero_le _, rfl, HW0⟩
  case round =>
    clear HW0
    obtain ⟨k, hk, rfl, HWk⟩ := hrel
    obtain ⟨C, hway⟩ := HWk.out
    have c1 : wr.cell? ⟨xb, 0, none⟩ = some (.int .i64 x) := hway.sq.cell 0
    have hof2 := often_any wr x
    have HWY : Hid (Way J C0 (fun _ => False) (fun _ => True) (fun W => IsC W xb #[.int .i64 x]) W (List.replicate k x) wr C) := hway
    have hxl := hway.sq.lt
    clear hway HWk
    by_cases hlt : k < oft x
    · have hk1 : (k : Int) < (oft x : Int) := by omega
      have HE := rep_take (x := x) hlt
      have hX := HY.out _ x C wr HE.2 HWY.out.j
      unfold encI at hX
      obtain ⟨fn, tmps, assign, body, hy2, hR⟩ := hX
      have HE' : Hid (List.replicate k x ++ [x] = List.replicate (k + 1) x ∧ List.replicate k x ++ [x] <+: List.replicate (oft x) x) := HE
      clear HE
      gi_wp2_with fail
      refine ⟨trivial, rfl, (callsIn_wide.2 hof2).mono ?_⟩
      rintro e w2 ⟨rfl, rfl⟩
      gi_wp2_with fail
      refine ⟨rfl, RoundIn.mono (F := Fence.wide) hR ?_⟩
      rintro e Y ⟨C', tY, hC', hJ2⟩
      obtain ⟨bv, rfl, hJ3⟩ := yes_no hJ2
      have HYW : Hid (∀ J' : Inv Int, J' (List.replicate k x ++ [x]) C' Y → Way J' C0 (fun _ => False) (fun _ => True) (fun W => IsC W xb #[.int .i64 x]) W (List.replicate (k + 1) x) Y C') := fun J' h => by
        have hs1 := HWY.out.tn.size
        refine ⟨by rw [← HE'.out.1]; exact h, fun b hb => ?_, HWY.out.tn.trans tY (fun i hi h => (HWY.out.sub i h).elim .inr (fun h => by omega)), HWY.out.sq.tn tY (fun h => (HWY.out.sub xb h).elim (fun h => HD.out _ h rfl) (fun h => by omega))⟩
        rcases hC' b hb with h | h
        · exact HWY.out.sub b h
        · exact .inr (by omega)
      have HJ3 : Hid ((bv = true → J (List.replicate k x ++ [x]) C' Y) ∧ (bv = false → Jx (List.replicate k x ++ [x]) C' Y)) := hJ3
      clear hJ2 hJ3 tY hC' hR
      cases bv with
      | true =>
        have HG : Hid (∃ C, Way J C0 (fun _ => False) (fun _ => True) (fun W => IsC W xb #[.int .i64 x]) W (List.replicate (k + 1) x) Y C) := ⟨C', HYW.out J (HJ3.out.1 rfl)⟩
        clear HYW HJ3
        gi_wp2
        go_roundw
        case rel => exact ⟨k + 1, by omega, by go_num, HG⟩
        case measure => simp [intOf]; omega
      | false =>
        have HG : Hid (Way Jx C0 (fun _ => False) (fun _ => True) (fun W => IsC W xb #[.int .i64 x]) W (List.replicate (k + 1) x) Y C') := HYW.out Jx (HJ3.out.2 rfl)
        clear HYW HJ3
        gi_wp2
        go_end0
        exact ⟨⟨_, rfl⟩, HG.out.tn, HG.out.sq, C', HG.out.sub, .inr ⟨_, by rw [← HE'.out.1]; exact HE'.out.2, HG.out.j⟩⟩
    · obtain rfl : k = oft x := by omega
      have hk1 : ¬ ((oft x : Nat) : Int) < (oft x : Int) := by omega
      gi_wp2_with fail
      refine ⟨trivial, rfl, (callsIn_wide.2 hof2).mono ?_⟩
      rintro e w2 ⟨rfl, rfl⟩
      gi_wp2
      refine ⟨by simp, ?_⟩
      gi_wp2
      go_end0
      exact ⟨⟨_, rfl⟩, HWY.out.tn, HWY.out.sq, C, HWY.out.sub, .inl HWY.out.j⟩

end Go.Proofs.Ytjkgjckkglfokaa
