/- All, From, Back of a list of items, as they are ranged over. -/
import Derived.Test.YtiggpbjgnododaaTfr
namespace Go.Proofs.Ytiggpbjgnododaa.T
open Go.RowKit Go.Shelf
set_option linter.unusedVariables false
attribute [local go_sem] Oper.semAt_some

set_option maxRecDepth 100000 in
set_option maxHeartbeats 1000000 in
theorem sall_any (w : World) (a : Option Addr) (n cap : Nat) : Calls Try.prog 48 #[.slice a n cap] w fun e w' => e = .returned (.func (.func 76) #[] #[.pointer (some ⟨w.heap.size, 0, none⟩)]) ∧ w' = w.alloc (.cells #[.slice a n cap] 31) := by
  have hmf : ∀ (fn : Fn) (first cap : Array Value) (w : World), (Instr.makeFunc fn first cap).run Try.prog w = .ok (.func fn first cap) w := fun _ _ _ _ => rfl
  go_enter Try.func48, Try.ntmps48
  go_wp2
  go_ret
  exact ⟨rfl, rfl⟩

set_option maxRecDepth 100000 in
set_option maxHeartbeats 1000000 in
theorem svalues_any (w : World) (a : Option Addr) (n cap : Nat) : Calls Try.prog 99 #[.slice a n cap] w fun e w' => e = .returned (.func (.func 113) #[] #[.pointer (some ⟨w.heap.size, 0, none⟩)]) ∧ w' = w.alloc (.cells #[.slice a n cap] 31) := by
  have hmf : ∀ (fn : Fn) (first cap : Array Value) (w : World), (Instr.makeFunc fn first cap).run Try.prog w = .ok (.func fn first cap) w := fun _ _ _ _ => rfl
  go_enter Try.func99, Try.ntmps99
  go_wp2
  go_ret
  exact ⟨rfl, rfl⟩

set_option maxRecDepth 100000 in
set_option maxHeartbeats 1000000 in
theorem sback_any (w : World) (a : Option Addr) (n cap : Nat) : Calls Try.prog 101 #[.slice a n cap] w fun e w' => e = .returned (.func (.func 114) #[] #[.pointer (some ⟨w.heap.size, 0, none⟩)]) ∧ w' = w.alloc (.cells #[.slice a n cap] 31) := by
  have hmf : ∀ (fn : Fn) (first cap : Array Value) (w : World), (Instr.makeFunc fn first cap).run Try.prog w = .ok (.func fn first cap) w := fun _ _ _ _ => rfl
  go_enter Try.func101, Try.ntmps101
  go_wp2
  go_ret
  exact ⟨rfl, rfl⟩

set_option maxRecDepth 100000 in
set_option maxHeartbeats 1000000 in
theorem pall_any (w : World) (p : Option Addr) : Calls Try.prog 13 #[.pointer p] w fun e w' => e = .returned (.func (.func 47) #[] #[.pointer (some ⟨w.heap.size, 0, none⟩)]) ∧ w' = w.alloc (.cells #[.pointer p] 23) := by
  have hmf : ∀ (fn : Fn) (first cap : Array Value) (w : World), (Instr.makeFunc fn first cap).run Try.prog w = .ok (.func fn first cap) w := fun _ _ _ _ => rfl
  go_enter Try.func13, Try.ntmps13
  go_wp2
  go_ret
  exact ⟨rfl, rfl⟩

set_option maxRecDepth 100000 in
set_option maxHeartbeats 1000000 in
theorem pfrom_any (w : World) (p : Option Addr) (x : Int × Int) : Calls Try.prog 74 #[.pointer p, .agg #[.int .i64 x.1, .int .i64 x.2]] w fun e w' => e = .returned (.func (.func 97) #[] #[.pointer (some ⟨w.heap.size, 0, none⟩), .pointer (some ⟨w.heap.size + 1, 0, none⟩)]) ∧ w' = (w.alloc (.cells #[.pointer p] 23)).alloc (.cells #[.int .i64 x.1, .int .i64 x.2] 28) := by
  have hmf : ∀ (fn : Fn) (first cap : Array Value) (w : World), (Instr.makeFunc fn first cap).run Try.prog w = .ok (.func fn first cap) w := fun _ _ _ _ => rfl
  go_enter Try.func74, Try.ntmps74
  go_wp2
  go_ret
  exact ⟨rfl, rfl⟩

set_option maxRecDepth 100000 in
set_option maxHeartbeats 1000000 in
theorem pback_any (w : World) (p : Option Addr) (x : Int × Int) : Calls Try.prog 75 #[.pointer p, .agg #[.int .i64 x.1, .int .i64 x.2]] w fun e w' => e = .returned (.func (.func 100) #[] #[.pointer (some ⟨w.heap.size, 0, none⟩), .pointer (some ⟨w.heap.size + 1, 0, none⟩)]) ∧ w' = (w.alloc (.cells #[.pointer p] 23)).alloc (.cells #[.int .i64 x.1, .int .i64 x.2] 28) := by
  have hmf : ∀ (fn : Fn) (first cap : Array Value) (w : World), (Instr.makeFunc fn first cap).run Try.prog w = .ok (.func fn first cap) w := fun _ _ _ _ => rfl
  go_enter Try.func75, Try.ntmps75
  go_wp2
  go_ret
  exact ⟨rfl, rfl⟩

theorem seg_of {w : World} {K : Nat → Prop} {a : Option Addr} {L : List (Int × Int)} {n cap : Nat} (h : Items w a L) (hK : ∀ k, (Value.slice a n cap).ownBlock = some k → K k) : Seg w K a L := by
  intro i y hy
  obtain ⟨g, rfl, h1, h2, h3⟩ := h i y hy
  exact ⟨g, 0, rfl, hK g rfl, h1, by rw [Nat.zero_add]; exact h2, by rw [Nat.zero_add]; exact h3⟩

set_option maxRecDepth 100000 in
set_option maxHeartbeats 1000000 in
theorem all_goes (N : Nat) (K M : Nat → Prop) (bp : Nat) (W : World) (B db g : Nat) (caps : Array Value) (L : List (Int × Int)) (a : Option Addr) (cap : Nat) (lent : Bool) (ed : Int)
    (hbp : W.cell? ⟨bp, 0, none⟩ = some (.pointer (some ⟨db, 0, none⟩))) (h : LAt W B db g caps L a cap lent ed) (hM : M db) (hK : ∀ k, (Value.slice a L.length cap).ownBlock = some k → K k) :
    Iter N K M 47 #[.pointer (some ⟨bp, 0, none⟩)] enc2 (enum L) W := by
  intro l J Jx hJ hJx hY h0
  have hlend := lend_any W B db g caps L a cap lent ed h
  have h1 := h.lent
  obtain ⟨W1, hW1⟩ : ∃ W1, W.setCell ⟨db, 2, none⟩ (.bool true) = W1 := ⟨_, rfl⟩
  rw [hW1] at h1 hlend
  have hsall := sall_any W1 a L.length cap
  have hit : Iter N K M 76 #[.pointer (some ⟨W1.heap.size, 0, none⟩)] enc2 (enum L) (W1.alloc (.cells #[.slice a L.length cap] 31)) :=
    all_iter N K M W1.heap.size cap a L _ (by have := h.len; omega) ((isCells_new W1 _ _).cell 0) ((seg_of h1.items hK).below (bel1 _ _))
  have hgo := hit l J Jx hJ hJx hY (hJ _ _ _ h0 (by rw [← hW1]; exact (Stab.set _ hM).trans (Stab.below (bel1 _ _))))
  have HG : Hid (CallsIn Fence.wide 0 Try.prog 76 (#[.func (.yield l) #[] #[]] ++ #[.pointer (some ⟨W1.heap.size, 0, none⟩)]) (W1.alloc (.cells #[.slice a L.length cap] 31)) fun e Y => (∃ v, e = .returned v) ∧ (J (enum L) Y ∨ ∃ pre, pre <+: enum L ∧ Jx pre Y)) := hgo
  clear hit hgo hJ hJx hY h0 h h1 hK hW1
  refine callsIn_of_wp Try.func47 rfl trivial ?_ rfl
  simp only [Try.ntmps47, List.size_toArray, List.length_cons, List.length_nil, Nat.reduceAdd, Nat.reduceSub, Array.replicate_succ, Array.replicate_zero, List.push_toArray, List.append_toArray, List.nil_append, List.cons_append]
  gi_wp2_with fail
  refine ⟨trivial, rfl, (callsIn_wide.2 hlend).mono ?_⟩
  rintro e W2 ⟨rfl, rfl⟩
  clear hlend
  gi_wp2_with fail
  refine ⟨trivial, rfl, (callsIn_wide.2 hsall).mono ?_⟩
  rintro e W3 ⟨rfl, rfl⟩
  clear hsall
  have eg : ∀ args w, (callFunc 76 args).run Try.prog w = .ok (.enter 76 args) w := enters_of Try.func76 (by kernel_rfl) rfl
  gi_wp2_with fail
  refine ⟨trivial, rfl, HG.out.mono ?_⟩
  rintro e W4 ⟨⟨v, rfl⟩, hE⟩
  have HE : Hid (J (enum L) W4 ∨ ∃ pre, pre <+: enum L ∧ Jx pre W4) := hE
  clear HG hE
  gi_wp2
  go_end0
  exact ⟨⟨_, rfl⟩, HE.out⟩

set_option maxRecDepth 100000 in
set_option maxHeartbeats 1000000 in
theorem from_goes (N : Nat) (K M : Nat → Prop) (bp bq : Nat) (W : World) (B db g : Nat) (caps : Array Value) (L : List (Int × Int)) (a : Option Addr) (cap : Nat) (lent : Bool) (ed : Int) (lt : Int × Int → Int × Int → Bool) (dom : Int × Int → Prop) (x : Int × Int) (k : Nat)
    (hbp : W.cell? ⟨bp, 0, none⟩ = some (.pointer (some ⟨db, 0, none⟩))) (hbq0 : W.cell? ⟨bq, 0, none⟩ = some (.int .i64 x.1)) (hbq1 : W.cell? ⟨bq, 1, none⟩ = some (.int .i64 x.2)) (h : LAt W B db g caps L a cap lent ed) (hM : M db) (hK : ∀ k, (Value.slice a L.length cap).ownBlock = some k → K k)
    (hless : ∀ W, LAt W B db g caps L a cap true ed → Less W g caps lt dom) (hx : dom x) (hL : ∀ y ∈ L, dom y) (hc : Cut lt L x k) :
    Iter N K M 97 #[.pointer (some ⟨bp, 0, none⟩), .pointer (some ⟨bq, 0, none⟩)] enc1 (L.drop k) W := by
  intro l J Jx hJ hJx hY h0
  have hsplit := split_any W B db g caps L a cap lent ed lt dom x k h hless hx hL hc
  have hl8 := h.len
  have HR : Hid (∀ W1 A, LAt W1 B db g caps L a cap true ed → (∀ N M, M db → Stab N M W W1) → (∀ i y, (L.drop k)[i]? = some y → ∃ g off, A = some ⟨g, off, none⟩ ∧ (Value.slice a L.length cap).ownBlock = some g ∧ W1.cell? ⟨g, off + i * 2, none⟩ = some (.int .i64 y.1) ∧ W1.cell? ⟨g, off + i * 2 + 1, none⟩ = some (.int .i64 y.2)) →
      CallsIn Fence.wide 0 Try.prog 113 (#[.func (.yield l) #[] #[]] ++ #[.pointer (some ⟨W1.heap.size, 0, none⟩)]) (W1.alloc (.cells #[.slice A (L.length - k) (cap - k)] 31)) fun e Y => (∃ v, e = .returned v) ∧ (J (L.drop k) Y ∨ ∃ pre, pre <+: L.drop k ∧ Jx pre Y)) := by
    intro W1 A h1 ht hseg
    have hln : (L.drop k).length = L.length - k := by simp
    have hsg : Seg W1 K A (L.drop k) := fun i y hy => by
      obtain ⟨g', off, e1, e2, e3, e4⟩ := hseg i y hy
      exact ⟨g', off, e1, hK g' e2, (own_block_lt h1.row g' e2).2, e3, e4⟩
    have hit : Iter N K M 113 #[.pointer (some ⟨W1.heap.size, 0, none⟩)] enc1 (L.drop k) (W1.alloc (.cells #[.slice A (L.length - k) (cap - k)] 31)) :=
      values_iter N K M W1.heap.size (cap - k) A (L.drop k) _ (by omega) (by rw [hln]; exact (isCells_new W1 _ _).cell 0) (hsg.below (bel1 _ _))
    have st : Stab (N + 2) M W W1 := ht _ _ hM
    exact hit l J Jx hJ hJx hY (hJ _ _ _ h0 (st.trans (Stab.below (bel1 _ _))))
  clear hJ hJx hY h0 h hless hL hc hK hM
  refine callsIn_of_wp Try.func97 rfl trivial ?_ rfl
  simp only [Try.ntmps97, List.size_toArray, List.length_cons, List.length_nil, Nat.reduceAdd, Nat.reduceSub, Array.replicate_succ, Array.replicate_zero, List.push_toArray, List.append_toArray, List.nil_append, List.cons_append]
  gi_wp2_with fail
  refine ⟨trivial, rfl, (callsIn_wide.2 hsplit).mono ?_⟩
  rintro e W2 ⟨A, rfl, q1, q2, q3⟩
  have hG := HR.out W2 A q1 q2 q3
  have HG : Hid (CallsIn Fence.wide 0 Try.prog 113 (#[.func (.yield l) #[] #[]] ++ #[.pointer (some ⟨W2.heap.size, 0, none⟩)]) (W2.alloc (.cells #[.slice A (L.length - k) (cap - k)] 31)) fun e Y => (∃ v, e = .returned v) ∧ (J (L.drop k) Y ∨ ∃ pre, pre <+: L.drop k ∧ Jx pre Y)) := hG
  have hsv := svalues_any W2 A (L.length - k) (cap - k)
  clear hsplit q1 q2 q3 HR hG
  gi_wp2_with fail
  refine ⟨trivial, rfl, (callsIn_wide.2 hsv).mono ?_⟩
  rintro e W3 ⟨rfl, rfl⟩
  clear hsv
  have eg : ∀ args w, (callFunc 113 args).run Try.prog w = .ok (.enter 113 args) w := enters_of Try.func113 (by kernel_rfl) rfl
  gi_wp2_with fail
  refine ⟨trivial, rfl, HG.out.mono ?_⟩
  rintro e W4 ⟨⟨v, rfl⟩, hE⟩
  have HE : Hid (J (L.drop k) W4 ∨ ∃ pre, pre <+: L.drop k ∧ Jx pre W4) := hE
  clear HG hE
  gi_wp2
  go_end0
  exact ⟨⟨_, rfl⟩, HE.out⟩

end Go.Proofs.Ytiggpbjgnododaa.T
