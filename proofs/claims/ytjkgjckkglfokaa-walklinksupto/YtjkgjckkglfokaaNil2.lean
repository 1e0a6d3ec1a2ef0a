/- Then of none, Pairs of nothing. -/
import Derived.Test.YtjkgjckkglfokaaNil
import Derived.Test.YtjkgjckkglfokaaLis
namespace Go.Proofs.Ytjkgjckkglfokaa
open Go.RowKit Go.Shelf
set_option linter.unusedVariables false
attribute [local go_sem] Oper.semAt_some

/-- Two numbers a round. -/
def encP (p : Int × Int) : Array Value := #[.int .i64 p.1, .int .i64 p.2]

theorem nil_from {α : Type} {F : Nat} {lb : Array Value} {encs : α → Array Value} {R : Nat → Prop} {Sq : World → Prop} (h1 : ∀ W, Sq W → ∀ b, R b → b < W.heap.size) (h2 : ∀ W W' A, Sq W → Tn A W W' → (∀ b, R b → ¬ A b) → Sq W')
    (h : ∀ W l, Sq W → CallsIn Fence.wide 0 Try.prog F (#[.func (.yield l) #[] #[]] ++ lb) W fun e Y => (∃ v, e = .returned v) ∧ Tn (fun _ => False) W Y) : IsSeq Try.prog F lb encs [] R (fun _ => False) Sq := by
  refine ⟨fun _ h => h.elim, h1, h2, ?_⟩
  intro W l J Jx C0 D hq stJ stJx hY h0 hd hdT
  refine (h W l hq).mono ?_
  rintro e Y ⟨g1, g2⟩
  exact ⟨g1, g2.mono (fun _ _ h => h.elim), h2 _ _ _ hq g2 (fun _ _ h => h), C0, fun b hb => .inl hb, .inl (stJ.2 _ _ _ _ _ h0 g2 (fun _ _ h => h))⟩

set_option maxRecDepth 100000 in
set_option maxHeartbeats 1000000 in
theorem then_none {ob : Nat} : IsSeq Try.prog 94 #[.pointer (some ⟨ob, 0, none⟩)] encI [] (fun b => b = ob) (fun _ => False) (fun W => IsC W ob #[.slice none 0 0]) := by
  refine nil_from (fun W h b hb => by rw [show b = ob from hb]; exact h.lt) (fun W W' A h ht hA => h.tn ht (hA _ rfl)) (fun W l h => ?_)
  have a1 : W.cell? ⟨ob, 0, none⟩ = some (.slice none 0 0) := h.cell 0
  have l1 := h.lt
  have HT : Hid (Tn (fun _ => False) W W) := Tn.refl _ _
  clear h
  refine callsIn_of_wp Try.func94 rfl trivial ?_ rfl
  simp only [Try.ntmps94, List.size_toArray, List.length_cons, List.length_nil, Nat.reduceAdd, Nat.reduceSub, Array.replicate_succ, Array.replicate_zero, List.push_toArray, List.append_toArray, List.nil_append, List.cons_append]
  gi_wp2
  gi_loopw [7] (fun i wr => i = .int .i64 0 ∧ wr = W) (fun i _ => 0)
  case atStart => exact ⟨rfl, rfl⟩
  case round =>
    obtain ⟨rfl, rfl⟩ := hrel
    gi_wp2
    go_end0
    exact ⟨⟨_, rfl⟩, HT.out⟩

set_option maxRecDepth 100000 in
set_option maxHeartbeats 1000000 in
theorem pairs_none {sb tb : Nat} : IsSeq Try.prog 53 #[.pointer (some ⟨sb, 0, none⟩), .pointer (some ⟨tb, 0, none⟩)] encP [] (fun b => b = sb ∨ b = tb) (fun _ => False) (fun W => IsC W sb #[.nilFunc] ∧ IsC W tb #[.nilFunc]) := by
  refine nil_from (fun W h b hb => by rcases hb with rfl | rfl; exact h.1.lt; exact h.2.lt) (fun W W' A h ht hA => ⟨h.1.tn ht (hA _ (.inl rfl)), h.2.tn ht (hA _ (.inr rfl))⟩) (fun W l h => ?_)
  have a1 : W.cell? ⟨sb, 0, none⟩ = some .nilFunc := h.1.cell 0
  have a2 : W.cell? ⟨tb, 0, none⟩ = some .nilFunc := h.2.cell 0
  have l1 := h.1.lt
  have l2 := h.2.lt
  have q1 : ∀ w, (binOp .eql 50 .nilFunc .nilFunc).run Try.prog w = .ok (.bool true) w := fun _ => by kernel_rfl
  have HT : Hid (Tn (fun _ => False) W (W.alloc (.cells #[.func (.yield l) #[] #[]] 90))) := (Tn.refl _ _).alloc _
  clear h
  refine callsIn_of_wp Try.func53 rfl trivial ?_ rfl
  simp only [Try.ntmps53, List.size_toArray, List.length_cons, List.length_nil, Nat.reduceAdd, Nat.reduceSub, Array.replicate_succ, Array.replicate_zero, List.push_toArray, List.append_toArray, List.nil_append, List.cons_append]
  gi_wp2
  refine bodyPost_ret (results_none rfl _ _ _) rfl ?_
  exact ⟨⟨_, rfl⟩, HT.out⟩

theorem infoF2 : InfoOf Try.prog 50 .nilFunc 1 8 := by unfold InfoOf; kernel_rfl
set_option maxRecDepth 100000 in
set_option maxHeartbeats 1000000 in
theorem mk_then_none (W : World) : CallsIn Fence.wide 0 Try.prog 50 #[.slice none 0 0] W fun e Y => e = .returned (.func (.func 94) #[] #[.pointer (some ⟨W.heap.size, 0, none⟩)]) ∧ IsC Y W.heap.size #[.slice none 0 0] ∧ Tn (fun _ => False) W Y := by
  have hmf : ∀ (fn : Fn) (first cap : Array Value) (w : World), (Instr.makeFunc fn first cap).run Try.prog w = .ok (.func fn first cap) w := fun _ _ _ _ => rfl
  have hG : Hid (IsC (W.alloc (.cells #[.slice none 0 0] 133)) W.heap.size #[.slice none 0 0] ∧ Tn (fun _ => False) W (W.alloc (.cells #[.slice none 0 0] 133))) := ⟨isC_new _ _ _, (Tn.refl _ _).alloc _⟩
  refine callsIn_of_wp Try.func50 rfl trivial ?_ rfl
  simp only [Try.ntmps50, List.size_toArray, List.length_cons, List.length_nil, Nat.reduceAdd, Nat.reduceSub, Array.replicate_succ, Array.replicate_zero, List.push_toArray, List.append_toArray, List.nil_append, List.cons_append]
  gi_wp2
  refine bodyPost_ret (results_tmp rfl _ _ _) rfl ?_
  exact ⟨rfl, hG.out⟩

end Go.Proofs.Ytjkgjckkglfokaa
