/- Iterators made of nothing. -/
import Derived.Test.YtjkgjckkglfokaaHo
namespace Go.Proofs.Ytjkgjckkglfokaa
open Go.RowKit Go.Shelf
set_option linter.unusedVariables false

/-- An iterator that tells nothing. -/
theorem nil_of {F : Nat} {sb mb : Nat} {s m : Array Value} (h : ∀ W l, IsC W sb s → IsC W mb m → CallsIn Fence.wide 0 Try.prog F (#[.func (.yield l) #[] #[]] ++ #[.pointer (some ⟨sb, 0, none⟩), .pointer (some ⟨mb, 0, none⟩)]) W fun e Y => (∃ v, e = .returned v) ∧ Tn (fun _ => False) W Y) :
    IsSeq Try.prog F #[.pointer (some ⟨sb, 0, none⟩), .pointer (some ⟨mb, 0, none⟩)] encI [] (fun b => b = sb ∨ b = mb) (fun _ => False) (fun W => IsC W sb s ∧ IsC W mb m) := by
  refine ⟨fun _ h => h.elim, fun W h b hb => by rcases hb with rfl | rfl; exact h.1.lt; exact h.2.lt, fun W W' A h ht hA => ⟨h.1.tn ht (hA _ (.inl rfl)), h.2.tn ht (hA _ (.inr rfl))⟩, ?_⟩
  intro W l J Jx C0 D hq stJ stJx hY h0 hd hdT
  refine (h W l hq.1 hq.2).mono ?_
  rintro e Y ⟨h1, h2⟩
  exact ⟨h1, h2.mono (fun _ _ h => h.elim), ⟨hq.1.tn h2 (fun h => h), hq.2.tn h2 (fun h => h)⟩, C0, fun b hb => .inl hb, .inl (stJ.2 _ _ _ _ _ h0 h2 (fun _ _ h => h))⟩

set_option maxRecDepth 100000 in
set_option maxHeartbeats 1000000 in
theorem only_nil {sb mb : Nat} {gf : Nat} {lb : Array Value} : IsSeq Try.prog 91 #[.pointer (some ⟨sb, 0, none⟩), .pointer (some ⟨mb, 0, none⟩)] encI [] (fun b => b = sb ∨ b = mb) (fun _ => False) (fun W => IsC W sb #[.func (.func gf) #[] lb] ∧ IsC W mb #[.nilFunc]) := by
  refine nil_of (fun W l h1 h2 => ?_)
  have a1 : W.cell? ⟨sb, 0, none⟩ = some (.func (.func gf) #[] lb) := h1.cell 0
  have a2 : W.cell? ⟨mb, 0, none⟩ = some (.nilFunc) := h2.cell 0
  have l1 := h1.lt
  have l2 := h2.lt
  have q1 : ∀ w, (binOp .eql 50 (.func (.func gf) #[] lb) .nilFunc).run Try.prog w = .ok (.bool false) w := fun _ => by kernel_rfl
  have q2 : ∀ w, (binOp .eql 63 (.nilFunc) .nilFunc).run Try.prog w = .ok (.bool true) w := fun _ => by kernel_rfl
  have HT : Hid (Tn (fun _ => False) W (W.alloc (.cells #[.func (.yield l) #[] #[]] 63))) := (Tn.refl _ _).alloc _
  clear h1 h2
  refine callsIn_of_wp Try.func91 rfl trivial ?_ rfl
  simp only [Try.ntmps91, List.size_toArray, List.length_cons, List.length_nil, Nat.reduceAdd, Nat.reduceSub, Array.replicate_succ, Array.replicate_zero, List.push_toArray, List.append_toArray, List.nil_append, List.cons_append]
  gi_wp2
  refine bodyPost_ret (results_none rfl _ _ _) rfl ?_
  exact ⟨⟨_, rfl⟩, HT.out⟩

set_option maxRecDepth 100000 in
set_option maxHeartbeats 1000000 in
theorem only_none {sb mb : Nat} {mf : Nat} {ml : Array Value} : IsSeq Try.prog 91 #[.pointer (some ⟨sb, 0, none⟩), .pointer (some ⟨mb, 0, none⟩)] encI [] (fun b => b = sb ∨ b = mb) (fun _ => False) (fun W => IsC W sb #[.nilFunc] ∧ IsC W mb #[.func (.func mf) #[] ml]) := by
  refine nil_of (fun W l h1 h2 => ?_)
  have a1 : W.cell? ⟨sb, 0, none⟩ = some (.nilFunc) := h1.cell 0
  have a2 : W.cell? ⟨mb, 0, none⟩ = some (.func (.func mf) #[] ml) := h2.cell 0
  have l1 := h1.lt
  have l2 := h2.lt
  have q1 : ∀ w, (binOp .eql 50 (.nilFunc) .nilFunc).run Try.prog w = .ok (.bool true) w := fun _ => by kernel_rfl
  have HT : Hid (Tn (fun _ => False) W (W.alloc (.cells #[.func (.yield l) #[] #[]] 63))) := (Tn.refl _ _).alloc _
  clear h1 h2
  refine callsIn_of_wp Try.func91 rfl trivial ?_ rfl
  simp only [Try.ntmps91, List.size_toArray, List.length_cons, List.length_nil, Nat.reduceAdd, Nat.reduceSub, Array.replicate_succ, Array.replicate_zero, List.push_toArray, List.append_toArray, List.nil_append, List.cons_append]
  gi_wp2
  refine bodyPost_ret (results_none rfl _ _ _) rfl ?_
  exact ⟨⟨_, rfl⟩, HT.out⟩

set_option maxRecDepth 100000 in
set_option maxHeartbeats 1000000 in
theorem map_nil {sb mb : Nat} {gf : Nat} {lb : Array Value} : IsSeq Try.prog 65 #[.pointer (some ⟨sb, 0, none⟩), .pointer (some ⟨mb, 0, none⟩)] encI [] (fun b => b = sb ∨ b = mb) (fun _ => False) (fun W => IsC W sb #[.func (.func gf) #[] lb] ∧ IsC W mb #[.nilFunc]) := by
  refine nil_of (fun W l h1 h2 => ?_)
  have a1 : W.cell? ⟨sb, 0, none⟩ = some (.func (.func gf) #[] lb) := h1.cell 0
  have a2 : W.cell? ⟨mb, 0, none⟩ = some (.nilFunc) := h2.cell 0
  have l1 := h1.lt
  have l2 := h2.lt
  have q1 : ∀ w, (binOp .eql 50 (.func (.func gf) #[] lb) .nilFunc).run Try.prog w = .ok (.bool false) w := fun _ => by kernel_rfl
  have q2 : ∀ w, (binOp .eql 68 (.nilFunc) .nilFunc).run Try.prog w = .ok (.bool true) w := fun _ => by kernel_rfl
  have HT : Hid (Tn (fun _ => False) W (W.alloc (.cells #[.func (.yield l) #[] #[]] 63))) := (Tn.refl _ _).alloc _
  clear h1 h2
  refine callsIn_of_wp Try.func65 rfl trivial ?_ rfl
  simp only [Try.ntmps65, List.size_toArray, List.length_cons, List.length_nil, Nat.reduceAdd, Nat.reduceSub, Array.replicate_succ, Array.replicate_zero, List.push_toArray, List.append_toArray, List.nil_append, List.cons_append]
  gi_wp2
  refine bodyPost_ret (results_none rfl _ _ _) rfl ?_
  exact ⟨⟨_, rfl⟩, HT.out⟩

set_option maxRecDepth 100000 in
set_option maxHeartbeats 1000000 in
theorem map_none {sb mb : Nat} {mf : Nat} {ml : Array Value} : IsSeq Try.prog 65 #[.pointer (some ⟨sb, 0, none⟩), .pointer (some ⟨mb, 0, none⟩)] encI [] (fun b => b = sb ∨ b = mb) (fun _ => False) (fun W => IsC W sb #[.nilFunc] ∧ IsC W mb #[.func (.func mf) #[] ml]) := by
  refine nil_of (fun W l h1 h2 => ?_)
  have a1 : W.cell? ⟨sb, 0, none⟩ = some (.nilFunc) := h1.cell 0
  have a2 : W.cell? ⟨mb, 0, none⟩ = some (.func (.func mf) #[] ml) := h2.cell 0
  have l1 := h1.lt
  have l2 := h2.lt
  have q1 : ∀ w, (binOp .eql 50 (.nilFunc) .nilFunc).run Try.prog w = .ok (.bool true) w := fun _ => by kernel_rfl
  have HT : Hid (Tn (fun _ => False) W (W.alloc (.cells #[.func (.yield l) #[] #[]] 63))) := (Tn.refl _ _).alloc _
  clear h1 h2
  refine callsIn_of_wp Try.func65 rfl trivial ?_ rfl
  simp only [Try.ntmps65, List.size_toArray, List.length_cons, List.length_nil, Nat.reduceAdd, Nat.reduceSub, Array.replicate_succ, Array.replicate_zero, List.push_toArray, List.append_toArray, List.nil_append, List.cons_append]
  gi_wp2
  refine bodyPost_ret (results_none rfl _ _ _) rfl ?_
  exact ⟨⟨_, rfl⟩, HT.out⟩

set_option maxRecDepth 100000 in
set_option maxHeartbeats 1000000 in
theorem flat_nil {sb mb : Nat} {gf : Nat} {lb : Array Value} : IsSeq Try.prog 92 #[.pointer (some ⟨sb, 0, none⟩), .pointer (some ⟨mb, 0, none⟩)] encI [] (fun b => b = sb ∨ b = mb) (fun _ => False) (fun W => IsC W sb #[.func (.func gf) #[] lb] ∧ IsC W mb #[.nilFunc]) := by
  refine nil_of (fun W l h1 h2 => ?_)
  have a1 : W.cell? ⟨sb, 0, none⟩ = some (.func (.func gf) #[] lb) := h1.cell 0
  have a2 : W.cell? ⟨mb, 0, none⟩ = some (.nilFunc) := h2.cell 0
  have l1 := h1.lt
  have l2 := h2.lt
  have q1 : ∀ w, (binOp .eql 50 (.func (.func gf) #[] lb) .nilFunc).run Try.prog w = .ok (.bool false) w := fun _ => by kernel_rfl
  have q2 : ∀ w, (binOp .eql 92 (.nilFunc) .nilFunc).run Try.prog w = .ok (.bool true) w := fun _ => by kernel_rfl
  have HT : Hid (Tn (fun _ => False) W (W.alloc (.cells #[.func (.yield l) #[] #[]] 63))) := (Tn.refl _ _).alloc _
  clear h1 h2
  refine callsIn_of_wp Try.func92 rfl trivial ?_ rfl
  simp only [Try.ntmps92, List.size_toArray, List.length_cons, List.length_nil, Nat.reduceAdd, Nat.reduceSub, Array.replicate_succ, Array.replicate_zero, List.push_toArray, List.append_toArray, List.nil_append, List.cons_append]
  gi_wp2
  refine bodyPost_ret (results_none rfl _ _ _) rfl ?_
  exact ⟨⟨_, rfl⟩, HT.out⟩

set_option maxRecDepth 100000 in
set_option maxHeartbeats 1000000 in
theorem flat_none {sb mb : Nat} {mf : Nat} {ml : Array Value} : IsSeq Try.prog 92 #[.pointer (some ⟨sb, 0, none⟩), .pointer (some ⟨mb, 0, none⟩)] encI [] (fun b => b = sb ∨ b = mb) (fun _ => False) (fun W => IsC W sb #[.nilFunc] ∧ IsC W mb #[.func (.func mf) #[] ml]) := by
  refine nil_of (fun W l h1 h2 => ?_)
  have a1 : W.cell? ⟨sb, 0, none⟩ = some (.nilFunc) := h1.cell 0
  have a2 : W.cell? ⟨mb, 0, none⟩ = some (.func (.func mf) #[] ml) := h2.cell 0
  have l1 := h1.lt
  have l2 := h2.lt
  have q1 : ∀ w, (binOp .eql 50 (.nilFunc) .nilFunc).run Try.prog w = .ok (.bool true) w := fun _ => by kernel_rfl
  have HT : Hid (Tn (fun _ => False) W (W.alloc (.cells #[.func (.yield l) #[] #[]] 63))) := (Tn.refl _ _).alloc _
  clear h1 h2
  refine callsIn_of_wp Try.func92 rfl trivial ?_ rfl
  simp only [Try.ntmps92, List.size_toArray, List.length_cons, List.length_nil, Nat.reduceAdd, Nat.reduceSub, Array.replicate_succ, Array.replicate_zero, List.push_toArray, List.append_toArray, List.nil_append, List.cons_append]
  gi_wp2
  refine bodyPost_ret (results_none rfl _ _ _) rfl ?_
  exact ⟨⟨_, rfl⟩, HT.out⟩

set_option maxRecDepth 100000 in
set_option maxHeartbeats 1000000 in
theorem most_zero {sb mb : Nat} {gf : Nat} {lb : Array Value} {n : Int} (hn : n < 1) : IsSeq Try.prog 64 #[.pointer (some ⟨sb, 0, none⟩), .pointer (some ⟨mb, 0, none⟩)] encI [] (fun b => b = sb ∨ b = mb) (fun _ => False) (fun W => IsC W sb #[.func (.func gf) #[] lb] ∧ IsC W mb #[.int .i64 n]) := by
  refine nil_of (fun W l h1 h2 => ?_)
  have a1 : W.cell? ⟨sb, 0, none⟩ = some (.func (.func gf) #[] lb) := h1.cell 0
  have a2 : W.cell? ⟨mb, 0, none⟩ = some (.int .i64 n) := h2.cell 0
  have l1 := h1.lt
  have l2 := h2.lt
  have q1 : ∀ w, (binOp .eql 50 (.func (.func gf) #[] lb) .nilFunc).run Try.prog w = .ok (.bool false) w := fun _ => by kernel_rfl
  have HT : Hid (Tn (fun _ => False) W (W.alloc (.cells #[.func (.yield l) #[] #[]] 63))) := (Tn.refl _ _).alloc _
  clear h1 h2
  refine callsIn_of_wp Try.func64 rfl trivial ?_ rfl
  simp only [Try.ntmps64, List.size_toArray, List.length_cons, List.length_nil, Nat.reduceAdd, Nat.reduceSub, Array.replicate_succ, Array.replicate_zero, List.push_toArray, List.append_toArray, List.nil_append, List.cons_append]
  gi_wp2
  refine bodyPost_ret (results_none rfl _ _ _) rfl ?_
  exact ⟨⟨_, rfl⟩, HT.out⟩

set_option maxRecDepth 100000 in
set_option maxHeartbeats 1000000 in
theorem most_none {sb mb : Nat} {n : Int} : IsSeq Try.prog 64 #[.pointer (some ⟨sb, 0, none⟩), .pointer (some ⟨mb, 0, none⟩)] encI [] (fun b => b = sb ∨ b = mb) (fun _ => False) (fun W => IsC W sb #[.nilFunc] ∧ IsC W mb #[.int .i64 n]) := by
  refine nil_of (fun W l h1 h2 => ?_)
  have a1 : W.cell? ⟨sb, 0, none⟩ = some (.nilFunc) := h1.cell 0
  have a2 : W.cell? ⟨mb, 0, none⟩ = some (.int .i64 n) := h2.cell 0
  have l1 := h1.lt
  have l2 := h2.lt
  have q1 : ∀ w, (binOp .eql 50 (.nilFunc) .nilFunc).run Try.prog w = .ok (.bool true) w := fun _ => by kernel_rfl
  have HT : Hid (Tn (fun _ => False) W (W.alloc (.cells #[.func (.yield l) #[] #[]] 63))) := (Tn.refl _ _).alloc _
  clear h1 h2
  refine callsIn_of_wp Try.func64 rfl trivial ?_ rfl
  simp only [Try.ntmps64, List.size_toArray, List.length_cons, List.length_nil, Nat.reduceAdd, Nat.reduceSub, Array.replicate_succ, Array.replicate_zero, List.push_toArray, List.append_toArray, List.nil_append, List.cons_append]
  gi_wp2
  refine bodyPost_ret (results_none rfl _ _ _) rfl ?_
  exact ⟨⟨_, rfl⟩, HT.out⟩

end Go.Proofs.Ytjkgjckkglfokaa
