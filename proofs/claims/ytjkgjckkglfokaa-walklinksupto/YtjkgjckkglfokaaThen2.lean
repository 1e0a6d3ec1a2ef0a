/- Then's making; how many are asked for at once. -/
import Derived.Test.YtjkgjckkglfokaaThen
import Derived.Test.YtjkgjckkglfokaaLis
namespace Go.Proofs.Ytjkgjckkglfokaa
open Go.RowKit Go.Shelf
set_option linter.unusedVariables false
attribute [local go_sem] Oper.semAt_some

theorem infoF : InfoOf Try.prog 50 .nilFunc 1 8 := by unfold InfoOf; kernel_rfl

def MkThenP (v1 v2 : Value) (W : World) (e : Ending) (Y : World) : Prop :=
  ∃ ob g c cs, e = .returned (.func (.func 94) #[] #[.pointer (some ⟨ob, 0, none⟩)]) ∧ W.heap.size ≤ ob ∧ W.heap.size ≤ g ∧ cs[0]? = some v1 ∧ cs[1]? = some v2 ∧ IsC Y ob #[.slice (some ⟨g, 0, none⟩) 2 c] ∧ IsC Y g cs ∧ Tn (fun _ => False) W Y

set_option maxRecDepth 100000 in
set_option maxHeartbeats 1000000 in
theorem mk_then (W : World) (v1 v2 : Value) (s c0 : Nat) (h1 : W.cell? ⟨s, 0, none⟩ = some v1) (h2 : W.cell? ⟨s, 1, none⟩ = some v2) (o1 : v1.oneCell' = true) (o2 : v2.oneCell' = true) :
    CallsIn Fence.wide 0 Try.prog 50 #[.slice (some ⟨s, 0, none⟩) 2 c0] W (MkThenP v1 v2 W) := by
  have hmf : ∀ (fn : Fn) (first cap : Array Value) (w : World), (Instr.makeFunc fn first cap).run Try.prog w = .ok (.func fn first cap) w := fun _ _ _ _ => rfl
  obtain ⟨i0, hi0, hz0, hz1, hz2⟩ := infoF.parts
  have hnews : ∀ (j : Nat) (u : Value), ([v1, v2] : List Value)[j]? = some u → W.cell? ((⟨s, 0, none⟩ : Addr).add j) = some u := by
    intro j u hu
    match j, hu with
    | 0, hu => simp at hu; subst hu; exact h1
    | 1, hu => simp at hu; subst hu; exact h2
    | j + 2, hu => simp at hu
  have HQ : Hid (W.ownsRow W.heap.size 50 1 (.slice none 0 0) 0 []) := ⟨rfl, .inl ⟨rfl, rfl⟩⟩
  have hfin : ∀ Y v', Y.ownsRow W.heap.size 50 1 v' (0 + 2) ([] ++ [v1, v2]) → W.grownBy Y (Value.slice none 0 0).ownBlock → ∃ g c, v' = .slice (some ⟨g, 0, none⟩) 2 c ∧ Hid (MkThenP v1 v2 W (.returned (.func (.func 94) #[] #[.pointer (some ⟨Y.heap.size, 0, none⟩)])) (Y.alloc (.cells #[.slice (some ⟨g, 0, none⟩) 2 c] 133))) := by
    intro Y v' r1 r2
    rcases r1.2 with ⟨-, h⟩ | ⟨g, c, cur, rfl, hb, hh, hc, -, hsz, ht⟩
    · omega
    · have tY : Tn (fun _ => False) W Y := ⟨r2.os, r2.tape, r2.output, r2.size, fun k hk _ => r2.block k hk (by simp [Value.ownBlock])⟩
      refine ⟨g, c, rfl, Y.heap.size, g, c, cur, rfl, tY.size, hb, ?_, ?_, isC_new _ _ _, IsC.tn ⟨_, hh⟩ ((Tn.refl (fun _ => False) _).alloc _) id, tY.alloc _⟩
      · have := congrArg (fun l => l[0]?) ht
        simpa [List.getElem?_take] using this
      · have := congrArg (fun l => l[1]?) ht
        simpa [List.getElem?_take] using this
  refine callsIn_of_wp Try.func50 rfl trivial ?_ rfl
  simp only [Try.ntmps50, List.size_toArray, List.length_cons, List.length_nil, Nat.reduceAdd, Nat.reduceSub, Array.replicate_succ, Array.replicate_zero, List.push_toArray, List.append_toArray, List.nil_append, List.cons_append]
  gi_wp2_with (gi_at_builtin; (with_reducible refine wpListIn_append_own_at _ rfl _ _ 133 rfl W.heap.size 50 i0 .nilFunc 1 8 Try.underlying133 hi0 hz0 hz1 hz2 rfl (by decide) (.slice none 0 0) 0 [] ?p1 ?p2 ⟨s, 0, none⟩ 2 c0 [v1, v2] ?p3 ?p4 ?p5 ?p6 ?p7 ?p8 ?p9 ?p10); (case p1 => rfl); (case p2 => exact HQ.out); (case p3 => rfl); (case p4 => rfl); (case p5 => exact hnews); (case p6 => (intro u hu; simp at hu; rcases hu with rfl | rfl <;> assumption)); (case p7 => (unfold maxLen; omega)); (case p8 => omega); (case p9 => omega); intro v' Y q1 q2 q3 q4; obtain ⟨g, c, rfl, s4⟩ := hfin Y v' q1 q2; clear q1 q2 q3 q4 hfin)
  refine bodyPost_ret (results_tmp rfl _ _ _) rfl ?_
  exact s4.out

set_option maxRecDepth 100000 in
set_option maxHeartbeats 1000000 in
theorem atOnce_any (w : World) (n : Nat) (hn : n < 1099511627776) : Calls Try.prog 55 #[.int .i64 (n : Int)] w fun e w' => e = .returned (.int .i64 ((1 + n / 16 : Nat) : Int)) ∧ w' = w := by
  have hq : (n : Int).tdiv 16 = ((n / 16 : Nat) : Int) := by rw [Int.tdiv_eq_ediv_of_nonneg (by omega)]; omega
  go_enter Try.func55, Try.ntmps55
  go_wp2
  go_ret
  exact ⟨by congr 1, rfl⟩

end Go.Proofs.Ytjkgjckkglfokaa
