/- A call of a Go function, as one step of a drawn region. -/
import Derived.Test.YtafpfelgngniiaaMet
namespace Go.Proofs.Ytafpfelgngniiaa
open Go.RowKit
set_option linter.unusedVariables false

theorem step_call {P : Program} {f : FuncId} {xs : Array Operand} {ts : Array TypeId} {w : World} {ops : Array Oper} {o : Oper} {ac : Act} {K : Act → World → Prop} {Q : Exit → Act → World → Prop} {E : Prop} {R : Ending → World → Prop} (hgd : o.guard = none)
    (ho : o.op = .call { callee := .value (.func f), args := xs, argTypes := ts }) (hf : ∀ ys, (callFunc f ys).run P w = .ok (.enter f ys) w) (vs : Array Value) (hvs : xs.map ac.eval = vs) (hc : Calls P f vs w R) (hK : ∀ e w', R e w' → ∃ v, e = .returned v ∧ K (ac.put o.dst v) w') :
    if Region.wanted o (yielded ops ac.tmps) = true then Oper.wp P o ac w K Q else E := by
  have hw : Region.wanted o (yielded ops ac.tmps) = true := by simp [Region.wanted, hgd]
  rw [if_pos hw]
  unfold Oper.wp execOp
  have ev : ac.eval (Operand.func f) = .func (.func f) #[] #[] := rfl
  simp only [ho, resolve, Sem.run_bind, hvs, ev, Deferred.ofValue, Sem.run_pure, Result.andThen_ok, invoke, hf, Oper.upon, Array.append_empty, Array.empty_append]
  refine hc.mono ?_
  intro e w' h
  obtain ⟨v, rfl, hk⟩ := hK e w' h
  exact hk

theorem step_call3 {P : Program} {f : FuncId} {x1 x2 x3 : Operand} {ts : Array TypeId} {w : World} {ops : Array Oper} {o : Oper} {ac : Act} {K : Act → World → Prop} {Q : Exit → Act → World → Prop} {E : Prop} {R : Ending → World → Prop} {v1 v2 v3 : Value} (hgd : o.guard = none)
    (ho : o.op = .call { callee := .value (.func f), args := #[x1, x2, x3], argTypes := ts }) (hf : ∀ ys, (callFunc f ys).run P w = .ok (.enter f ys) w) (hc : Calls P f #[v1, v2, v3] w R) (h1 : ac.eval x1 = v1) (h2 : ac.eval x2 = v2) (h3 : ac.eval x3 = v3) (hK : ∀ e w', R e w' → ∃ v, e = .returned v ∧ K (ac.put o.dst v) w') :
    if Region.wanted o (yielded ops ac.tmps) = true then Oper.wp P o ac w K Q else E :=
  step_call hgd ho hf _ (by simp [h1, h2, h3]) hc hK

theorem call39 (w : World) (ys : Array Value) : (callFunc 39 ys).run Try.prog w = .ok (.enter 39 ys) w := by
  go_simp
end Go.Proofs.Ytafpfelgngniiaa
