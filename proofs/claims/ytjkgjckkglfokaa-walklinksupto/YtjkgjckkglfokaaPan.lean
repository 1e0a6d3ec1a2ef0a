/- List of an iterator that panics. -/
import Derived.Test.YtjkgjckkglfokaaRun
import Derived.Lib.BoundsPanic
namespace Go.Proofs.Ytjkgjckkglfokaa
open Go.RowKit Go.Shelf
set_option linter.unusedVariables false
attribute [local go_sem] Oper.semAt_some

theorem range_panic {P : Program} {g : Operand} {ps : Array Tmp} {assign body : Code} {Q : Exit → Act → World → Prop} {a : Act} {w : World} {gf : Nat} {lb : Array Value} (hg : a.eval g = .func (.func gf) #[] lb)
    (eg : ∀ args w, (callFunc gf args).run P w = .ok (.enter gf args) w) (hc : ∀ V l, Tn (fun _ => False) w V → CallsIn Fence.wide 0 P gf (#[.func (.yield l) #[] #[]] ++ lb) V fun e Y => (∃ v, e = .panicked [{ v := v, recovered := false }]) ∧ Tn (fun _ => False) V Y)
    (hdone : ∀ v W, Tn (fun _ => False) w W → W.heap[w.heap.size]? = some (.deferred (some [])) → Q (.panic [{ v := v, recovered := false }]) { a with defers := { target := .collected w.heap.size, args := #[] } :: a.defers } W) :
    (Code.rangeFunc g ps assign body).wpIn Fence.wide 0 P Q a w := by
  refine wpIn_rangeFunc (fun fn _ => ?_)
  obtain ⟨rc, hrc⟩ : ∃ rc : LoopState → Option Code → Loop, rc = fun st pe => { state := st, pending := pe, fn := fn, tmps := a.tmps, params := ps, assign := assign, body := body, defers := w.heap.size } := ⟨_, rfl⟩
  obtain ⟨V, hV⟩ : ∃ V, (w.alloc (.deferred (some []))).alloc (.loop (rc .ready none)) = V := ⟨_, rfl⟩
  have hVd : V.heap[w.heap.size]? = some (.deferred (some [])) := by rw [← hV]; exact (Below.heap_alloc _ _ _ (by simp)).trans (heap_alloc_new w _)
  have tV : Tn (fun _ => False) w V := by rw [← hV]; exact ((Tn.refl _ _).alloc _).alloc _
  refine ⟨w.heap.size + 1, [{ target := .collected w.heap.size, args := #[] }], V, { target := .fn (.func gf) lb, args := #[.func (.yield (w.heap.size + 1)) #[] #[]] }, V, gf, #[.func (.yield (w.heap.size + 1)) #[] #[]] ++ lb, V, ?_, ?_, fun _ _ => trivial, ?_, fun h => by simp [Fence.wide] at h, ?_⟩
  · rw [← hV, hrc]
    exact run_enterLoop_outer _ _ _ _ _
  · simp only [resolve, hg]
    simp [go_sem]
  · simp [invoke, go_sem, eg]
  · refine (hc V _ tV).mono ?_
    rintro e Y ⟨⟨v, rfl⟩, tY⟩
    exact hdone v Y (tV.trans tY (fun _ _ h => h)) ((tY.block _ (Array.getElem?_eq_some_iff.1 hVd).1 id).trans hVd)

theorem index_none (W : World) (k : Nat) : ∃ v W', (Instr.indexAt 47 (.slice none 0 0) (.int .i64 (k : Int))).run Try.prog W = .halt (.panic v) W' ∧ Tn (fun _ => False) W W' := by
  rw [Go.Lib.run_indexAt_nil W 47 3 0 0 .i64 (k : Int) Try.underlying47]
  unfold boundsPanic
  split
  · refine ⟨_, W.drew, by simp [runtimePanic, goPanic, go_sem]; rfl, (Tn.refl _ W).drew⟩
  · refine ⟨_, W, by simp [runtimePanic, goPanic, go_sem]; rfl, Tn.refl _ W⟩

set_option maxRecDepth 100000 in
set_option maxHeartbeats 1000000 in
theorem spoil_panics (W : World) (l eb kb k : Nat) (h1 : W.cell? ⟨eb, 0, none⟩ = some (.slice none 0 0)) (h2 : W.cell? ⟨kb, 0, none⟩ = some (.int .i64 (k : Int))) :
    CallsIn Fence.wide 0 Try.prog 18 #[.func (.yield l) #[] #[], .pointer (some ⟨eb, 0, none⟩), .pointer (some ⟨kb, 0, none⟩)] W fun e Y => (∃ v, e = .panicked [{ v := v, recovered := false }]) ∧ Tn (fun _ => False) W Y := by
  obtain ⟨v, W', hp, ht⟩ := index_none W k
  have HT : Hid (Tn (fun _ => False) W W') := ht
  clear ht
  refine callsIn_of_wp Try.func18 rfl trivial ?_ rfl
  simp only [Try.ntmps18, List.size_toArray, List.length_cons, List.length_nil, Nat.reduceAdd, Nat.reduceSub, Array.replicate_succ, Array.replicate_zero, List.push_toArray, List.append_toArray, List.nil_append, List.cons_append]
  gi_wp2
  exact ⟨rfl, ⟨_, rfl⟩, HT.out⟩

theorem rec_caught (v : Value) (w : World) : CallsD Try.prog 95 #[] (.panicking [{ v := v, recovered := false }]) w fun e u' w' => e = .returned (.tuple #[]) ∧ u' = .panicking [{ v := v, recovered := true }] ∧ w' = w := by
  refine callsD_of_wpS Try.func95 rfl fun c₀ cs hu => ?_
  first
    | apply wpS_region
    | (apply wpS_seq; apply wpS_region)
  simp [wpOpsS, go_sem, recoverD, hu, Try.ntmps95]
  cases c₀
  simp_all [bodyPostS, results, Try.results95]

set_option maxRecDepth 100000 in
set_option maxHeartbeats 1000000 in
theorem runs_caught (W : World) (mf : Nat) (ml : Array Value) (Q : World → Prop) (em : ∀ args w, (callFunc mf args).run Try.prog w = .ok (.enter mf args) w) (hc : Calls Try.prog mf ml W fun e Y => (∃ v, e = .panicked [{ v := v, recovered := false }]) ∧ Q Y) :
    Calls Try.prog 51 #[.func (.func mf) #[] ml] W fun e Y => e = .returned (.bool false) ∧ Q Y := by
  go_enter_defers Try.func51, Try.ntmps51
  go_wp2_with fail
  refine hc.mono ?_
  rintro e Y ⟨⟨v, rfl⟩, hq⟩
  have HQ : Hid (Q Y) := hq
  clear hq hc
  go_wp2
  refine leaves_cons (f := 95) (args := #[]) (by simp) (by simp [go_sem]) ?_
  refine (rec_caught _ _).mono ?_
  rintro e u' w6 ⟨rfl, rfl, rfl⟩
  exact ⟨_, results_tmp rfl _ _ _, rfl, HQ.out⟩

set_option maxRecDepth 100000 in
set_option maxHeartbeats 1000000 in
theorem list1_panics (W : World) (sb lbx mbx gbx eb kb k : Nat) (hsb : IsC W sb #[.func (.func 18) #[] #[.pointer (some ⟨eb, 0, none⟩), .pointer (some ⟨kb, 0, none⟩)]]) (h1 : IsC W eb #[.slice none 0 0]) (h2 : IsC W kb #[.int .i64 (k : Int)]) :
    CallsIn Fence.wide 0 Try.prog 52 #[.pointer (some ⟨sb, 0, none⟩), .pointer (some ⟨lbx, 0, none⟩), .pointer (some ⟨mbx, 0, none⟩), .pointer (some ⟨gbx, 0, none⟩)] W fun e Y => (∃ v, e = .panicked [{ v := v, recovered := false }]) ∧ Tn (fun _ => False) W Y := by
  have a1 : W.cell? ⟨sb, 0, none⟩ = some (.func (.func 18) #[] #[.pointer (some ⟨eb, 0, none⟩), .pointer (some ⟨kb, 0, none⟩)]) := hsb.cell 0
  have eg := enters_of Try.func18 (by kernel_rfl) rfl
  have HB : Hid (IsC W eb #[.slice none 0 0] ∧ IsC W kb #[.int .i64 (k : Int)]) := ⟨h1, h2⟩
  clear hsb h1 h2
  refine callsIn_of_wp_marks Try.func52 rfl trivial ?_ rfl
  simp only [Try.ntmps52, List.size_toArray, List.length_cons, List.length_nil, Nat.reduceAdd, Nat.reduceSub, Array.replicate_succ, Array.replicate_zero, List.push_toArray, List.append_toArray, List.nil_append, List.cons_append]
  gi_wp2_with fail
  refine range_panic rfl (fun args w => eg args w) (fun V l tV => spoil_panics V l eb kb k ((HB.out.1.tn tV id).cell 0) ((HB.out.2.tn tV id).cell 0)) ?_
  intro v X tX hD
  have HT : Hid (Tn (fun _ => False) W (X.putObj W.heap.size (.deferred none))) := tX.trans (Tn.put _ _ _) (fun i hi (e : i = W.heap.size) => by omega)
  clear tX
  gi_wp2
  refine ⟨by simp, .inl ⟨_, _, rfl, run_takeDeferred hD, ?_⟩⟩
  exact ⟨⟨_, rfl⟩, HT.out⟩

set_option maxRecDepth 100000 in
set_option maxHeartbeats 2000000 in
theorem list_panics (W : World) (eb kb k : Nat) (h1 : IsC W eb #[.slice none 0 0]) (h2 : IsC W kb #[.int .i64 (k : Int)]) (most : Int) (hm : 0 ≤ most) :
    Calls Try.prog 16 #[.func (.func 18) #[] #[.pointer (some ⟨eb, 0, none⟩), .pointer (some ⟨kb, 0, none⟩)], .int .i64 most] W fun e Y => e = .returned (.tuple #[.slice none 0 0, .int .i64 9]) ∧ Tn (fun _ => False) W Y := by
  obtain ⟨lb, hlb⟩ : ∃ lb : Array Value, #[.pointer (some ⟨eb, 0, none⟩), .pointer (some ⟨kb, 0, none⟩)] = lb := ⟨_, rfl⟩
  have hq1 : ∀ w, (binOp .eql 50 (.func (.func 18) #[] lb) .nilFunc).run Try.prog w = .ok (.bool false) w := fun _ => by kernel_rfl
  have hmf : ∀ (fn : Fn) (first cap : Array Value) (w : World), (Instr.makeFunc fn first cap).run Try.prog w = .ok (.func fn first cap) w := fun _ _ _ _ => rfl
  obtain ⟨W0, hW0⟩ : ∃ W0, ((((W.alloc (.cells #[.func (.func 18) #[] lb] 50)).alloc (.cells #[.int .i64 most] 3)).alloc (.cells #[.slice none 0 0] 47)).alloc (.cells #[.bool false] 4)) = W0 := ⟨_, rfl⟩
  have t0 : Tn (fun _ => False) W W0 := by rw [← hW0]; exact ((((Tn.refl _ _).alloc _).alloc _).alloc _).alloc _
  have hy0 : IsC W0 W.heap.size #[.func (.func 18) #[] lb] ∧ IsC W0 (W.heap.size + 3) #[.bool false] := by
    have y1 := isC_new W #[.func (.func 18) #[] lb] 50
    have y4 := isC_new (((W.alloc (.cells #[.func (.func 18) #[] lb] 50)).alloc (.cells #[.int .i64 most] 3)).alloc (.cells #[.slice none 0 0] 47)) #[.bool false] 4
    rw [← hW0]
    have n := fun (w : World) (o : Obj) => (Tn.refl (fun _ => False) w).alloc o
    exact ⟨((y1.tn (n _ _) id).tn (n _ _) id).tn (n _ _) id, by simpa using y4⟩
  have hl1 := list1_panics W0 W.heap.size (W.heap.size + 2) (W.heap.size + 1) (W.heap.size + 3) eb kb k (by rw [hlb]; exact hy0.1) (h1.tn t0 id) (h2.tn t0 id)
  have hrun := runs_caught W0 52 #[.pointer (some ⟨W.heap.size, 0, none⟩), .pointer (some ⟨W.heap.size + 2, 0, none⟩), .pointer (some ⟨W.heap.size + 1, 0, none⟩), .pointer (some ⟨W.heap.size + 3, 0, none⟩)] (fun Y => Tn (fun _ => False) W0 Y) (enters_of Try.func52 (by kernel_rfl) rfl) ((callsIn_wide (n := 0)).1 hl1)
  have HT0 : Hid (Tn (fun _ => False) W W0 ∧ IsC W0 (W.heap.size + 3) #[.bool false]) := ⟨t0, hy0.2⟩
  rw [← hW0] at hrun
  have HW0 : Hid (((((W.alloc (.cells #[.func (.func 18) #[] lb] 50)).alloc (.cells #[.int .i64 most] 3)).alloc (.cells #[.slice none 0 0] 47)).alloc (.cells #[.bool false] 4)) = W0) := hW0
  have hmb : ¬ most < 0 := by omega
  rw [hlb]
  clear hl1 t0 hy0 hW0 h1 h2 hlb
  go_enter Try.func16, Try.ntmps16
  go_wp2_with fail
  refine hrun.mono ?_
  rintro e Y ⟨rfl, h1⟩
  rw [HW0.out] at h1
  have HTY : Hid (Tn (fun _ => False) W Y) := HT0.out.1.trans h1 (fun _ _ h => h)
  have hn1 : ∀ b w, (Op.unary UnOp.not (.bool b)).run Try.prog w = .ok (.bool (!b)) w := fun b _ => by cases b <;> kernel_rfl
  have c1 : Y.cell? ⟨W.heap.size + 3, 0, none⟩ = some (.bool false) := (HT0.out.2.tn h1 id).cell 0
  clear hrun h1
  go_wp2
  go_ret2
  exact ⟨rfl, HTY.out⟩

end Go.Proofs.Ytjkgjckkglfokaa
