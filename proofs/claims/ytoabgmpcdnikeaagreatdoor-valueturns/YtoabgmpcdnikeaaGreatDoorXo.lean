/- every Bool, Number, Text and Compare: the law's body. -/
import Derived.Test.YtoabgmpcdnikeaaGreatDoorXn
import Derived.Test.YtoabgmpcdnikeaaGreatDoorXl
import Derived.Deep.RegionWith
import Derived.Deep.RegionLaw
import Derived.Deep.RegionHeld3
import Derived.BigQuiet
import Derived.Test.YtoabgmpcdnikeaaGreatDoorXc
import Derived.Deep.DeepCutAuto
namespace Go.Proofs.YtoabgmpcdnikeaaGreatDoor
open Go.RowKit
set_option linter.unusedVariables false

theorem step_call {P : Program} {f : FuncId} {xs : Array Operand} {ts : Array TypeId} {w : World} {ops : Array Oper} {o : Oper} {ac : Act} {K : Act → World → Prop} {Q : Exit → Act → World → Prop} {E : Prop} {R : Ending → World → Prop} (hgd : o.guard = none)
    (ho : o.op = .call { callee := .value (.func f), args := xs, argTypes := ts }) (hf : ∀ ys, (callFunc f ys).run P w = .ok (.enter f ys) w) (vs : Array Value) (hvs : xs.map ac.eval = vs) (hc : Calls P f vs w R) (hK : ∀ e w', R e w' → ∃ v, e = .returned v ∧ K (ac.put o.dst v) w') :
    if Region.wanted o (yielded ops ac.tmps) = true then Oper.wp P o ac w K Q else E := by
  have hw : Region.wanted o (yielded ops ac.tmps) = true := by simp [Region.wanted, hgd]
  rw [if_pos hw]
  unfold Oper.wp execOp
  have ev : ac.eval (Operand.func f) = .func (.func f) #[] #[] := rfl
  simp only [ho, resolve, Sem.run_bind, hvs, ev, Deferred.ofValue, Sem.run_pure, Result.andThen_ok, invoke, hf, Oper.upon, Array.append_empty, Array.empty_append]
  refine hc.mono ?_
  intro e w' h
  obtain ⟨v, rfl, hk⟩ := hK e w' h
  exact hk
theorem step_call1 {P : Program} {f : FuncId} {x1 : Operand} {ts : Array TypeId} {w : World} {ops : Array Oper} {o : Oper} {ac : Act} {K : Act → World → Prop} {Q : Exit → Act → World → Prop} {E : Prop} {R : Ending → World → Prop} {v1 : Value} (hgd : o.guard = none)
    (ho : o.op = .call { callee := .value (.func f), args := #[x1], argTypes := ts }) (hf : ∀ ys, (callFunc f ys).run P w = .ok (.enter f ys) w) (hc : Calls P f #[v1] w R) (h1 : ac.eval x1 = v1) (hK : ∀ e w', R e w' → ∃ v, e = .returned v ∧ K (ac.put o.dst v) w') :
    if Region.wanted o (yielded ops ac.tmps) = true then Oper.wp P o ac w K Q else E :=
  step_call hgd ho hf _ (by simp [h1]) hc hK
theorem call8 (w : World) (ys : Array Value) : (callFunc 8 ys).run Tryz.prog w = .ok (.enter 8 ys) w := by
  go_simp

theorem bd1 (W : World) (o : Obj) : Below W.heap.size W (W.alloc o).drew := ((Below.refl _ _).alloc (Nat.le_refl _) _).drew
theorem bd2 (W : World) (o o2 : Obj) : Below W.heap.size W ((W.alloc o).alloc o2).drew := (below2 W o o2).drew
theorem bd3 {W u : World} (h : Below W.heap.size W u) (o o2 : Obj) : Below W.heap.size W ((u.alloc o).alloc o2) := (h.alloc h.size _).alloc (Nat.le_trans h.size (by simp)) _
theorem bn1 {u v : World} {o : Obj} (h : Below (u.alloc o).heap.size (u.alloc o) v) : Below u.heap.size u v := (below1 _ _).trans (h.mono (by simp))
theorem bn2 {u v : World} {o o2 : Obj} (h : Below ((u.alloc o).alloc o2).heap.size ((u.alloc o).alloc o2) v) : Below u.heap.size u v := (below2 _ _ _).trans (h.mono (by simp; omega))
theorem icd1 {W : World} {B : Nat} {cs : Array Value} (h : IsCells W B cs) (o : Obj) : IsCells (W.alloc o).drew B cs := (h.alloc o).of_block rfl
theorem icd2 {W : World} {B : Nat} {cs : Array Value} (h : IsCells W B cs) (o o2 : Obj) : IsCells ((W.alloc o).alloc o2).drew B cs := ((h.alloc o).alloc o2).of_block rfl
theorem zd1 {W wA : World} {cs : Array Value} (hbA : Below (W.alloc (.cells cs 24)).drew.heap.size (W.alloc (.cells cs 24)).drew wA) : IsCells wA W.heap.size cs :=
  IsCells.of_block (IsCells.of_block (w' := (W.alloc (.cells cs 24)).drew) (isCells_new W cs 24) rfl) (hbA.block _ (by simp))
theorem zd2 {W wA : World} {cs ds : Array Value} (hbA : Below ((W.alloc (.cells cs 24)).alloc (.cells ds 24)).drew.heap.size ((W.alloc (.cells cs 24)).alloc (.cells ds 24)).drew wA) : IsCells wA W.heap.size cs ∧ IsCells wA (W.heap.size + 1) ds := by
  have g := isCells_new (W.alloc (.cells cs 24)) ds 24
  rw [show (W.alloc (.cells cs 24)).heap.size = W.heap.size + 1 from by simp] at g
  exact ⟨IsCells.of_block (IsCells.of_block (w' := ((W.alloc (.cells cs 24)).alloc (.cells ds 24)).drew) ((isCells_new W cs 24).alloc _) rfl) (hbA.block _ (by simp; omega)), IsCells.of_block (IsCells.of_block (w' := ((W.alloc (.cells cs 24)).alloc (.cells ds 24)).drew) g rfl) (hbA.block _ (by simp))⟩
theorem za1 {w wB : World} {cs : Array Value} (hb : Below (w.alloc (.cells cs 24)).heap.size (w.alloc (.cells cs 24)) wB) : IsCells wB w.heap.size cs :=
  (isCells_new w cs 24).of_block (hb.block _ (by simp))
theorem za2 {w wB : World} {cs ds : Array Value} (hb : Below ((w.alloc (.cells cs 24)).alloc (.cells ds 24)).heap.size ((w.alloc (.cells cs 24)).alloc (.cells ds 24)) wB) : IsCells wB w.heap.size cs ∧ IsCells wB (w.heap.size + 1) ds := by
  have g := isCells_new (w.alloc (.cells cs 24)) ds 24
  rw [show (w.alloc (.cells cs 24)).heap.size = w.heap.size + 1 from by simp] at g
  exact ⟨((isCells_new w cs 24).alloc _).of_block (hb.block _ (by simp; omega)), g.of_block (hb.block _ (by simp))⟩


theorem new2 (w : World) (cs ds : Array Value) : IsCells ((w.alloc (.cells cs 24)).alloc (.cells ds 24)) (w.heap.size + 1) ds := by
  have g := isCells_new (w.alloc (.cells cs 24)) ds 24
  rw [show (w.alloc (.cells cs 24)).heap.size = w.heap.size + 1 from by simp] at g
  exact g
theorem SsAt.set6 {w : World} {a : Option Addr} {L : List ByteArray} {B : Nat} (h : SsAt w a L) (hB : ∀ b o, a = some ⟨b, o, none⟩ → b ≠ B) (y0 y1 y2 y3 y4 y5 : Value) : SsAt ((((((w.setCell ⟨B, 0, none⟩ y0).setCell ⟨B, 1, none⟩ y1).setCell ⟨B, 2, none⟩ y2).setCell ⟨B, 3, none⟩ y3).setCell ⟨B, 4, none⟩ y4).setCell ⟨B, 5, none⟩ y5) a L :=
  (((((h.set hB 0 _).set hB 1 _).set hB 2 _).set hB 3 _).set hB 4 _).set hB 5 _
theorem IsCells.set6o {w : World} {B C : Nat} {cs : Array Value} (h : IsCells w C cs) (hB : C ≠ B) (y0 y1 y2 y3 y4 y5 : Value) : IsCells ((((((w.setCell ⟨B, 0, none⟩ y0).setCell ⟨B, 1, none⟩ y1).setCell ⟨B, 2, none⟩ y2).setCell ⟨B, 3, none⟩ y3).setCell ⟨B, 4, none⟩ y4).setCell ⟨B, 5, none⟩ y5) C cs :=
  (((((h.of_block (Below.heap_setCell _ _ _ _ hB)).of_block (Below.heap_setCell _ _ _ _ hB)).of_block (Below.heap_setCell _ _ _ _ hB)).of_block (Below.heap_setCell _ _ _ _ hB)).of_block (Below.heap_setCell _ _ _ _ hB)).of_block (Below.heap_setCell _ _ _ _ hB)
theorem fin_pq {W u : World} {P Q : Nat} {x0 x1 x2 x3 x4 x5 y0 y1 y2 y3 y4 y5 : Value} {ax ay : Option Addr} {xL yL : List ByteArray} (hb : Below W.heap.size W u) (hP : W.heap.size ≤ P) (hQ : W.heap.size ≤ Q) (hne : P ≠ Q) (hp : IsCells u P #[.int .i64 0, .bool false, .int .i64 0, .bool false, .string ⟨#[]⟩, .slice none 0 0]) (hq : IsCells u Q #[.int .i64 0, .bool false, .int .i64 0, .bool false, .string ⟨#[]⟩, .slice none 0 0]) (hsx : SsAt u ax xL) (hsy : SsAt u ay yL) (hvx : ∀ b o, ax = some ⟨b, o, none⟩ → b ≠ P ∧ b ≠ Q) (hvy : ∀ b o, ay = some ⟨b, o, none⟩ → b ≠ P ∧ b ≠ Q) :
    Hid (Below W.heap.size W ((((((((((((u.setCell ⟨P, 0, none⟩ x0).setCell ⟨P, 1, none⟩ x1).setCell ⟨P, 2, none⟩ x2).setCell ⟨P, 3, none⟩ x3).setCell ⟨P, 4, none⟩ x4).setCell ⟨P, 5, none⟩ x5).setCell ⟨Q, 0, none⟩ y0).setCell ⟨Q, 1, none⟩ y1).setCell ⟨Q, 2, none⟩ y2).setCell ⟨Q, 3, none⟩ y3).setCell ⟨Q, 4, none⟩ y4).setCell ⟨Q, 5, none⟩ y5) ∧ IsCells ((((((((((((u.setCell ⟨P, 0, none⟩ x0).setCell ⟨P, 1, none⟩ x1).setCell ⟨P, 2, none⟩ x2).setCell ⟨P, 3, none⟩ x3).setCell ⟨P, 4, none⟩ x4).setCell ⟨P, 5, none⟩ x5).setCell ⟨Q, 0, none⟩ y0).setCell ⟨Q, 1, none⟩ y1).setCell ⟨Q, 2, none⟩ y2).setCell ⟨Q, 3, none⟩ y3).setCell ⟨Q, 4, none⟩ y4).setCell ⟨Q, 5, none⟩ y5) P #[x0, x1, x2, x3, x4, x5] ∧ IsCells ((((((((((((u.setCell ⟨P, 0, none⟩ x0).setCell ⟨P, 1, none⟩ x1).setCell ⟨P, 2, none⟩ x2).setCell ⟨P, 3, none⟩ x3).setCell ⟨P, 4, none⟩ x4).setCell ⟨P, 5, none⟩ x5).setCell ⟨Q, 0, none⟩ y0).setCell ⟨Q, 1, none⟩ y1).setCell ⟨Q, 2, none⟩ y2).setCell ⟨Q, 3, none⟩ y3).setCell ⟨Q, 4, none⟩ y4).setCell ⟨Q, 5, none⟩ y5) Q #[y0, y1, y2, y3, y4, y5] ∧ SsAt ((((((((((((u.setCell ⟨P, 0, none⟩ x0).setCell ⟨P, 1, none⟩ x1).setCell ⟨P, 2, none⟩ x2).setCell ⟨P, 3, none⟩ x3).setCell ⟨P, 4, none⟩ x4).setCell ⟨P, 5, none⟩ x5).setCell ⟨Q, 0, none⟩ y0).setCell ⟨Q, 1, none⟩ y1).setCell ⟨Q, 2, none⟩ y2).setCell ⟨Q, 3, none⟩ y3).setCell ⟨Q, 4, none⟩ y4).setCell ⟨Q, 5, none⟩ y5) ax xL ∧ SsAt ((((((((((((u.setCell ⟨P, 0, none⟩ x0).setCell ⟨P, 1, none⟩ x1).setCell ⟨P, 2, none⟩ x2).setCell ⟨P, 3, none⟩ x3).setCell ⟨P, 4, none⟩ x4).setCell ⟨P, 5, none⟩ x5).setCell ⟨Q, 0, none⟩ y0).setCell ⟨Q, 1, none⟩ y1).setCell ⟨Q, 2, none⟩ y2).setCell ⟨Q, 3, none⟩ y3).setCell ⟨Q, 4, none⟩ y4).setCell ⟨Q, 5, none⟩ y5) ay yL) :=
  ⟨below6 (below6 hb hP _ _ _ _ _ _) hQ _ _ _ _ _ _, (set6 hp _ _ _ _ _ _).set6o hne _ _ _ _ _ _, set6 (hq.set6o (fun e => hne e.symm) _ _ _ _ _ _) _ _ _ _ _ _, (hsx.set6 (fun b o e => (hvx b o e).1) _ _ _ _ _ _).set6 (fun b o e => (hvx b o e).2) _ _ _ _ _ _, (hsy.set6 (fun b o e => (hvy b o e).1) _ _ _ _ _ _).set6 (fun b o e => (hvy b o e).2) _ _ _ _ _ _⟩
theorem size6 (u : World) (P : Nat) (x0 x1 x2 x3 x4 x5 : Value) : ((((((u.setCell ⟨P, 0, none⟩ x0).setCell ⟨P, 1, none⟩ x1).setCell ⟨P, 2, none⟩ x2).setCell ⟨P, 3, none⟩ x3).setCell ⟨P, 4, none⟩ x4).setCell ⟨P, 5, none⟩ x5).heap.size = u.heap.size := by simp [World.setCell]
theorem fin_pa {W u : World} {P : Nat} {x0 x1 x2 x3 x4 x5 y0 y1 y2 y3 y4 y5 : Value} {ax ay : Option Addr} {xL yL : List ByteArray} (hb : Below W.heap.size W u) (hP : W.heap.size ≤ P) (hp : IsCells u P #[.int .i64 0, .bool false, .int .i64 0, .bool false, .string ⟨#[]⟩, .slice none 0 0]) (hsx : SsAt u ax xL) (hsy : SsAt u ay yL) (hvx : ∀ b o, ax = some ⟨b, o, none⟩ → b ≠ P) (hvy : ∀ b o, ay = some ⟨b, o, none⟩ → b ≠ P) :
    Hid (Below W.heap.size W ((((((((u.setCell ⟨P, 0, none⟩ x0).setCell ⟨P, 1, none⟩ x1).setCell ⟨P, 2, none⟩ x2).setCell ⟨P, 3, none⟩ x3).setCell ⟨P, 4, none⟩ x4).setCell ⟨P, 5, none⟩ x5)).alloc (.cells #[y0, y1, y2, y3, y4, y5] 24)) ∧ IsCells ((((((((u.setCell ⟨P, 0, none⟩ x0).setCell ⟨P, 1, none⟩ x1).setCell ⟨P, 2, none⟩ x2).setCell ⟨P, 3, none⟩ x3).setCell ⟨P, 4, none⟩ x4).setCell ⟨P, 5, none⟩ x5)).alloc (.cells #[y0, y1, y2, y3, y4, y5] 24)) P #[x0, x1, x2, x3, x4, x5] ∧ IsCells ((((((((u.setCell ⟨P, 0, none⟩ x0).setCell ⟨P, 1, none⟩ x1).setCell ⟨P, 2, none⟩ x2).setCell ⟨P, 3, none⟩ x3).setCell ⟨P, 4, none⟩ x4).setCell ⟨P, 5, none⟩ x5)).alloc (.cells #[y0, y1, y2, y3, y4, y5] 24)) u.heap.size #[y0, y1, y2, y3, y4, y5] ∧ SsAt ((((((((u.setCell ⟨P, 0, none⟩ x0).setCell ⟨P, 1, none⟩ x1).setCell ⟨P, 2, none⟩ x2).setCell ⟨P, 3, none⟩ x3).setCell ⟨P, 4, none⟩ x4).setCell ⟨P, 5, none⟩ x5)).alloc (.cells #[y0, y1, y2, y3, y4, y5] 24)) ax xL ∧ SsAt ((((((((u.setCell ⟨P, 0, none⟩ x0).setCell ⟨P, 1, none⟩ x1).setCell ⟨P, 2, none⟩ x2).setCell ⟨P, 3, none⟩ x3).setCell ⟨P, 4, none⟩ x4).setCell ⟨P, 5, none⟩ x5)).alloc (.cells #[y0, y1, y2, y3, y4, y5] 24)) ay yL) := by
  have hs := size6 u P x0 x1 x2 x3 x4 x5
  have hn := isCells_new (((((((u.setCell ⟨P, 0, none⟩ x0).setCell ⟨P, 1, none⟩ x1).setCell ⟨P, 2, none⟩ x2).setCell ⟨P, 3, none⟩ x3).setCell ⟨P, 4, none⟩ x4).setCell ⟨P, 5, none⟩ x5)) #[y0, y1, y2, y3, y4, y5] 24
  rw [hs] at hn
  exact ⟨(below6 hb hP _ _ _ _ _ _).alloc (by rw [hs]; exact hb.size) _, (set6 hp _ _ _ _ _ _).alloc _, hn, (hsx.set6 hvx _ _ _ _ _ _).bel (below1 _ _), (hsy.set6 hvy _ _ _ _ _ _).bel (below1 _ _)⟩
theorem fin_aa {W u : World} {x0 x1 x2 x3 x4 x5 y0 y1 y2 y3 y4 y5 : Value} {ax ay : Option Addr} {xL yL : List ByteArray} (hb : Below W.heap.size W u) (hsx : SsAt u ax xL) (hsy : SsAt u ay yL) :
    Hid (Below W.heap.size W ((u.alloc (.cells #[x0, x1, x2, x3, x4, x5] 24)).alloc (.cells #[y0, y1, y2, y3, y4, y5] 24)) ∧ IsCells ((u.alloc (.cells #[x0, x1, x2, x3, x4, x5] 24)).alloc (.cells #[y0, y1, y2, y3, y4, y5] 24)) u.heap.size #[x0, x1, x2, x3, x4, x5] ∧ IsCells ((u.alloc (.cells #[x0, x1, x2, x3, x4, x5] 24)).alloc (.cells #[y0, y1, y2, y3, y4, y5] 24)) (u.heap.size + 1) #[y0, y1, y2, y3, y4, y5] ∧ SsAt ((u.alloc (.cells #[x0, x1, x2, x3, x4, x5] 24)).alloc (.cells #[y0, y1, y2, y3, y4, y5] 24)) ax xL ∧ SsAt ((u.alloc (.cells #[x0, x1, x2, x3, x4, x5] 24)).alloc (.cells #[y0, y1, y2, y3, y4, y5] 24)) ay yL) :=
  ⟨(hb.alloc hb.size _).alloc (Nat.le_trans hb.size (by simp)) _, (isCells_new _ _ _).alloc _, new2 _ _ _, hsx.bel (below2 _ _ _), hsy.bel (below2 _ _ _)⟩
theorem swap_fin {A B C D E : Prop} (h : Hid (A ∧ B ∧ C ∧ D ∧ E)) : Hid (A ∧ C ∧ B ∧ E ∧ D) := ⟨h.out.1, h.out.2.2.1, h.out.2.1, h.out.2.2.2.2, h.out.2.2.2.1⟩
theorem can_kind {k : Int} {t : Bs} {L : List Bs} (h : canV k t L = true) : k = 1 ∨ k = 2 ∨ k = 3 ∨ k = 4 := by
  unfold canV at h
  by_cases h1 : k = 1 ∨ k = 2
  · omega
  · rw [if_neg h1] at h
    by_cases h3 : k = 3
    · omega
    · rw [if_neg h3] at h
      by_cases h4 : k = 4
      · omega
      · rw [if_neg h4] at h
        cases h
theorem Calls.bel_first {P : Program} {f : FuncId} {args : Array Value} {W : World} {v : Value}
    (h : Calls P f args W fun e w' => e = .returned v ∧ Below W.heap.size W w') : Calls P f args W fun e w'' => e = .returned v ∧ ∃ u' : Bel W, w'' = u'.w :=
  h.mono fun _ w' ⟨he, hm⟩ => ⟨he, ⟨w', hm⟩, rfl⟩
theorem rd_zero {s : Bs} (h : (rdN s).2 = false) : (rdN s).1 = 0 := by
  unfold rdN at h ⊢
  split
  · rename_i v hv
    rw [hv] at h
    simp only at h
    split at h
    · rename_i h2
      rw [if_pos h2]
    · cases h
  · rfl
theorem nm_zero {k n : Int} {b no : Bool} {t : ByteArray} {L : List ByteArray} (h : (nmV k b n no t L).2 = false) : (nmV k b n no t L).1 = 0 := by
  unfold nmV at h ⊢
  split
  · rename_i h1
    rw [if_pos h1] at h
    cases h
  · rename_i h1
    rw [if_neg h1] at h
    split
    · rename_i h2
      rw [if_pos h2] at h
      cases no
      · cases h
      · rfl
    · rename_i h2
      rw [if_neg h2] at h
      exact rd_zero h

attribute [local go_sem] Bel.cell Bel.fz
set_option maxRecDepth 100000 in
set_option maxHeartbeats 80000000 in
theorem turns_walk (w : World) (op : ByteArray) {xk xn yk yn : Int} {xb xo yb yo : Bool} {xt yt : ByteArray} {xa ya : Option Addr} {xc yc : Nat} {xL yL : List ByteArray} (hxv : VOk w ⟨xk, xb, xn, xo, xt, xL⟩ xa) (hyv : VOk w ⟨yk, yb, yn, yo, yt, yL⟩ ya) (G : Gl w) (hxz : xL.length * 16 ≤ 140737488351232) (hyz : yL.length * 16 ≤ 140737488351232) :
    Calls Tryz.prog 3 #[.agg #[.int .i64 xk, .bool xb, .int .i64 xn, .bool xo, .string xt, .slice xa xL.length xc], .agg #[.int .i64 yk, .bool yb, .int .i64 yn, .bool yo, .string yt, .slice ya yL.length yc], .string op] w fun e w' => e = .returned (.bool true) ∧ Below w.heap.size w w' := by
  obtain ⟨W, hW⟩ : ∃ W, ((w.alloc (.cells #[.int .i64 xk, .bool xb, .int .i64 xn, .bool xo, .string xt, .slice xa xL.length xc] 24)).alloc (.cells #[.int .i64 yk, .bool yb, .int .i64 yn, .bool yo, .string yt, .slice ya yL.length yc] 24)) = W := ⟨_, rfl⟩
  have hbW : Below w.heap.size w W := by rw [← hW]; exact below2 _ _ _
  have hx : IsCells W w.heap.size #[.int .i64 xk, .bool xb, .int .i64 xn, .bool xo, .string xt, .slice xa xL.length xc] := by rw [← hW]; exact (isCells_new w _ 24).alloc _
  have hy : IsCells W (w.heap.size + 1) #[.int .i64 yk, .bool yb, .int .i64 yn, .bool yo, .string yt, .slice ya yL.length yc] := by
    have := isCells_new (w.alloc (.cells #[.int .i64 xk, .bool xb, .int .i64 xn, .bool xo, .string xt, .slice xa xL.length xc] 24)) #[.int .i64 yk, .bool yb, .int .i64 yn, .bool yo, .string yt, .slice ya yL.length yc] 24
    rw [hW] at this
    simpa using this
  have HW : Hid (((w.alloc (.cells #[.int .i64 xk, .bool xb, .int .i64 xn, .bool xo, .string xt, .slice xa xL.length xc] 24)).alloc (.cells #[.int .i64 yk, .bool yb, .int .i64 yn, .bool yo, .string yt, .slice ya yL.length yc] 24)) = W ∧ Below w.heap.size w W ∧ IsCells W w.heap.size #[.int .i64 xk, .bool xb, .int .i64 xn, .bool xo, .string xt, .slice xa xL.length xc] ∧ IsCells W (w.heap.size + 1) #[.int .i64 yk, .bool yb, .int .i64 yn, .bool yo, .string yt, .slice ya yL.length yc]) := ⟨hW, hbW, hx, hy⟩
  have HH : Hid (VOk w ⟨xk, xb, xn, xo, xt, xL⟩ xa ∧ VOk w ⟨yk, yb, yn, yo, yt, yL⟩ ya ∧ Gl w ∧ xL.length * 16 ≤ 140737488351232 ∧ yL.length * 16 ≤ 140737488351232) := ⟨hxv, hyv, G, hxz, hyz⟩
  obtain ⟨x0, x1, x2, x3, x4, x5, y0, y1, y2, y3, y4, y5⟩ := two_cells hx hy
  clear hW hbW hx hy hxv hyv G hxz hyz
  go_enter Tryz.func3, Tryz.ntmps3
  go_upto_region 1 with fail
  rw [HW.out.1]
  have HB : Hid (Below W.heap.size W W.drew) := (Below.refl _ _).drew
  have hqW := two_cells HW.out.2.2.1 HW.out.2.2.2
  obtain ⟨a0, a1, a2, a3, a4, a5, d0, d1, d2, d3, d4, d5⟩ := hqW
  clear x0 x1 x2 x3 x4 x5 y0 y1 y2 y3 y4 y5
  obtain ⟨x0, x1, x2, x3, x4, x5, y0, y1, y2, y3, y4, y5⟩ := two_cells (X := W.drew) (HW.out.2.2.1.of_block rfl) (HW.out.2.2.2.of_block rfl)
  go_cut [7, 8] (fun s7 s8 wx => ∃ (P Q : Nat) (ax ay : Option Addr) (cx cy : Nat), s7 = .pointer (some ⟨P, 0, none⟩) ∧ s8 = .pointer (some ⟨Q, 0, none⟩) ∧ Hid (Below W.heap.size W wx ∧ IsCells wx P #[.int .i64 xk, .bool xb, .int .i64 xn, .bool xo, .string xt, .slice ax xL.length cx] ∧ IsCells wx Q #[.int .i64 yk, .bool yb, .int .i64 yn, .bool yo, .string yt, .slice ay yL.length cy] ∧ SsAt wx ax xL ∧ SsAt wx ay yL))
  case first =>
    have bl0 := HW.out.2.2.1.lt
    have bl1 := HW.out.2.2.2.lt
    have hK := two_cells (X := W.drew) (HW.out.2.2.1.of_block rfl) (HW.out.2.2.2.of_block rfl)
    go_region_held3 (fun X => X.cell? ⟨w.heap.size, 0, none⟩ = some (.int .i64 xk) ∧ X.cell? ⟨w.heap.size, 1, none⟩ = some (.bool xb) ∧ X.cell? ⟨w.heap.size, 2, none⟩ = some (.int .i64 xn) ∧ X.cell? ⟨w.heap.size, 3, none⟩ = some (.bool xo) ∧ X.cell? ⟨w.heap.size, 4, none⟩ = some (.string xt) ∧ X.cell? ⟨w.heap.size, 5, none⟩ = some (.slice xa xL.length xc) ∧ X.cell? ⟨w.heap.size + 1, 0, none⟩ = some (.int .i64 yk) ∧ X.cell? ⟨w.heap.size + 1, 1, none⟩ = some (.bool yb) ∧ X.cell? ⟨w.heap.size + 1, 2, none⟩ = some (.int .i64 yn) ∧ X.cell? ⟨w.heap.size + 1, 3, none⟩ = some (.bool yo) ∧ X.cell? ⟨w.heap.size + 1, 4, none⟩ = some (.string yt) ∧ X.cell? ⟨w.heap.size + 1, 5, none⟩ = some (.slice ya yL.length yc)) (first | with_reducible exact hK | exact two_cells (by repeat (first | with_reducible exact (HW.out.2.2.1.of_block (HB.out.block _ HW.out.2.2.1.lt)) | with_reducible refine IsCells.alloc ?_ _ | with_reducible refine IsCells.set6o ?_ (by omega) _ _ _ _ _ _ | with_reducible exact icd1 HW.out.2.2.1 _ | with_reducible exact icd2 HW.out.2.2.1 _ _)) (by repeat (first | with_reducible exact (HW.out.2.2.2.of_block (HB.out.block _ HW.out.2.2.2.lt)) | with_reducible refine IsCells.alloc ?_ _ | with_reducible refine IsCells.set6o ?_ (by omega) _ _ _ _ _ _ | with_reducible exact icd1 HW.out.2.2.2 _ | with_reducible exact icd2 HW.out.2.2.2 _ _)) | go_keep) (first | (go_at_call 8; (with_reducible refine Calls.mono (own_any _ (c := xc) (HH.out.1.bel (HW.out.2.1.trans (Below.mono (by first | with_reducible exact HB.out | with_reducible exact HB.out.alloc HB.out.size _ | with_reducible exact bd3 HB.out _ _ | with_reducible exact bd2 _ _ _ | with_reducible exact bd1 _ _) HW.out.2.1.size))) HH.out.2.2.2.1) ?_); rintro e wA ⟨ax, cx, rfl, hsx, hbA, hvx⟩; have hbp : Below W.heap.size W wA := Below.trans (by first | with_reducible exact HB.out | with_reducible exact HB.out.alloc HB.out.size _ | with_reducible exact bd3 HB.out _ _ | with_reducible exact bd2 _ _ _ | with_reducible exact bd1 _ _) (hbA.mono (Below.size (by first | with_reducible exact HB.out | with_reducible exact HB.out.alloc HB.out.size _ | with_reducible exact bd3 HB.out _ _ | with_reducible exact bd2 _ _ _ | with_reducible exact bd1 _ _))); (first | (have hq := zd2 hbA; obtain ⟨hZ0, hZ1⟩ := hq) | (have hZ0 := zd1 hbA) | skip); (try (have hl0 := IsCells.lt hZ0; have hq := six_cells hZ0; obtain ⟨g0,g1,g2,g3,g4,g5⟩ := hq; have hq := six_frozen hZ0; obtain ⟨gf0,gf1,gf2,gf3,gf4,gf5⟩ := hq)); (try (have hl1 := IsCells.lt hZ1; have hq := six_cells hZ1; obtain ⟨h0,h1,h2,h3,h4,h5⟩ := hq; have hq := six_frozen hZ1; obtain ⟨hf0,hf1,hf2,hf3,hf4,hf5⟩ := hq)); (try have HZ0 : Hid (IsCells wA W.heap.size #[.int .i64 0, .bool false, .int .i64 0, .bool false, .string ⟨#[]⟩, .slice none 0 0]) := hZ0); (try have HZ1 : Hid (IsCells wA (W.heap.size + 1) #[.int .i64 0, .bool false, .int .i64 0, .bool false, .string ⟨#[]⟩, .slice none 0 0]) := hZ1); (try clear hZ0); (try clear hZ1); have HB : Hid (Below W.heap.size W wA) := hbp; clear hbp; clear x0 x1 x2 x3 x4 x5 y0 y1 y2 y3 y4 y5; obtain ⟨x0, x1, x2, x3, x4, x5, y0, y1, y2, y3, y4, y5⟩ := two_cells (X := wA) (HW.out.2.2.1.of_block (HB.out.block _ HW.out.2.2.1.lt)) (HW.out.2.2.2.of_block (HB.out.block _ HW.out.2.2.2.lt)); have hK := two_cells (X := wA) (HW.out.2.2.1.of_block (HB.out.block _ HW.out.2.2.1.lt)) (HW.out.2.2.2.of_block (HB.out.block _ HW.out.2.2.2.lt)); have blA0 : w.heap.size < wA.heap.size := Nat.lt_of_lt_of_le HW.out.2.2.1.lt HB.out.size; have blA1 : w.heap.size + 1 < wA.heap.size := Nat.lt_of_lt_of_le HW.out.2.2.2.lt HB.out.size; have HSx : Hid (SsAt wA ax xL) := hsx; have HVx : Hid _ := hvx; have szA := Below.size hbA;  have HNA : Hid _ := hbA; clear hsx hvx hbA) | (go_at_call 8; (with_reducible refine Calls.mono (own_any _ (c := yc) (HH.out.2.1.bel (HW.out.2.1.trans (Below.mono (by first | with_reducible exact HB.out | with_reducible exact HB.out.alloc HB.out.size _ | with_reducible exact bd3 HB.out _ _ | with_reducible exact bd2 _ _ _ | with_reducible exact bd1 _ _) HW.out.2.1.size))) HH.out.2.2.2.2) ?_); rintro e wB ⟨ay, cy, rfl, hsy, hbB, hvy⟩; have hbp : Below W.heap.size W wB := Below.trans (by first | with_reducible exact HB.out | with_reducible exact HB.out.alloc HB.out.size _ | with_reducible exact bd3 HB.out _ _ | with_reducible exact bd2 _ _ _ | with_reducible exact bd1 _ _) (hbB.mono (Below.size (by first | with_reducible exact HB.out | with_reducible exact HB.out.alloc HB.out.size _ | with_reducible exact bd3 HB.out _ _ | with_reducible exact bd2 _ _ _ | with_reducible exact bd1 _ _))); have hNN : Below wA.heap.size wA wB := (by first | with_reducible exact hbB | with_reducible exact bn1 hbB | with_reducible exact bn2 hbB); (try have hZ0 : IsCells wB W.heap.size #[.int .i64 0, .bool false, .int .i64 0, .bool false, .string ⟨#[]⟩, .slice none 0 0] := IsCells.of_block HZ0.out (hNN.block _ (IsCells.lt HZ0.out))); (try have hZ1 : IsCells wB (W.heap.size + 1) #[.int .i64 0, .bool false, .int .i64 0, .bool false, .string ⟨#[]⟩, .slice none 0 0] := IsCells.of_block HZ1.out (hNN.block _ (IsCells.lt HZ1.out))); (first | (have hq := za2 hbB; obtain ⟨hZ2, hZ3⟩ := hq) | (have hZ2 := za1 hbB) | skip); (try (have hl0 := IsCells.lt hZ0; have hq := six_cells hZ0; obtain ⟨g0,g1,g2,g3,g4,g5⟩ := hq; have hq := six_frozen hZ0; obtain ⟨gf0,gf1,gf2,gf3,gf4,gf5⟩ := hq)); (try (have hl1 := IsCells.lt hZ1; have hq := six_cells hZ1; obtain ⟨h0,h1,h2,h3,h4,h5⟩ := hq; have hq := six_frozen hZ1; obtain ⟨hf0,hf1,hf2,hf3,hf4,hf5⟩ := hq)); (try (have hl2 := IsCells.lt hZ2; have hq := six_cells hZ2; obtain ⟨i0,i1,i2,i3,i4,i5⟩ := hq; have hq := six_frozen hZ2; obtain ⟨if0,if1,if2,if3,if4,if5⟩ := hq)); (try (have hl3 := IsCells.lt hZ3; have hq := six_cells hZ3; obtain ⟨j0,j1,j2,j3,j4,j5⟩ := hq; have hq := six_frozen hZ3; obtain ⟨jf0,jf1,jf2,jf3,jf4,jf5⟩ := hq)); (try have HZ0 : Hid (IsCells wB W.heap.size #[.int .i64 0, .bool false, .int .i64 0, .bool false, .string ⟨#[]⟩, .slice none 0 0]) := hZ0); (try have HZ1 : Hid (IsCells wB (W.heap.size + 1) #[.int .i64 0, .bool false, .int .i64 0, .bool false, .string ⟨#[]⟩, .slice none 0 0]) := hZ1); (try have HZ2 : Hid (IsCells wB wA.heap.size #[.int .i64 0, .bool false, .int .i64 0, .bool false, .string ⟨#[]⟩, .slice none 0 0]) := hZ2); (try have HZ3 : Hid (IsCells wB (wA.heap.size + 1) #[.int .i64 0, .bool false, .int .i64 0, .bool false, .string ⟨#[]⟩, .slice none 0 0]) := hZ3); (try clear hZ0); (try clear hZ1); (try clear hZ2); (try clear hZ3); have HSx : Hid (SsAt wB ax xL) := HSx.out.bel hNN; have HB : Hid (Below W.heap.size W wB) := hbp; clear hbp; clear x0 x1 x2 x3 x4 x5 y0 y1 y2 y3 y4 y5; obtain ⟨x0, x1, x2, x3, x4, x5, y0, y1, y2, y3, y4, y5⟩ := two_cells (X := wB) (HW.out.2.2.1.of_block (HB.out.block _ HW.out.2.2.1.lt)) (HW.out.2.2.2.of_block (HB.out.block _ HW.out.2.2.2.lt)); have hK := two_cells (X := wB) (HW.out.2.2.1.of_block (HB.out.block _ HW.out.2.2.1.lt)) (HW.out.2.2.2.of_block (HB.out.block _ HW.out.2.2.2.lt)); have blB0 : w.heap.size < wB.heap.size := Nat.lt_of_lt_of_le HW.out.2.2.1.lt HB.out.size; have blB1 : w.heap.size + 1 < wB.heap.size := Nat.lt_of_lt_of_le HW.out.2.2.2.lt HB.out.size; have HSy : Hid (SsAt wB ay yL) := hsy; have HVy : Hid _ := hvy; have HNB : Hid _ := hbB; clear hsy hvy hbB hNN))
    all_goals (
      go_wp2_with fail
      go_meet
      first | (with_reducible refine ⟨wB.heap.size, wB.heap.size + 1, ax, ay, cx, cy, rfl, rfl, ?_⟩; with_reducible refine fin_aa HB.out HSx.out HSy.out) | (with_reducible refine ⟨wB.heap.size + 1, wB.heap.size, ax, ay, cx, cy, rfl, rfl, ?_⟩; with_reducible refine swap_fin (fin_aa HB.out HSy.out HSx.out)) | (with_reducible refine ⟨_, wB.heap.size, ax, ay, cx, cy, rfl, rfl, ?_⟩; with_reducible refine fin_pa HB.out ?g1 ?g2 HSx.out HSy.out ?g3 ?g4; (case g2 => first | with_reducible exact HZ0.out | with_reducible exact HZ1.out | with_reducible exact HZ2.out | with_reducible exact HZ3.out); (case g1 => have s1 := HB.out.size; have s2 := szA; (try simp at s2); omega); (case g3 => intro b o e; have h := HVx.out b o e; (try simp at h); have s1 := HB.out.size; omega); (case g4 => intro b o e; have h := HVy.out b o e; (try simp at h); have s1 := HB.out.size; omega)) | (with_reducible refine ⟨wB.heap.size, _, ax, ay, cx, cy, rfl, rfl, ?_⟩; with_reducible refine swap_fin (fin_pa HB.out ?g1 ?g2 HSy.out HSx.out ?g3 ?g4); (case g2 => first | with_reducible exact HZ0.out | with_reducible exact HZ1.out | with_reducible exact HZ2.out | with_reducible exact HZ3.out); (case g1 => have s1 := HB.out.size; have s2 := szA; (try simp at s2); omega); (case g3 => intro b o e; have h := HVy.out b o e; (try simp at h); have s1 := HB.out.size; omega); (case g4 => intro b o e; have h := HVx.out b o e; (try simp at h); have s1 := HB.out.size; omega)) | (with_reducible refine ⟨_, _, ax, ay, cx, cy, rfl, rfl, ?_⟩; with_reducible refine fin_pq HB.out ?g1 ?g2 ?g3 ?g4 ?g5 HSx.out HSy.out ?g6 ?g7; (case g4 => first | with_reducible exact HZ0.out | with_reducible exact HZ1.out | with_reducible exact HZ2.out | with_reducible exact HZ3.out); (case g5 => first | with_reducible exact HZ0.out | with_reducible exact HZ1.out | with_reducible exact HZ2.out | with_reducible exact HZ3.out); (case g1 => have s1 := HB.out.size; have s2 := szA; (try simp at s2); omega); (case g2 => have s1 := HB.out.size; have s2 := szA; (try simp at s2); omega); (case g3 => omega); (case g6 => intro b o e; have h := HVx.out b o e; (try simp at h); have s1 := HB.out.size; constructor <;> omega); (case g7 => intro b o e; have h := HVy.out b o e; (try simp at h); have s1 := HB.out.size; constructor <;> omega)))
  case rest =>
    obtain ⟨P, Q, ax, ay, cx, cy, rfl, rfl, HC⟩ := hcut
    clear x0 x1 x2 x3 x4 x5 y0 y1 y2 y3 y4 y5 HB a0 a1 a2 a3 a4 a5 d0 d1 d2 d3 d4 d5
    have HI : Hid (IsCells wc w.heap.size #[.int .i64 xk, .bool xb, .int .i64 xn, .bool xo, .string xt, .slice xa xL.length xc] ∧ IsCells wc (w.heap.size + 1) #[.int .i64 yk, .bool yb, .int .i64 yn, .bool yo, .string yt, .slice ya yL.length yc] ∧ Below w.heap.size w wc) := ⟨HW.out.2.2.1.of_block (HC.out.1.block _ HW.out.2.2.1.lt), HW.out.2.2.2.of_block (HC.out.1.block _ HW.out.2.2.2.lt), HW.out.2.1.trans (HC.out.1.mono HW.out.2.1.size)⟩
    obtain ⟨x0, x1, x2, x3, x4, x5, y0, y1, y2, y3, y4, y5⟩ := two_cells HI.out.1 HI.out.2.1
    obtain ⟨p0, p1, p2, p3, p4, p5, q0, q1, q2, q3, q4, q5⟩ := two_cells HC.out.2.1 HC.out.2.2.1
    have b1 := HI.out.1.lt
    have b2 := HI.out.2.1.lt
    have b3 := HC.out.2.1.lt
    have b4 := HC.out.2.2.1.lt
    have HV : Hid (∀ u : Bel wc, VOk u.w ⟨xk, xb, xn, xo, xt, xL⟩ xa ∧ VOk u.w ⟨yk, yb, yn, yo, yt, yL⟩ ya ∧ VOk u.w ⟨xk, xb, xn, xo, xt, xL⟩ ax ∧ VOk u.w ⟨yk, yb, yn, yo, yt, yL⟩ ay ∧ Gl u.w) := fun u => by
      have h1 := HI.out.2.2.trans (u.h.mono HI.out.2.2.size)
      exact ⟨HH.out.1.bel h1, HH.out.2.1.bel h1, ⟨HC.out.2.2.2.1.bel u.h, HH.out.1.len, HH.out.1.n0, HH.out.1.n1, HH.out.1.ts, HH.out.1.ls⟩, ⟨HC.out.2.2.2.2.bel u.h, HH.out.2.1.len, HH.out.2.1.n0, HH.out.2.1.n1, HH.out.2.1.ts, HH.out.2.1.ls⟩, HH.out.2.2.1.bel h1⟩
    obtain ⟨n1, n2, HN⟩ : ∃ n1 n2, Hid (nmV xk xb xn xo xt xL = (n1, n2)) := ⟨_, _, rfl⟩
    obtain ⟨tx, HT⟩ : ∃ tx, Hid (txV xk xb xn xo xt xL = tx) := ⟨_, rfl⟩
    obtain ⟨tb, HTB⟩ : ∃ tb, Hid (trB xk xb xn xo (Tx xt) xL.length = tb) := ⟨_, rfl⟩
    obtain ⟨R, HR⟩ : ∃ R, Hid (cmpV op ⟨xk, xb, xn, xo, xt, xL⟩ ⟨yk, yb, yn, yo, yt, yL⟩ = R) := ⟨_, rfl⟩
    have hN0 : n2 = false → n1 = 0 := fun h => by
      have g := @nm_zero xk xn xb xo xt xL (by rw [HN.out]; exact h)
      rw [HN.out] at g
      exact g
    have D14 : ∀ u : Bel wc, Calls Tryz.prog 14 #[.agg #[.int .i64 xk, .bool xb, .int .i64 xn, .bool xo, .string xt, .slice ax xL.length cx], .agg #[.int .i64 xk, .bool xb, .int .i64 xn, .bool xo, .string xt, .slice xa xL.length xc]] u.w fun e w' => e = .returned (.bool true) ∧ Below u.w.heap.size u.w w' := fun u => dsame_any u.w (HV.out u).2.2.1.at_ (HV.out u).1.at_ (HV.out u).1.len
    have E14 : ∀ u : Bel wc, Calls Tryz.prog 14 #[.agg #[.int .i64 yk, .bool yb, .int .i64 yn, .bool yo, .string yt, .slice ay yL.length cy], .agg #[.int .i64 yk, .bool yb, .int .i64 yn, .bool yo, .string yt, .slice ya yL.length yc]] u.w fun e w' => e = .returned (.bool true) ∧ Below u.w.heap.size u.w w' := fun u => dsame_any u.w (HV.out u).2.2.2.1.at_ (HV.out u).2.1.at_ (HV.out u).2.1.len
    have C18 : ∀ u : Bel wc, Calls Tryz.prog 18 #[.string op] u.w fun e w' => e = .returned (.bool (isOpB op)) ∧ w' = u.w := fun u => dsign_any u.w op
    have C13 : ∀ u : Bel wc, Calls Tryz.prog 13 #[.agg #[.int .i64 xk, .bool xb, .int .i64 xn, .bool xo, .string xt, .slice xa xL.length xc]] u.w fun e w' => e = .returned (.bool (canV xk (Tx xt) (xL.map Tx))) ∧ Below u.w.heap.size u.w w' := fun u => dcan_any u.w (HV.out u).1
    have E13 : ∀ u : Bel wc, Calls Tryz.prog 13 #[.agg #[.int .i64 yk, .bool yb, .int .i64 yn, .bool yo, .string yt, .slice ya yL.length yc]] u.w fun e w' => e = .returned (.bool (canV yk (Tx yt) (yL.map Tx))) ∧ Below u.w.heap.size u.w w' := fun u => dcan_any u.w (HV.out u).2.1
    have C9 : ∀ (z : Bool), canV xk (Tx xt) (xL.map Tx) = z → ∀ u : Bel wc, Calls Tryz.prog 9 #[.agg #[.int .i64 xk, .bool xb, .int .i64 xn, .bool xo, .string xt, .slice ax xL.length cx]] u.w fun e w' => e = .returned (.tuple #[.bool (z && tb), .int .i64 (if z then 0 else 141)]) ∧ Below u.w.heap.size u.w w' := fun z hz u => by
      have h := bool_any u.w (c := cx) (HV.out u).2.2.1 z hz
      rw [HTB.out] at h
      exact h
    have C10 : ∀ (z : Bool), canV xk (Tx xt) (xL.map Tx) = z → ∀ u : Bel wc, Calls Tryz.prog 10 #[.agg #[.int .i64 xk, .bool xb, .int .i64 xn, .bool xo, .string xt, .slice ax xL.length cx]] u.w fun e w' => e = .returned (.tuple #[.int .i64 (if z then n1 else 0), .bool (z && n2), .int .i64 (if z then 0 else 141)]) ∧ Below u.w.heap.size u.w w' := fun z hz u => by
      have h := number_call u.w (HV.out u).2.2.2.2 (c := cx) (HV.out u).2.2.1 z hz
      rw [HN.out] at h
      exact h
    have C11 : ∀ (z : Bool), canV xk (Tx xt) (xL.map Tx) = z → ∀ u : Bel wc, Calls Tryz.prog 11 #[.agg #[.int .i64 xk, .bool xb, .int .i64 xn, .bool xo, .string xt, .slice ax xL.length cx]] u.w fun e w' => e = .returned (.tuple #[.string (if z then tx else ⟨#[]⟩), .int .i64 (if z then 0 else 141)]) ∧ Below u.w.heap.size u.w w' := fun z hz u => by
      have h := text_call u.w (HV.out u).2.2.2.2 (c := cx) (HV.out u).2.2.1 z hz
      rw [HT.out] at h
      exact h
    have C12 : ∀ (r : Bool) (e1 : Int), cmpR op ⟨xk, xb, xn, xo, xt, xL⟩ ⟨yk, yb, yn, yo, yt, yL⟩ = (r, e1) → ∀ u : Bel wc, Calls Tryz.prog 12 #[.string op, .agg #[.int .i64 xk, .bool xb, .int .i64 xn, .bool xo, .string xt, .slice ax xL.length cx], .agg #[.int .i64 yk, .bool yb, .int .i64 yn, .bool yo, .string yt, .slice ay yL.length cy]] u.w fun e w' => e = .returned (.tuple #[.bool r, .int .i64 e1]) ∧ Below u.w.heap.size u.w w' := fun r e1 hr u => compare_any u.w op (HV.out u).2.2.1 (HV.out u).2.2.2.1 (HV.out u).2.2.2.2 r e1 hr
    have HCM : Hid (cmpR op ⟨xk, xb, xn, xo, xt, xL⟩ ⟨yk, yb, yn, yo, yt, yL⟩ = if isOpB op = false then (false, 1) else if (canV xk (Tx xt) (xL.map Tx) && canV yk (Tx yt) (yL.map Tx)) = false then (false, 141) else (R, 0)) := by
      show _ = _
      unfold cmpR Vl.can
      rw [HR.out]
    have HF : Hid (∀ u : Bel wc, Below w.heap.size w u.w) := fun u => HI.out.2.2.trans (u.h.mono HI.out.2.2.size)
    cases hz : canV xk (Tx xt) (xL.map Tx) with
    | false =>
      replace C9 := C9 false hz
      replace C10 := C10 false hz
      replace C11 := C11 false hz
      rw [hz] at C13
      simp only [Bool.false_and, Bool.false_eq_true, if_false] at C9 C10 C11
      cases ho : isOpB op with
      | false =>
        rw [ho] at C18
        replace C12 := C12 false 1 (by rw [HCM.out, ho]; rfl)
        clear hz ho E13 hN0
        have F9 := C9 ⟨wc, Below.refl _ _⟩
        change Calls Tryz.prog 9 _ wc (fun e w' => _ ∧ Below wc.heap.size wc w') at F9
        go_wp2_with (first | (go_at_call 9; with_reducible refine (Calls.bel_first F9).mono ?_; rintro e _ ⟨rfl, g, rfl⟩) | (go_at_call 9; with_reducible refine (Calls.bel_of (C9 _)).mono ?_; rintro e _ ⟨rfl, g, rfl⟩) | (go_at_call 10; with_reducible refine (Calls.bel_of (C10 _)).mono ?_; rintro e _ ⟨rfl, g, rfl⟩) | (go_at_call 11; with_reducible refine (Calls.bel_of (C11 _)).mono ?_; rintro e _ ⟨rfl, g, rfl⟩) | (go_at_call 12; with_reducible refine (Calls.bel_of (C12 _)).mono ?_; rintro e _ ⟨rfl, g, rfl⟩) | (go_at_call 13; with_reducible refine (Calls.bel_of (C13 _)).mono ?_; rintro e _ ⟨rfl, g, rfl⟩) | (go_at_call 14; with_reducible refine (Calls.bel_of (D14 _)).mono ?_; rintro e _ ⟨rfl, g, rfl⟩) | (go_at_call 14; with_reducible refine (Calls.bel_of (E14 _)).mono ?_; rintro e _ ⟨rfl, g, rfl⟩) | (go_at_call 18; with_reducible refine (Calls.bel_of_same (C18 _)).mono ?_; rintro e _ ⟨rfl, g, rfl⟩))
        go_ret
        exact ⟨rfl, HF.out _⟩
      | true =>
        rw [ho] at C18
        replace C12 := C12 false 141 (by rw [HCM.out, ho, hz]; rfl)
        clear hz ho E13 hN0
        have F9 := C9 ⟨wc, Below.refl _ _⟩
        change Calls Tryz.prog 9 _ wc (fun e w' => _ ∧ Below wc.heap.size wc w') at F9
        go_wp2_with (first | (go_at_call 9; with_reducible refine (Calls.bel_first F9).mono ?_; rintro e _ ⟨rfl, g, rfl⟩) | (go_at_call 9; with_reducible refine (Calls.bel_of (C9 _)).mono ?_; rintro e _ ⟨rfl, g, rfl⟩) | (go_at_call 10; with_reducible refine (Calls.bel_of (C10 _)).mono ?_; rintro e _ ⟨rfl, g, rfl⟩) | (go_at_call 11; with_reducible refine (Calls.bel_of (C11 _)).mono ?_; rintro e _ ⟨rfl, g, rfl⟩) | (go_at_call 12; with_reducible refine (Calls.bel_of (C12 _)).mono ?_; rintro e _ ⟨rfl, g, rfl⟩) | (go_at_call 13; with_reducible refine (Calls.bel_of (C13 _)).mono ?_; rintro e _ ⟨rfl, g, rfl⟩) | (go_at_call 14; with_reducible refine (Calls.bel_of (D14 _)).mono ?_; rintro e _ ⟨rfl, g, rfl⟩) | (go_at_call 14; with_reducible refine (Calls.bel_of (E14 _)).mono ?_; rintro e _ ⟨rfl, g, rfl⟩) | (go_at_call 18; with_reducible refine (Calls.bel_of_same (C18 _)).mono ?_; rintro e _ ⟨rfl, g, rfl⟩))
        go_ret
        exact ⟨rfl, HF.out _⟩
    | true =>
      replace C9 := C9 true hz
      replace C10 := C10 true hz
      replace C11 := C11 true hz
      have C15 : ∀ u : Bel wc, Calls Tryz.prog 15 #[.agg #[.int .i64 xk, .bool xb, .int .i64 xn, .bool xo, .string xt, .slice xa xL.length xc]] u.w fun e w' => e = .returned (.agg #[.bool n2, .int .i64 n1]) ∧ Below u.w.heap.size u.w w' := fun u => by
        have h := dnum_any u.w (c := xc) (HV.out u).1
        rw [HN.out] at h
        exact h
      rw [hz] at C13
      simp only [Bool.true_and, if_true] at C9 C10 C11
      have HC12 : Hid (∀ (r : Bool) (e1 : Int), cmpR op ⟨xk, xb, xn, xo, xt, xL⟩ ⟨yk, yb, yn, yo, yt, yL⟩ = (r, e1) → ∀ u : Bel wc, Calls Tryz.prog 12 #[.string op, .agg #[.int .i64 xk, .bool xb, .int .i64 xn, .bool xo, .string xt, .slice ax xL.length cx], .agg #[.int .i64 yk, .bool yb, .int .i64 yn, .bool yo, .string yt, .slice ay yL.length cy]] u.w fun e w' => e = .returned (.tuple #[.bool r, .int .i64 e1]) ∧ Below u.w.heap.size u.w w') := C12
      obtain ⟨cr, ce, hcr⟩ : ∃ cr ce, cmpR op ⟨xk, xb, xn, xo, xt, xL⟩ ⟨yk, yb, yn, yo, yt, yL⟩ = (cr, ce) := ⟨_, _, rfl⟩
      replace C12 := C12 cr ce hcr
      have HCR : Hid ((if isOpB op = false then (false, 1) else if canV yk (Tx yt) (yL.map Tx) = false then (false, 141) else (R, 0)) = (cr, ce)) := by
        show _ = _
        rw [← hcr, HCM.out, hz]
        simp
      have HXK : Hid (xk = 1 ∨ xk = 2 ∨ xk = 3 ∨ xk = 4) := can_kind hz
      clear hz hcr
      have F9 := C9 ⟨wc, Below.refl _ _⟩
      change Calls Tryz.prog 9 _ wc (fun e w' => _ ∧ Below wc.heap.size wc w') at F9
      go_upto_region 13 with (first | (go_at_call 9; with_reducible refine (Calls.bel_first F9).mono ?_; rintro e _ ⟨rfl, g, rfl⟩) | (go_at_call 9; with_reducible refine (Calls.bel_of (C9 _)).mono ?_; rintro e _ ⟨rfl, g, rfl⟩) | (go_at_call 10; with_reducible refine (Calls.bel_of (C10 _)).mono ?_; rintro e _ ⟨rfl, g, rfl⟩) | (go_at_call 11; with_reducible refine (Calls.bel_of (C11 _)).mono ?_; rintro e _ ⟨rfl, g, rfl⟩) | (go_at_call 12; with_reducible refine (Calls.bel_of (C12 _)).mono ?_; rintro e _ ⟨rfl, g, rfl⟩) | (go_at_call 13; with_reducible refine (Calls.bel_of (C13 _)).mono ?_; rintro e _ ⟨rfl, g, rfl⟩) | (go_at_call 14; with_reducible refine (Calls.bel_of (D14 _)).mono ?_; rintro e _ ⟨rfl, g, rfl⟩) | (go_at_call 14; with_reducible refine (Calls.bel_of (E14 _)).mono ?_; rintro e _ ⟨rfl, g, rfl⟩) | (go_at_call 18; with_reducible refine (Calls.bel_of_same (C18 _)).mono ?_; rintro e _ ⟨rfl, g, rfl⟩) | (go_at_call 15; with_reducible refine (Calls.bel_of (C15 _)).mono ?_; rintro e _ ⟨rfl, g, rfl⟩))
      obtain ⟨W2, hW2⟩ : ∃ W2, W2 = g.w.alloc (.cells #[.bool n2, .int .i64 n1] 37) := ⟨_, rfl⟩
      have hb2 : Below wc.heap.size wc W2 := by rw [hW2]; exact g.h.alloc g.h.size _
      have hz2 : IsCells W2 g.w.heap.size #[.bool n2, .int .i64 n1] := by rw [hW2]; exact isCells_new _ _ _
      rw [← hW2]
      clear hW2 x0 x1 x2 x3 x4 x5 y0 y1 y2 y3 y4 y5 p0 p1 p2 p3 p4 p5 q0 q1 q2 q3 q4 q5 F9 C9 C10 C11 C12 C13 C15 D14 E14
      generalize g.w.heap.size = N at *
      obtain ⟨x0, x1, x2, x3, x4, x5, y0, y1, y2, y3, y4, y5⟩ := two_cells (HI.out.1.of_block (hb2.block _ b1)) (HI.out.2.1.of_block (hb2.block _ b2))
      have z0 : W2.cell? ⟨N, 0, none⟩ = some (.bool n2) := hz2.cell 0
      have z1 : W2.cell? ⟨N, 1, none⟩ = some (.int .i64 n1) := hz2.cell 1
      have bn := hz2.lt
      have d1 : w.heap.size < W2.heap.size := Nat.lt_of_lt_of_le b1 hb2.size
      have d2 : w.heap.size + 1 < W2.heap.size := Nat.lt_of_lt_of_le b2 hb2.size
      have HU : Hid (∀ v : Bel W2, Below wc.heap.size wc v.w) := fun v => hb2.trans (v.h.mono hb2.size)
      have HE : Hid (∀ v : Bel W2, Below w.heap.size w v.w) := fun v => HF.out ⟨v.w, HU.out v⟩
      have F16 : Calls Tryz.prog 16 #[.agg #[.int .i64 xk, .bool xb, .int .i64 xn, .bool xo, .string xt, .slice xa xL.length xc]] W2 fun e w' => e = .returned (.bool tb) ∧ Below W2.heap.size W2 w' := by
        have h := dbool_any W2 xk xn xb xo xt xa xL.length xc
        rw [HTB.out] at h
        exact h
      have D17 : ∀ v : Bel W2, Calls Tryz.prog 17 #[.agg #[.int .i64 xk, .bool xb, .int .i64 xn, .bool xo, .string xt, .slice xa xL.length xc]] v.w fun e w' => e = .returned (.string tx) ∧ Below v.w.heap.size v.w w' := fun v => by
        have h := dtext_val v.w (c := xc) (HV.out ⟨v.w, HU.out v⟩).1
        rw [HT.out] at h
        exact h
      have D18 : ∀ v : Bel W2, Calls Tryz.prog 18 #[.string op] v.w fun e w' => e = .returned (.bool (isOpB op)) ∧ w' = v.w := fun v => dsign_any v.w op
      have D13 : ∀ v : Bel W2, Calls Tryz.prog 13 #[.agg #[.int .i64 yk, .bool yb, .int .i64 yn, .bool yo, .string yt, .slice ya yL.length yc]] v.w fun e w' => e = .returned (.bool (canV yk (Tx yt) (yL.map Tx))) ∧ Below v.w.heap.size v.w w' := fun v => dcan_any v.w (HV.out ⟨v.w, HU.out v⟩).2.1
      have HD19 : Hid (isOpB op = true → (yk = 1 ∨ yk = 2 ∨ yk = 3 ∨ yk = 4) → ∀ v : Bel W2, Calls Tryz.prog 19 #[.string op, .agg #[.int .i64 xk, .bool xb, .int .i64 xn, .bool xo, .string xt, .slice xa xL.length xc], .agg #[.int .i64 yk, .bool yb, .int .i64 yn, .bool yo, .string yt, .slice ya yL.length yc]] v.w fun e w' => e = .returned (.bool R) ∧ Below v.w.heap.size v.w w') := fun hop hyk v => by
        have h := dcompare_any v.w op (isOpB_iff.1 hop) (xc := xc) (yc := yc) (HV.out ⟨v.w, HU.out v⟩).1 (HV.out ⟨v.w, HU.out v⟩).2.1 HXK.out hyk
        rw [HR.out] at h
        exact h
      clear E13 C18 hz2 hb2 b1 b2 b3 b4
      have t1 : (tb != tb) = false := by simp
      have t2 : (n1 != n1) = false := by simp
      have t3 : (n2 != n2) = false := by simp
      have t4 : (tx.toList != tx.toList) = false := by simp
      have t5 : (R == R) = true := by simp
      cases ho : isOpB op with
      | false =>
        rw [ho] at D18
        obtain ⟨rfl, rfl⟩ : false = cr ∧ 1 = ce := by
          have h := HCR.out
          rw [ho, if_pos rfl] at h
          exact Prod.mk.inj h
        clear ho
        cases n2 with
        | false =>
          obtain rfl := hN0 rfl
          go_wp2_with (first | (go_at_call 16; with_reducible refine (Calls.bel_first F16).mono ?_; rintro e _ ⟨rfl, g2, rfl⟩) | (go_at_call 17; with_reducible refine (Calls.bel_of (D17 _)).mono ?_; rintro e _ ⟨rfl, g2, rfl⟩) | (go_at_call 18; with_reducible refine (Calls.bel_of_same (D18 _)).mono ?_; rintro e _ ⟨rfl, g2, rfl⟩) | (go_at_call 13; with_reducible refine (Calls.bel_of (D13 _)).mono ?_; rintro e _ ⟨rfl, g2, rfl⟩))
          go_ret
          exact ⟨rfl, HE.out _⟩
        | true =>
          go_wp2_with (first | (go_at_call 16; with_reducible refine (Calls.bel_first F16).mono ?_; rintro e _ ⟨rfl, g2, rfl⟩) | (go_at_call 17; with_reducible refine (Calls.bel_of (D17 _)).mono ?_; rintro e _ ⟨rfl, g2, rfl⟩) | (go_at_call 18; with_reducible refine (Calls.bel_of_same (D18 _)).mono ?_; rintro e _ ⟨rfl, g2, rfl⟩) | (go_at_call 13; with_reducible refine (Calls.bel_of (D13 _)).mono ?_; rintro e _ ⟨rfl, g2, rfl⟩))
          go_ret
          exact ⟨rfl, HE.out _⟩
      | true =>
        rw [ho] at D18
        cases hy : canV yk (Tx yt) (yL.map Tx) with
        | false =>
          rw [hy] at D13
          obtain ⟨rfl, rfl⟩ : false = cr ∧ 141 = ce := by
            have h := HCR.out
            rw [ho, hy] at h
            exact Prod.mk.inj (by simpa using h)
          clear ho hy
          cases n2 with
          | false =>
            obtain rfl := hN0 rfl
            go_wp2_with (first | (go_at_call 16; with_reducible refine (Calls.bel_first F16).mono ?_; rintro e _ ⟨rfl, g2, rfl⟩) | (go_at_call 17; with_reducible refine (Calls.bel_of (D17 _)).mono ?_; rintro e _ ⟨rfl, g2, rfl⟩) | (go_at_call 18; with_reducible refine (Calls.bel_of_same (D18 _)).mono ?_; rintro e _ ⟨rfl, g2, rfl⟩) | (go_at_call 13; with_reducible refine (Calls.bel_of (D13 _)).mono ?_; rintro e _ ⟨rfl, g2, rfl⟩))
            go_ret
            exact ⟨rfl, HE.out _⟩
          | true =>
            go_wp2_with (first | (go_at_call 16; with_reducible refine (Calls.bel_first F16).mono ?_; rintro e _ ⟨rfl, g2, rfl⟩) | (go_at_call 17; with_reducible refine (Calls.bel_of (D17 _)).mono ?_; rintro e _ ⟨rfl, g2, rfl⟩) | (go_at_call 18; with_reducible refine (Calls.bel_of_same (D18 _)).mono ?_; rintro e _ ⟨rfl, g2, rfl⟩) | (go_at_call 13; with_reducible refine (Calls.bel_of (D13 _)).mono ?_; rintro e _ ⟨rfl, g2, rfl⟩))
            go_ret
            exact ⟨rfl, HE.out _⟩
        | true =>
          rw [hy] at D13
          have D19 := HD19.out ho (can_kind hy)
          obtain ⟨rfl, rfl⟩ : R = cr ∧ 0 = ce := by
            have h := HCR.out
            rw [ho, hy] at h
            exact Prod.mk.inj (by simpa using h)
          clear ho hy
          cases n2 with
          | false =>
            obtain rfl := hN0 rfl
            go_wp2_with (first | (go_at_call 16; with_reducible refine (Calls.bel_first F16).mono ?_; rintro e _ ⟨rfl, g2, rfl⟩) | (go_at_call 17; with_reducible refine (Calls.bel_of (D17 _)).mono ?_; rintro e _ ⟨rfl, g2, rfl⟩) | (go_at_call 18; with_reducible refine (Calls.bel_of_same (D18 _)).mono ?_; rintro e _ ⟨rfl, g2, rfl⟩) | (go_at_call 13; with_reducible refine (Calls.bel_of (D13 _)).mono ?_; rintro e _ ⟨rfl, g2, rfl⟩) | (go_at_call 19; with_reducible refine (Calls.bel_of (D19 _)).mono ?_; rintro e _ ⟨rfl, g2, rfl⟩))
            go_ret
            exact ⟨rfl, HE.out _⟩
          | true =>
            go_wp2_with (first | (go_at_call 16; with_reducible refine (Calls.bel_first F16).mono ?_; rintro e _ ⟨rfl, g2, rfl⟩) | (go_at_call 17; with_reducible refine (Calls.bel_of (D17 _)).mono ?_; rintro e _ ⟨rfl, g2, rfl⟩) | (go_at_call 18; with_reducible refine (Calls.bel_of_same (D18 _)).mono ?_; rintro e _ ⟨rfl, g2, rfl⟩) | (go_at_call 13; with_reducible refine (Calls.bel_of (D13 _)).mono ?_; rintro e _ ⟨rfl, g2, rfl⟩) | (go_at_call 19; with_reducible refine (Calls.bel_of (D19 _)).mono ?_; rintro e _ ⟨rfl, g2, rfl⟩))
            go_ret
            exact ⟨rfl, HE.out _⟩

end Go.Proofs.YtoabgmpcdnikeaaGreatDoor
