/- none: what is made of iterators that are nil. -/
import Derived.Test.YtjkgjckkglfokaaNil2
import Derived.Test.YtjkgjckkglfokaaMk
import Derived.Test.YtjkgjckkglfokaaTell
namespace Go.Proofs.Ytjkgjckkglfokaa
open Go.RowKit Go.Shelf
set_option linter.unusedVariables false
attribute [local go_sem] Oper.semAt_some

theorem range_none {α : Type} {P : Program} {g : Operand} {ps : Array Tmp} {assign body : Code} {Q : Exit → Act → World → Prop} {a : Act} {w : World} {gf : Nat} {lb : Array Value} (hg : a.eval g = .func (.func gf) #[] lb)
    (eg : ∀ args w, (callFunc gf args).run P w = .ok (.enter gf args) w) {encs : α → Array Value} (hps : ∀ x, (encs x).size = ps.size) {R : Nat → Prop} {Sq : World → Prop} (hs : IsSeq P gf lb encs [] R (fun _ => False) Sq) (hw : Sq w)
    (hassign : ∀ (l : Nat) (x : α) (W : World) (Kc : Act → World → Prop), (∀ a', Kc a' W) →
      assign.wpIn (Fence.wide.inRound l) 0 P (Exit.then Kc (fun _ _ _ => False)) { tmps := (ps.zip (encs x)).foldl (fun t (p, v) => t.setIfInBounds p v) a.tmps, defers := [] } W)
    (hdone : ∀ W, Tn (fun _ => False) w W → w.heap.size < W.heap.size → W.heap[w.heap.size]? = some (.deferred (some [])) → Q .normal { a with defers := { target := .collected w.heap.size, args := #[] } :: a.defers } W) :
    (Code.rangeFunc g ps assign body).wpIn Fence.wide 0 P Q a w := by
  refine range_it hg eg hps hs hw (fun _ C _ => C = fun _ => False) (fun _ _ _ _ => False) (fun _ => False) ⟨fun _ _ _ h b hb => ?_, fun _ _ _ _ _ h _ _ => h⟩ (fun _ => ⟨fun _ _ _ h => h.elim, fun _ _ _ _ _ h => h.elim⟩) (fun _ => False) rfl (fun _ h => h.elim) (fun _ h => h.elim) (fun _ _ => True) (fun l x W Kc hK => hassign l x W Kc (fun a' => hK a' trivial)) (fun l pre x a' C W hp => ?_) (fun C W _ ht _ _ hd _ => hdone W (ht.mono (fun _ _ h => h.elim id id)) (Array.getElem?_eq_some_iff.1 hd).1 hd) (fun c pre C W _ h => h.elim)
  · subst h
    exact (hb.elim id id).elim
  · have := hp.length_le
    simp at this

/-- On the way: nothing of before was turned; what was deferred so far. -/
def Go2 (W X : World) (l : List Nat) : Prop := Tn (fun _ => False) W X ∧ IsC X W.heap.size #[.bool false] ∧ (∀ d ∈ l, X.heap[d]? = some (.deferred (some []))) ∧ l.Pairwise (fun a b => a ≠ b) ∧ ∀ d ∈ l, W.heap.size < d ∧ d < X.heap.size
theorem Go2.tn {W X Y : World} {l : List Nat} (h : Go2 W X l) (ht : Tn (fun _ => False) X Y) : Go2 W Y l :=
  ⟨h.1.trans ht (fun _ _ h => h), h.2.1.tn ht id, fun d hd => (ht.block d (h.2.2.2.2 d hd).2 id).trans (h.2.2.1 d hd), h.2.2.2.1, fun d hd => ⟨(h.2.2.2.2 d hd).1, Nat.lt_of_lt_of_le (h.2.2.2.2 d hd).2 ht.size⟩⟩
theorem Go2.more {W X Y : World} {l : List Nat} (h : Go2 W X l) (ht : Tn (fun _ => False) X Y) (hd : Y.heap[X.heap.size]? = some (.deferred (some []))) : Go2 W Y (X.heap.size :: l) := by
  have h' := h.tn ht
  refine ⟨h'.1, h'.2.1, fun d hm => ?_, List.pairwise_cons.2 ⟨fun d hm e => ?_, h'.2.2.2.1⟩, fun d hm => ?_⟩
  · rcases List.mem_cons.1 hm with rfl | hm
    · exact hd
    · exact h'.2.2.1 d hm
  · have := (h.2.2.2.2 d hm).2
    omega
  · rcases List.mem_cons.1 hm with rfl | hm
    · exact ⟨h.2.1.lt, (Array.getElem?_eq_some_iff.1 hd).1⟩
    · exact h'.2.2.2.2 d hm
/-- At the end. -/
def Go3 (W X : World) (l : List Nat) : Prop := Tn (fun _ => False) W X ∧ IsC X W.heap.size #[.bool true] ∧ (∀ d ∈ l, X.heap[d]? = some (.deferred (some []))) ∧ l.Pairwise (fun a b => a ≠ b) ∧ ∀ d ∈ l, W.heap.size < d
theorem Go2.yes {W X : World} {l : List Nat} (h : Go2 W X l) : Go3 W (X.setCell ⟨W.heap.size, 0, none⟩ (.bool true)) l := by
  have t : Tn (fun b => b = W.heap.size) X (X.setCell ⟨W.heap.size, 0, none⟩ (.bool true)) := (Tn.refl (fun b => b = W.heap.size) X).set (p := ⟨W.heap.size, 0, none⟩) (.inl rfl) _
  refine ⟨h.1.trans t (fun i hi (e : i = W.heap.size) => by omega), ?_, fun d hd => (t.block d (h.2.2.2.2 d hd).2 (fun e => by have := (h.2.2.2.2 d hd).1; omega)).trans (h.2.2.1 d hd), h.2.2.2.1, fun d hd => (h.2.2.2.2 d hd).1⟩
  obtain ⟨t, ht⟩ := h.2.1
  exact ⟨t, by simp [World.setCell, Array.getElem?_modify, ht]⟩
theorem Go3.take {W X : World} {d : Nat} {l : List Nat} (h : Go3 W X (d :: l)) : X.heap[d]? = some (.deferred (some [])) ∧ Go3 W (X.putObj d (.deferred none)) l := by
  have t := Tn.put X d (.deferred none)
  have hd := h.2.2.2.2 d (by simp)
  obtain ⟨p1, p2⟩ := List.pairwise_cons.1 h.2.2.2.1
  refine ⟨h.2.2.1 d (by simp), h.1.trans t (fun i hi (e : i = d) => by omega), h.2.1.tn t (by omega), fun k hk => ?_, p2, fun k hk => h.2.2.2.2 k (by simp [hk])⟩
  have hx := h.2.2.1 k (by simp [hk])
  exact (t.block k (Array.getElem?_eq_some_iff.1 hx).1 (fun (e : k = d) => p1 k hk e.symm)).trans hx
theorem made2 {F : Nat} {args : Array Value} {w : World} {v : Value} {a b : Array Value} {t u : TypeId} (h : Calls Try.prog F args w fun e w' => e = .returned v ∧ w' = (w.alloc (.cells a t)).alloc (.cells b u)) :
    CallsIn Fence.wide 0 Try.prog F args w fun e w' => e = .returned v ∧ Tn (fun _ => False) w w' ∧ IsC w' w.heap.size a ∧ IsC w' (w.heap.size + 1) b := by
  refine (callsIn_wide.2 h).mono ?_
  rintro e w' ⟨rfl, rfl⟩
  refine ⟨rfl, ((Tn.refl _ _).alloc _).alloc _, (isC_new w a t).tn ((Tn.refl (fun _ => False) _).alloc _) id, ?_⟩
  simpa using isC_new (w.alloc (.cells a t)) b u

set_option linter.unusedSimpArgs false in
set_option maxRecDepth 100000 in
set_option maxHeartbeats 2000000 in
theorem none_any (W : World) : CallsIn Fence.wide 0 Try.prog 19 #[] W fun e Y => e = .returned (.bool true) ∧ Tn (fun _ => False) W Y := by
  have e1 := enters_of Try.func91 (by kernel_rfl) rfl
  have e2 := enters_of Try.func64 (by kernel_rfl) rfl
  have e3 := enters_of Try.func65 (by kernel_rfl) rfl
  have e4 := enters_of Try.func92 (by kernel_rfl) rfl
  have e5 := enters_of Try.func94 (by kernel_rfl) rfl
  have e6 := enters_of Try.func53 (by kernel_rfl) rfl
  refine callsIn_of_wp_marks Try.func19 rfl trivial ?_ rfl
  simp only [Try.ntmps19, List.size_toArray, List.length_cons, List.length_nil, Nat.reduceAdd, Nat.reduceSub, Array.replicate_succ, Array.replicate_zero, List.push_toArray, List.append_toArray, List.nil_append, List.cons_append]
  gi_wp2_with fail
  obtain ⟨W1, hW1⟩ : ∃ W1, W.alloc (.cells #[.bool false] 4) = W1 := ⟨_, rfl⟩
  have g0 : Hid (Go2 W W1 []) := by
    rw [← hW1]
    exact ⟨(Tn.refl _ _).alloc _, isC_new _ _ _, fun _ h => by simp at h, List.Pairwise.nil, fun _ h => by simp at h⟩
  rw [hW1]
  clear hW1
  refine ⟨trivial, rfl, (made2 (mk_only_none W1 56 #[])).mono ?_⟩
  rintro e X1 ⟨rfl, t1, c1, c2⟩
  have h1 : Hid (Go2 W X1 []) := g0.out.tn t1
  have HS1 : Hid (IsC X1 W1.heap.size #[.nilFunc] ∧ IsC X1 (W1.heap.size + 1) #[.func (.func 56) #[] #[]]) := ⟨c1, c2⟩
  clear t1 c1 c2
  gi_wp2_with fail
  refine range_none rfl (fun args w => e1 args w) (encs := encI) (fun _ => rfl) only_none HS1.out ?_ ?_
  · intro l2 x X Kc hK
    gi_wp2
    exact hK _
  intro Y1 tY hYl hD
  have g1 : Hid (Go2 W Y1 [X1.heap.size]) := h1.out.more tY hD
  clear tY hYl hD h1 HS1 g0
  gi_wp2_with fail
  refine ⟨trivial, rfl, (made2 (mk_most_none Y1 3)).mono ?_⟩
  rintro e X2 ⟨rfl, t1, c1, c2⟩
  have h2 : Hid (Go2 W X2 [X1.heap.size]) := g1.out.tn t1
  have HS2 : Hid (IsC X2 Y1.heap.size #[.nilFunc] ∧ IsC X2 (Y1.heap.size + 1) #[.int .i64 3]) := ⟨c1, c2⟩
  clear t1 c1 c2
  gi_wp2_with fail
  refine range_none rfl (fun args w => e2 args w) (encs := encI) (fun _ => rfl) most_none HS2.out ?_ ?_
  · intro l2 x X Kc hK
    gi_wp2
    exact hK _
  intro Y2 tY hYl hD
  have g2 : Hid (Go2 W Y2 [X2.heap.size, X1.heap.size]) := h2.out.more tY hD
  clear tY hYl hD h2 HS2 g1
  gi_wp2_with fail
  refine ⟨trivial, rfl, (made2 (mk_map_none Y2 57 #[])).mono ?_⟩
  rintro e X3 ⟨rfl, t1, c1, c2⟩
  have h3 : Hid (Go2 W X3 [X2.heap.size, X1.heap.size]) := g2.out.tn t1
  have HS3 : Hid (IsC X3 Y2.heap.size #[.nilFunc] ∧ IsC X3 (Y2.heap.size + 1) #[.func (.func 57) #[] #[]]) := ⟨c1, c2⟩
  clear t1 c1 c2
  gi_wp2_with fail
  refine range_none rfl (fun args w => e3 args w) (encs := encI) (fun _ => rfl) map_none HS3.out ?_ ?_
  · intro l2 x X Kc hK
    gi_wp2
    exact hK _
  intro Y3 tY hYl hD
  have g3 : Hid (Go2 W Y3 [X3.heap.size, X2.heap.size, X1.heap.size]) := h3.out.more tY hD
  clear tY hYl hD h3 HS3 g2
  gi_wp2_with fail
  refine ⟨trivial, rfl, (made2 (mk_flat_none Y3 58 #[])).mono ?_⟩
  rintro e X4 ⟨rfl, t1, c1, c2⟩
  have h4 : Hid (Go2 W X4 [X3.heap.size, X2.heap.size, X1.heap.size]) := g3.out.tn t1
  have HS4 : Hid (IsC X4 Y3.heap.size #[.nilFunc] ∧ IsC X4 (Y3.heap.size + 1) #[.func (.func 58) #[] #[]]) := ⟨c1, c2⟩
  clear t1 c1 c2
  gi_wp2_with fail
  refine range_none rfl (fun args w => e4 args w) (encs := encI) (fun _ => rfl) flat_none HS4.out ?_ ?_
  · intro l2 x X Kc hK
    gi_wp2
    exact hK _
  intro Y4 tY hYl hD
  have g4 : Hid (Go2 W Y4 [X4.heap.size, X3.heap.size, X2.heap.size, X1.heap.size]) := h4.out.more tY hD
  clear tY hYl hD h4 HS4 g3
  gi_wp2_with fail
  refine ⟨trivial, rfl, (mk_then_none Y4).mono ?_⟩
  rintro e X5 ⟨rfl, c1, t1⟩
  have h5 : Hid (Go2 W X5 [X4.heap.size, X3.heap.size, X2.heap.size, X1.heap.size]) := g4.out.tn t1
  have HS5 : Hid (IsC X5 Y4.heap.size #[.slice none 0 0]) := c1
  clear t1 c1
  gi_wp2_with fail
  refine range_none rfl (fun args w => e5 args w) (encs := encI) (fun _ => rfl) then_none HS5.out ?_ ?_
  · intro l2 x X Kc hK
    gi_wp2
    exact hK _
  intro Y5 tY hYl hD
  have g5 : Hid (Go2 W Y5 [X5.heap.size, X4.heap.size, X3.heap.size, X2.heap.size, X1.heap.size]) := h5.out.more tY hD
  clear tY hYl hD h5 HS5 g4
  gi_wp2_with fail
  refine ⟨trivial, rfl, (made2 (mk_pairs_none Y5)).mono ?_⟩
  rintro e X6 ⟨rfl, t1, c1, c2⟩
  have h6 : Hid (Go2 W X6 [X5.heap.size, X4.heap.size, X3.heap.size, X2.heap.size, X1.heap.size]) := g5.out.tn t1
  have HS6 : Hid (IsC X6 Y5.heap.size #[.nilFunc] ∧ IsC X6 (Y5.heap.size + 1) #[.nilFunc]) := ⟨c1, c2⟩
  clear t1 c1 c2
  gi_wp2_with fail
  refine range_none rfl (fun args w => e6 args w) (encs := encP) (fun _ => rfl) pairs_none HS6.out ?_ ?_
  · intro l2 x X Kc hK
    gi_wp2
    exact hK _
  intro Y6 tY hYl hD
  have g6 : Hid (Go2 W Y6 [X6.heap.size, X5.heap.size, X4.heap.size, X3.heap.size, X2.heap.size, X1.heap.size]) := h6.out.more tY hD
  clear tY hYl hD h6 HS6 g5
  have fz := g6.out.2.1.frozen 0
  have cz := g6.out.2.1.cell 0
  gi_wp2
  have k6 := g6.out.yes
  have k5 := k6.take
  have k4 := k5.2.take
  have k3 := k4.2.take
  have k2 := k3.2.take
  have k1 := k2.2.take
  have k0 := k1.2.take
  refine ⟨by simp, .inl ⟨_, _, rfl, run_takeDeferred k5.1, ?_⟩⟩
  refine ⟨by simp, .inl ⟨_, _, rfl, run_takeDeferred k4.1, ?_⟩⟩
  refine ⟨by simp, .inl ⟨_, _, rfl, run_takeDeferred k3.1, ?_⟩⟩
  refine ⟨by simp, .inl ⟨_, _, rfl, run_takeDeferred k2.1, ?_⟩⟩
  refine ⟨by simp, .inl ⟨_, _, rfl, run_takeDeferred k1.1, ?_⟩⟩
  refine ⟨by simp, .inl ⟨_, _, rfl, run_takeDeferred k0.1, ?_⟩⟩
  exact ⟨_, res_bool rfl _ _ W.heap.size _ rfl (k0.2.2.1.cell 0), rfl, k0.2.1⟩

end Go.Proofs.Ytjkgjckkglfokaa
