/- The document's Put and Drop of items. -/
import Derived.Test.YtiggpbjgnododaaRf
namespace Go.Proofs.Ytiggpbjgnododaa.T
open Go.RowKit Go.Shelf
set_option linter.unusedVariables false

/-- A row under way since a world: all that was there is as it was. -/
structure Mk (W X : World) (v : Value) (n : Nat) (xs : List Value) : Prop where
  own : X.ownsRow W.heap.size 28 2 v n xs
  bel : Below W.heap.size W X

theorem Mk.alloc {W X : World} {v : Value} {n : Nat} {xs : List Value} (h : Mk W X v n xs) (o : Obj) : Mk W (X.alloc o) v n xs := ⟨h.own.alloc o, h.bel.alloc h.bel.size o⟩
theorem Mk.drew {W X : World} {v : Value} {n : Nat} {xs : List Value} (h : Mk W X v n xs) : Mk W X.drew v n xs := ⟨h.own, h.bel.drew⟩
theorem Mk.new (W : World) : Mk W (W.alloc (.cells #[] 28)) (.slice (some ⟨W.heap.size, 0, none⟩) 0 0) 0 [] := ⟨own_new W 28 2, bel1 W _⟩
theorem Mk.new2 {W X : World} (h : Below W.heap.size W X) : Mk W (X.alloc (.cells #[] 28)) (.slice (some ⟨X.heap.size, 0, none⟩) 0 0) 0 [] :=
  ⟨own_base (own_new X 28 2) (fun k hk => by simp [Value.ownBlock] at hk; have := h.size; omega), h.alloc h.size _⟩

theorem Mk.grown {W X X' : World} {v v' : Value} {n n' : Nat} {xs xs' : List Value} (h : Mk W X v n xs) (h1 : X'.ownsRow W.heap.size 28 2 v' n' xs') (h2 : X.grownBy X' v.ownBlock) : Mk W X' v' n' xs' :=
  ⟨h1, h.bel.trans ⟨h2.os, h2.tape, h2.output, h2.size, fun k hk => h2.block k (by have := h.bel.size; omega) (fun e => by have := (own_block_lt h.own k e.symm).1; omega)⟩⟩

/-- append onto it, at a step of a statement whose order is open. -/
theorem step_mk {W X : World} {ops : Array Oper} {o : Oper} {ac : Act} {K : Act → World → Prop} {Q : Exit → Act → World → Prop} {E : Prop} (hgd : o.guard = none) (s x : Operand)
    (ho : o.op = .call { callee := .builtin .append, args := #[s, x], argTypes := #[31, 31] }) (v : Value) (n : Nat) (xs : List Value) (h : Mk W X v n xs) (hs : ac.eval s = v) (a : Option Addr) (m c : Nat) (news : List Value) (hx : ac.eval x = .slice a m c) (hl : news.length = m * 2)
    (hnews : ∀ j u, news[j]? = some u → ∃ ad, a = some ad ∧ X.cell? (ad.add j) = some u) (h1 : ∀ u ∈ news, u.oneCell' = true) (h63 : n + m ≤ 1048576)
    (hK : ∀ v' w', Mk W w' v' (n + m) (xs ++ news) → (∀ b, b < X.heap.size → v.ownBlock ≠ some b → w'.heap[b]? = X.heap[b]?) → K (ac.put o.dst v') w') :
    if Region.wanted o (yielded ops ac.tmps) = true then Oper.wp Try.prog o ac X K Q else E :=
  step_app hgd s x ho Try.underlying31 infoE rfl (by decide) W.heap.size v n xs hs h.own a m c news hx hl hnews h1 (by unfold maxLen; omega) (by omega) h.bel.size
    (fun v' w' k1 k2 _ _ => hK v' w' (h.grown k1 k2) (fun b hb hne => k2.block b hb (fun e => hne e.symm)))

theorem wpList_mk {W X : World} {ops : Array Oper} {rest : List Oper} {o : Oper} {ac : Act} {Q : Exit → Act → World → Prop} (hgd : o.guard = none) (s x : Operand)
    (ho : o.op = .call { callee := .builtin .append, args := #[s, x], argTypes := #[31, 31] }) (v : Value) (n : Nat) (xs : List Value) (h : Mk W X v n xs) (hs : ac.eval s = v) (a : Option Addr) (m c : Nat) (news : List Value) (hx : ac.eval x = .slice a m c) (hl : news.length = m * 2)
    (hnews : ∀ j u, news[j]? = some u → ∃ ad, a = some ad ∧ X.cell? (ad.add j) = some u) (h1 : ∀ u ∈ news, u.oneCell' = true) (h63 : n + m ≤ 1048576)
    (hK : ∀ v' w', Mk W w' v' (n + m) (xs ++ news) → wpList Try.prog ops Q rest (ac.put o.dst v') w') : wpList Try.prog ops Q (o :: rest) ac X :=
  wpList_app hgd s x ho Try.underlying31 infoE rfl (by decide) W.heap.size v n xs hs h.own a m c news hx hl hnews h1 (by unfold maxLen; omega) (by omega) h.bel.size
    (fun v' w' k1 k2 _ _ => hK v' w' (h.grown k1 k2))

theorem two_at {w : World} {b : Nat} {x y : Value} (h : IsCells w b #[x, y]) : ∀ j u, ([x, y] : List Value)[j]? = some u → ∃ ad, (some ⟨b, 0, none⟩ : Option Addr) = some ad ∧ w.cell? (ad.add j) = some u := by
  intro j u hu
  refine ⟨_, rfl, ?_⟩
  rw [addr_add, Nat.zero_add, h.cell]
  simpa using hu

/-- A part of a row, from wherever it is read. -/
theorem part_take {w X : World} {B : Nat} {L : List (Int × Int)} {a : Option Addr} {cap : Nat} (h : w.ownsRow B 28 2 (.slice a L.length cap) L.length (cellsOf L)) (hb : Below w.heap.size w X) (k : Nat) :
    ∀ j u, (cellsOf (L.take k))[j]? = some u → ∃ ad, a = some ad ∧ X.cell? (ad.add j) = some u := by
  intro j u hu
  rw [cellsOf_take, List.getElem?_take] at hu
  split at hu
  · obtain ⟨_, _, hc⟩ := row_cell h
    obtain ⟨g, e, _, h2, h3⟩ := hc j u hu
    refine ⟨_, e, ?_⟩
    rw [addr_add, Nat.zero_add, hb.cell (p := ⟨g, j, none⟩) h2]
    exact h3
  · cases hu

/-- The rest of a row, as Go slices it: where nothing is left the address may stay. -/
theorem part_drop {w : World} {B : Nat} {L : List (Int × Int)} {a : Option Addr} {cap : Nat} (h : w.ownsRow B 28 2 (.slice a L.length cap) L.length (cellsOf L)) (k : Nat) (hk : k ≤ L.length) {g : Nat} (ha : a = some ⟨g, 0, none⟩) :
    ∃ A, (if cap = k then some (⟨g, 0, none⟩ : Addr) else some ⟨g, k * 2, none⟩) = some A ∧ ∀ X, Below w.heap.size w X → ∀ j u, (cellsOf (L.drop k))[j]? = some u → ∃ ad, some A = some ad ∧ X.cell? (ad.add j) = some u := by
  obtain ⟨hnc, hxl, hc⟩ := row_cell h
  by_cases e : cap = k
  · refine ⟨_, if_pos e, fun X _ j u hu => ?_⟩
    rw [List.drop_of_length_le (by omega)] at hu
    simp [cellsOf] at hu
  · refine ⟨_, if_neg e, fun X hX j u hu => ⟨_, rfl, ?_⟩⟩
    rw [cellsOf_drop, List.getElem?_drop] at hu
    obtain ⟨g', e', _, h2, h3⟩ := hc _ u hu
    rw [ha] at e'
    cases e'
    rw [addr_add, hX.cell (p := ⟨g, k * 2 + j, none⟩) h2]
    exact h3

/-- The new row stored as the list's. -/
theorem mk_done {w W X : World} {B rb : Nat} {L L' : List (Int × Int)} {a a' : Option Addr} {cap cap' : Nat} {xs : List Value} (H : RAt W B rb L a cap) (hb : Below w.heap.size w W) (hrb : rb < w.heap.size) (hB : B ≤ w.heap.size) (h : Mk W X (.slice a' L'.length cap') L'.length xs) (hxs : xs = cellsOf L') (hl : L'.length ≤ 8192) :
    RAt (X.setCell ⟨rb, 0, none⟩ (.slice a' L'.length cap')) B rb L' a' cap' ∧ Turn (fun b => b = rb) w (X.setCell ⟨rb, 0, none⟩ (.slice a' L'.length cap')) ∧ (∀ k, (Value.slice a' L'.length cap').ownBlock = some k → (a' = a ∧ cap' = cap) ∨ w.heap.size ≤ k) := by
  have hs := hb.size
  have hnew : ∀ k, (Value.slice a' L'.length cap').ownBlock = some k → W.heap.size ≤ k := fun k hk => (own_block_lt h.own k hk).1
  have hne : ∀ k, (Value.slice a' L'.length cap').ownBlock = some k → k ≠ rb := fun k hk => by have := hnew k hk; omega
  subst hxs
  refine ⟨⟨?_, ?_, hne, hl⟩, ?_, fun k hk => .inr (by have := hnew k hk; omega)⟩
  · have := (H.head.of_block (h.bel.block rb H.head.lt)).set 0 (.slice a' L'.length cap')
    simpa using this
  · exact own_base (own_of_block h.own (fun k hk => Below.heap_setCell _ _ _ _ (hne k hk))) (fun k hk => by have := hnew k hk; omega)
  · exact ((Turn.refl (fun b => b = rb) w).then (hb.trans (h.bel.mono hs)) (Nat.le_refl _)).setCell (p := ⟨rb, 0, none⟩) rfl _

/-- What an edit of the document's list leaves. -/
def REdP (w : World) (B rb : Nat) (a : Option Addr) (cap : Nat) (R : Value) (L' : List (Int × Int)) (e : Ending) (w' : World) : Prop :=
  e = .returned R ∧ ∃ a' cap', RAt w' B rb L' a' cap' ∧ Turn (fun b => b = rb) w w' ∧ (∀ k, (Value.slice a' L'.length cap').ownBlock = some k → (a' = a ∧ cap' = cap) ∨ w.heap.size ≤ k)

def rputE (L : List (Int × Int)) (x : Int × Int) : Int := if hasB L x.1 then 70 else if 8192 ≤ L.length then 2 else 0
def rputL (L : List (Int × Int)) (x : Int × Int) : List (Int × Int) := if hasB L x.1 then L else if 8192 ≤ L.length then L else L.take (rk kf L x.1) ++ [x] ++ L.drop (rk kf L x.1)
def rdropL (L : List (Int × Int)) (key : Int) : List (Int × Int) := if hasB L key then L.take (rk kf L key) ++ L.drop (rk kf L key + 1) else L

theorem REdP.same {w w' : World} {B rb : Nat} {L : List (Int × Int)} {a : Option Addr} {cap : Nat} {R : Value} (h : RAt w B rb L a cap) (hb : Below w.heap.size w w') : REdP w B rb a cap R L (.returned R) w' :=
  ⟨rfl, a, cap, h.below hb, (Turn.refl _ w).then hb (Nat.le_refl _), fun _ _ => .inl ⟨rfl, rfl⟩⟩

set_option maxRecDepth 100000 in
set_option maxHeartbeats 2000000 in
theorem rput_new (w : World) (B rb : Nat) (L : List (Int × Int)) (a : Option Addr) (cap : Nat) (x : Int × Int) (h : RAt w B rb L a cap) (hr : Rise kf L) (hB : B ≤ w.heap.size) (hh : hasB L x.1 = false) (h8 : L.length < 8192) :
    Calls Try.prog 16 #[.pointer (some ⟨rb, 0, none⟩), .agg #[.int .i64 x.1, .int .i64 x.2]] w (REdP w B rb a cap (.int .i64 0) (L.take (rk kf L x.1) ++ [x] ++ L.drop (rk kf L x.1))) := by
  have hrb0 := h.head.lt
  obtain ⟨W, hW⟩ : ∃ W, w.alloc (.cells #[.int .i64 x.1, .int .i64 x.2] 28) = W := ⟨_, rfl⟩
  have hb0 : Below w.heap.size w W := by rw [← hW]; exact bel1 w _
  have h' := h.below hb0
  have hhas := rhas_any W B rb L a cap x.1 h' hr
  have hrank := rrank_any W B rb L a cap x.1 h' hr
  rw [hh] at hhas
  have hx1 : IsCells W w.heap.size #[.int .i64 x.1, .int .i64 x.2] := by rw [← hW]; exact isCells_new w _ _
  have hxl := hx1.lt
  have hdl := h'.head.lt
  have c0 : W.cell? ⟨rb, 0, none⟩ = some (.slice a L.length cap) := h'.head.cell 0
  have cx0 : W.cell? ⟨w.heap.size, 0, none⟩ = some (.int .i64 x.1) := hx1.cell 0
  have cx1 : W.cell? ⟨w.heap.size, 1, none⟩ = some (.int .i64 x.2) := hx1.cell 1
  have hrl := rk_le kf L x.1
  obtain ⟨hcc, hcm⟩ := capm_of h.row
  unfold maxLen at hcm
  have hcm' : (cap : Int) ≤ 9223372036854775807 := by omega
  have hl' : (L.length : Int) < 8192 := by omega
  generalize rk kf L x.1 = r at *
  have hr1 : (r : Int) ≤ (L.length : Int) := by omega
  have hr2 : (0 : Int) ≤ (r : Int) := by omega
  have hr3 : (r : Int) ≤ (cap : Int) := by omega
  have hr4 : r ≤ L.length := by omega
  have hr5 : r ≤ cap := by omega
  have H : Hid (RAt W B rb L a cap) := h'
  have HB0 : Hid (Below w.heap.size w W) := hb0
  have HW : Hid (w.alloc (.cells #[.int .i64 x.1, .int .i64 x.2] 28) = W) := hW
  have MA : Hid (Mk W (W.alloc (.cells #[] 28)).drew (.slice (some ⟨W.heap.size, 0, none⟩) 0 0) 0 []) := (Mk.new W).drew
  have MB : Hid (Mk W ((W.alloc (.cells #[] 28)).alloc (.cells #[.int .i64 x.1, .int .i64 x.2] 28)).drew (.slice (some ⟨W.heap.size, 0, none⟩) 0 0) 0 []) := ((Mk.new W).alloc _).drew
  have MC : Hid (Mk W ((W.alloc (.cells #[.int .i64 x.1, .int .i64 x.2] 28)).alloc (.cells #[] 28)).drew (.slice (some ⟨W.heap.size + 1, 0, none⟩) 0 0) 0 []) := by
    show Mk _ _ _ _ _
    have := (Mk.new2 (bel1 W (.cells #[.int .i64 x.1, .int .i64 x.2] 28))).drew
    simpa using this
  have OB : Hid (IsCells ((W.alloc (.cells #[] 28)).alloc (.cells #[.int .i64 x.1, .int .i64 x.2] 28)).drew (W.heap.size + 1) #[.int .i64 x.1, .int .i64 x.2]) := by
    show IsCells _ _ _
    have := isCells_new (W.alloc (.cells #[] 28)) #[.int .i64 x.1, .int .i64 x.2] 28
    simp only [World.size_alloc] at this
    exact this
  have OC : Hid (IsCells ((W.alloc (.cells #[.int .i64 x.1, .int .i64 x.2] 28)).alloc (.cells #[] 28)).drew W.heap.size #[.int .i64 x.1, .int .i64 x.2]) := (isCells_new W _ _).alloc _
  have H1 : Hid (∀ X, Below W.heap.size W X → ∀ j u, (cellsOf (L.take r))[j]? = some u → ∃ ad, a = some ad ∧ X.cell? (ad.add j) = some u) := fun X hX => part_take h'.row hX r
  have hone : ∀ u ∈ ([.int .i64 x.1, .int .i64 x.2] : List Value), u.oneCell' = true := by intro u hu; simp at hu; rcases hu with rfl | rfl <;> rfl
  have hones := cellsOf_one (L.take r)
  have Hlt : Hid ((cellsOf (L.take r)).length = r * 2) := by show _ = _; rw [cellsOf_length, List.length_take]; omega
  have a1 : (W.alloc (.cells #[] 28)).cell? ⟨rb, 0, none⟩ = some (.slice a L.length cap) := ((bel1 W _).cell (p := ⟨rb, 0, none⟩) hdl).trans c0
  clear h h' hb0 hW hr hx1 hh
  go_enter Try.func16, Try.ntmps16
  go_wp2_with fail
  rw [HW.out]
  refine hhas.mono ?_
  rintro e W ⟨rfl, rfl⟩
  clear hhas HW
  go_wp2_with fail
  refine hrank.mono ?_
  rintro e W ⟨rfl, rfl⟩
  clear hrank
  have S1 : ∀ X, Below W.heap.size W X → X.cell? ⟨rb, 0, none⟩ = some (.slice a L.length cap) ∧ X.cell? ⟨w.heap.size, 0, none⟩ = some (.int .i64 x.1) ∧ X.cell? ⟨w.heap.size, 1, none⟩ = some (.int .i64 x.2) := fun X hX =>
    ⟨(hX.cell (p := ⟨rb, 0, none⟩) hdl).trans c0, (hX.cell (p := ⟨w.heap.size, 0, none⟩) hxl).trans cx0, (hX.cell (p := ⟨w.heap.size, 1, none⟩) hxl).trans cx1⟩
  have HS1 : Hid (∀ X, Below W.heap.size W X → X.cell? ⟨rb, 0, none⟩ = some (.slice a L.length cap) ∧ X.cell? ⟨w.heap.size, 0, none⟩ = some (.int .i64 x.1) ∧ X.cell? ⟨w.heap.size, 1, none⟩ = some (.int .i64 x.2)) := S1
  have nw1 := World.new_ne W ⟨rb, 0, none⟩ c0
  have nw2 := World.new_ne W ⟨w.heap.size, 0, none⟩ cx0
  clear S1
  go_wp2
  go_region_held3 (fun X => X.cell? ⟨rb, 0, none⟩ = some (.slice a L.length cap) ∧ X.cell? ⟨w.heap.size, 0, none⟩ = some (.int .i64 x.1) ∧ X.cell? ⟨w.heap.size, 1, none⟩ = some (.int .i64 x.2)) (go_keep)
    (first
      | (refine step_mk rfl _ _ rfl _ 0 [] MA.out rfl a r cap (cellsOf (L.take r)) rfl Hlt.out (H1.out _ MA.out.bel) hones (by omega) ?_; intro v1 w1 m1 q1; obtain ⟨s1, s2, s3⟩ := HS1.out _ m1.bel; have M1 : Hid (Mk W w1 v1 (0 + r) ([] ++ cellsOf (L.take r))) := m1; have ne1 : w1.heap.size ≠ rb := (World.new_ne w1 ⟨rb, 0, none⟩ s1); have ne2 : w1.heap.size ≠ w.heap.size := (World.new_ne w1 ⟨w.heap.size, 0, none⟩ s2); clear m1 q1 MA MB MC)
      | (refine step_mk rfl _ _ rfl _ 0 [] MB.out rfl a r cap (cellsOf (L.take r)) rfl Hlt.out (H1.out _ MB.out.bel) hones (by omega) ?_; intro v1 w1 m1 q1; obtain ⟨s1, s2, s3⟩ := HS1.out _ m1.bel; have M1 : Hid (Mk W w1 v1 (0 + r) ([] ++ cellsOf (L.take r))) := m1; have OW1 : Hid (IsCells w1 (W.heap.size + 1) #[.int .i64 x.1, .int .i64 x.2]) := OB.out.of_block (q1 _ OB.out.lt (by simp [Value.ownBlock])); clear m1 q1 MA MB MC)
      | (refine step_mk rfl _ _ rfl _ 0 [] MC.out rfl a r cap (cellsOf (L.take r)) rfl Hlt.out (H1.out _ MC.out.bel) hones (by omega) ?_; intro v1 w1 m1 q1; obtain ⟨s1, s2, s3⟩ := HS1.out _ m1.bel; have M1 : Hid (Mk W w1 v1 (0 + r) ([] ++ cellsOf (L.take r))) := m1; have OW1 : Hid (IsCells w1 W.heap.size #[.int .i64 x.1, .int .i64 x.2]) := OC.out.of_block (q1 _ OC.out.lt (by simp [Value.ownBlock])); clear m1 q1 MA MB MC)
      | (refine step_mk rfl _ _ rfl _ (0 + r) _ M1.out rfl _ 1 1 [.int .i64 x.1, .int .i64 x.2] rfl rfl (two_at OW1.out) hone (by omega) ?_; intro v2 w2 m2 q2; obtain ⟨s4, s5, s6⟩ := HS1.out _ m2.bel; have M2 : Hid (Mk W w2 v2 (0 + r + 1) ([] ++ cellsOf (L.take r) ++ [.int .i64 x.1, .int .i64 x.2])) := m2; clear m2 q2 M1 OW1)
      | (refine step_mk rfl _ _ rfl _ (0 + r) _ (M1.out.alloc _) rfl _ 1 1 [.int .i64 x.1, .int .i64 x.2] rfl rfl (two_at (isCells_new w1 _ _)) hone (by omega) ?_; intro v2 w2 m2 q2; obtain ⟨s4, s5, s6⟩ := HS1.out _ m2.bel; have M2 : Hid (Mk W w2 v2 (0 + r + 1) ([] ++ cellsOf (L.take r) ++ [.int .i64 x.1, .int .i64 x.2])) := m2; clear m2 q2 M1))
  all_goals
    have hrbw : rb < w.heap.size := hrb0
    have hf4 : w2.frozen? ⟨rb, 0, none⟩ = false := (H.out.head.of_block (M2.out.bel.block rb hdl)).frozen 0
    have hlen : Hid ((L.take r ++ [x] ++ L.drop r).length = 0 + r + 1 + (L.length - r)) := by show _ = _; simp; omega
    have hxs : Hid ([] ++ cellsOf (L.take r) ++ [.int .i64 x.1, .int .i64 x.2] ++ cellsOf (L.drop r) = cellsOf (L.take r ++ [x] ++ L.drop r)) := by
      show _ = _
      rw [cellsOf_append, cellsOf_append]
      rfl
    have hdl2 : Hid ((cellsOf (L.drop r)).length = (L.length - r) * 2) := by show _ = _; rw [cellsOf_length, List.length_drop]
    obtain ⟨va, vc, rfl⟩ := own_slice M2.out.own
    cases a with
    | none =>
      have hL0 : L.length = 0 ∧ cap = 0 := by
        rcases H.out.row.2 with ⟨e, e2⟩ | ⟨g, cap', cur, e, _⟩
        · simp only [Value.slice.injEq] at e; omega
        · simp only [Value.slice.injEq] at e; simp at e
      obtain ⟨hL0, rfl⟩ := hL0
      obtain rfl := List.length_eq_zero_iff.1 hL0
      obtain rfl : r = 0 := by omega
      go_wp2_with (at_builtin; refine wpList_mk rfl _ _ rfl _ _ _ M2.out rfl none 0 0 (cellsOf (([] : List (Int × Int)).drop 0)) rfl hdl2.out (fun j u hu => by simp [cellsOf] at hu) (cellsOf_one _) (by omega) ?_; intro v3 w3 m3; obtain ⟨a', cap', rfl⟩ := own_slice m3.own; have c3 : w3.cell? ⟨rb, 0, none⟩ = some (.slice none 0 0) := (HS1.out _ m3.bel).1; have f3 : w3.frozen? ⟨rb, 0, none⟩ = false := (H.out.head.of_block (m3.bel.block rb hdl)).frozen 0; have M3 : Hid (Mk W w3 (.slice a' (0 + 0 + 1 + 0) cap') (0 + 0 + 1 + 0) _) := m3; clear m3 M2)
      go_ret
      have hd := mk_done (w := w) (L' := ([] : List (Int × Int)).take 0 ++ [x] ++ ([] : List (Int × Int)).drop 0) H.out HB0.out hrbw hB M3.out hxs.out (by simp)
      exact ⟨rfl, _, _, hd⟩
    | some ad =>
      obtain ⟨g, rfl⟩ : ∃ g, ad = ⟨g, 0, none⟩ := by
        rcases H.out.row.2 with ⟨e, e2⟩ | ⟨g, cap', cur, e, _⟩
        · simp only [Value.slice.injEq] at e; simp at e
        · simp only [Value.slice.injEq, Option.some.injEq] at e; exact ⟨g, e.1⟩
      obtain ⟨A, hA, hAn⟩ := part_drop H.out.row r hr4 rfl
      have HA : Hid (∀ X, Below W.heap.size W X → ∀ j u, (cellsOf (L.drop r))[j]? = some u → ∃ ad, some A = some ad ∧ X.cell? (ad.add j) = some u) := hAn
      clear hAn
      go_wp2_with (at_builtin; refine wpList_mk rfl _ _ rfl _ _ _ M2.out rfl (some A) (L.length - r) (cap - r) (cellsOf (L.drop r)) rfl hdl2.out (HA.out _ M2.out.bel) (cellsOf_one _) (by omega) ?_; intro v3 w3 m3; obtain ⟨a', cap', rfl⟩ := own_slice m3.own; have c3 : w3.cell? ⟨rb, 0, none⟩ = some (.slice (some ⟨g, 0, none⟩) L.length cap) := (HS1.out _ m3.bel).1; have f3 : w3.frozen? ⟨rb, 0, none⟩ = false := (H.out.head.of_block (m3.bel.block rb hdl)).frozen 0; have M3 : Hid (Mk W w3 (.slice a' (0 + r + 1 + (L.length - r)) cap') (0 + r + 1 + (L.length - r)) _) := m3; clear m3 M2)
      go_ret
      have m4 := M3.out
      rw [← hlen.out] at m4
      have hd := mk_done (w := w) (L' := L.take r ++ [x] ++ L.drop r) H.out HB0.out hrbw hB m4 hxs.out (by rw [hlen.out]; omega)
      rw [hlen.out] at hd
      refine ⟨rfl, a', cap', ?_⟩
      rw [hlen.out]
      simp only [Nat.zero_add] at hd ⊢
      exact hd

set_option maxRecDepth 100000 in
set_option maxHeartbeats 1000000 in
theorem rput_any (w : World) (B rb : Nat) (L : List (Int × Int)) (a : Option Addr) (cap : Nat) (x : Int × Int) (h : RAt w B rb L a cap) (hr : Rise kf L) (hB : B ≤ w.heap.size) :
    Calls Try.prog 16 #[.pointer (some ⟨rb, 0, none⟩), .agg #[.int .i64 x.1, .int .i64 x.2]] w (REdP w B rb a cap (.int .i64 (rputE L x)) (rputL L x)) := by
  have h' := h.below (bel1 w (.cells #[.int .i64 x.1, .int .i64 x.2] 28))
  have hhas := rhas_any _ B rb L a cap x.1 h' hr
  have H : Hid (RAt w B rb L a cap) := h
  cases hh : hasB L x.1 with
  | true =>
    rw [hh] at hhas
    have e1 : rputE L x = 70 := by simp [rputE, hh]
    have e2 : rputL L x = L := by simp [rputL, hh]
    rw [e1, e2]
    clear e1 e2 hh h h' hr
    go_enter Try.func16, Try.ntmps16
    go_wp2_with fail
    refine hhas.mono ?_
    rintro e W ⟨rfl, rfl⟩
    clear hhas
    go_wp2
    go_ret
    exact REdP.same H.out (bel1 w _)
  | false =>
    by_cases h8 : 8192 ≤ L.length
    · rw [hh] at hhas
      have e1 : rputE L x = 2 := by simp [rputE, hh, h8]
      have e2 : rputL L x = L := by simp [rputL, hh, h8]
      rw [e1, e2]
      have h8' : (8192 : Int) ≤ (L.length : Int) := by omega
      have hl9 : (L.length : Int) ≤ 8192 := by have := h.len; omega
      have c0 : (w.alloc (.cells #[.int .i64 x.1, .int .i64 x.2] 28)).cell? ⟨rb, 0, none⟩ = some (.slice a L.length cap) := h'.head.cell 0
      clear e1 e2 hh h h' hr h8
      go_enter Try.func16, Try.ntmps16
      go_wp2_with fail
      refine hhas.mono ?_
      rintro e W ⟨rfl, rfl⟩
      clear hhas
      go_wp2
      go_ret
      exact REdP.same H.out (bel1 w _)
    · have e1 : rputE L x = 0 := by simp [rputE, hh, h8]
      have e2 : rputL L x = L.take (rk kf L x.1) ++ [x] ++ L.drop (rk kf L x.1) := by simp only [rputL, hh, h8]; simp
      rw [e1, e2]
      exact rput_new w B rb L a cap x h hr hB hh (by omega)

set_option maxRecDepth 100000 in
set_option maxHeartbeats 2000000 in
theorem rdrop_some (w : World) (B rb : Nat) (L : List (Int × Int)) (a : Option Addr) (cap : Nat) (key : Int) (h : RAt w B rb L a cap) (hr : Rise kf L) (hB : B ≤ w.heap.size) (hh : hasB L key = true) :
    Calls Try.prog 38 #[.pointer (some ⟨rb, 0, none⟩), .int .i64 key] w (REdP w B rb a cap (.bool true) (L.take (rk kf L key) ++ L.drop (rk kf L key + 1))) := by
  have hrb0 := h.head.lt
  have hhas := rhas_any w B rb L a cap key h hr
  have hrank := rrank_any w B rb L a cap key h hr
  have hrl : rk kf L key < L.length := by
    unfold hasB at hh
    cases hq : L[rk kf L key]? with
    | none => rw [hq] at hh; cases hh
    | some y => exact (List.getElem?_eq_some_iff.1 hq).1
  rw [hh] at hhas
  have c0 : w.cell? ⟨rb, 0, none⟩ = some (.slice a L.length cap) := h.head.cell 0
  have f0 : w.frozen? ⟨rb, 0, none⟩ = false := h.head.frozen 0
  obtain ⟨hcc, hcm⟩ := capm_of h.row
  unfold maxLen at hcm
  have hcm' : (cap : Int) ≤ 9223372036854775807 := by omega
  have hl' : (L.length : Int) ≤ 8192 := by have := h.len; omega
  have hl8 := h.len
  generalize rk kf L key = r at *
  obtain ⟨g, rfl⟩ : ∃ g, a = some ⟨g, 0, none⟩ := by
    rcases h.row.2 with ⟨e, e2⟩ | ⟨g, cap', cur, e, _⟩
    · omega
    · simp only [Value.slice.injEq] at e; exact ⟨g, e.1⟩
  obtain ⟨A, hA, hAn⟩ := part_drop h.row (r + 1) (by omega) rfl
  have HA : Hid (∀ X, Below w.heap.size w X → ∀ j u, (cellsOf (L.drop (r + 1)))[j]? = some u → ∃ ad, some A = some ad ∧ X.cell? (ad.add j) = some u) := hAn
  have hr1 : (r : Int) + 1 ≤ (L.length : Int) := by omega
  have hr2 : (0 : Int) ≤ (r : Int) := by omega
  have hr3 : (r : Int) ≤ (cap : Int) := by omega
  have hr4 : (0 : Int) ≤ (r : Int) + 1 := by omega
  have hr5 : ((r : Int) + 1).toNat = r + 1 := by omega
  have hr6 : r ≤ cap := by omega
  have hr7 : (r : Int) + 1 ≤ (cap : Int) := by omega
  have hr8 : IntKind.i64.wrap (r : Int) = (r : Int) := by rw [IntKind.wrap_i64]; omega
  have hr9 : ((L.length : Nat) : Int) ≤ (cap : Int) := by omega
  have hr10 : (r : Int) < 8192 := by omega
  have hr11 : IntKind.i64.wrap ((r : Int) + 1) = (r : Int) + 1 := by rw [IntKind.wrap_i64]; omega
  have H : Hid (RAt w B rb L (some ⟨g, 0, none⟩) cap) := h
  have MA : Hid (Mk w (w.alloc (.cells #[] 28)).drew (.slice (some ⟨w.heap.size, 0, none⟩) 0 0) 0 []) := (Mk.new w).drew
  have H1 : Hid (∀ X, Below w.heap.size w X → ∀ j u, (cellsOf (L.take r))[j]? = some u → ∃ ad, (some ⟨g, 0, none⟩ : Option Addr) = some ad ∧ X.cell? (ad.add j) = some u) := fun X hX => part_take h.row hX r
  have hones := cellsOf_one (L.take r)
  have hones2 := cellsOf_one (L.drop (r + 1))
  have Hlt : Hid ((cellsOf (L.take r)).length = r * 2) := by show _ = _; rw [cellsOf_length, List.length_take]; omega
  have Hld : Hid ((cellsOf (L.drop (r + 1))).length = (L.length - (r + 1)) * 2) := by show _ = _; rw [cellsOf_length, List.length_drop]
  have hlen : Hid ((L.take r ++ L.drop (r + 1)).length = 0 + r + (L.length - (r + 1))) := by show _ = _; simp; omega
  have hxs : Hid ([] ++ cellsOf (L.take r) ++ cellsOf (L.drop (r + 1)) = cellsOf (L.take r ++ L.drop (r + 1))) := by
    show _ = _
    rw [cellsOf_append]
    rfl
  have a1 : (w.alloc (.cells #[] 28)).cell? ⟨rb, 0, none⟩ = some (.slice (some ⟨g, 0, none⟩) L.length cap) := ((bel1 w _).cell (p := ⟨rb, 0, none⟩) hrb0).trans c0
  have tok1 : True := trivial
  have tok2 : True := trivial
  clear h hr hh hAn
  go_enter Try.func38, Try.ntmps38
  go_wp2_with fail
  refine hhas.mono ?_
  rintro e w ⟨rfl, rfl⟩
  clear hhas
  go_wp2_with fail
  refine hrank.mono ?_
  rintro e w ⟨rfl, rfl⟩
  clear hrank
  go_wp2
  go_region_law
    (first
      | (have _t := tok1; refine step_mk (by rfl) _ _ (by rfl) _ 0 [] MA.out (by rfl) (some ⟨g, 0, none⟩) r cap (cellsOf (L.take r)) (by rfl) Hlt.out (H1.out _ MA.out.bel) hones (by omega) ?_; intro v1 w1 m1 q1; have c1 : w1.cell? ⟨rb, 0, none⟩ = some (.slice (some ⟨g, 0, none⟩) L.length cap) := (m1.bel.cell (p := ⟨rb, 0, none⟩) hrb0).trans c0; have M1 : Hid (Mk w w1 v1 (0 + r) ([] ++ cellsOf (L.take r))) := m1; clear m1 q1 MA tok1 _t)
      | (have _t := tok2; have _m := M1; refine step_mk (by rfl) _ _ (by rfl) _ (0 + r) _ M1.out (by rfl) (some A) (L.length - (r + 1)) (cap - (r + 1)) (cellsOf (L.drop (r + 1))) (by rfl) Hld.out (HA.out _ M1.out.bel) hones2 (by omega) ?_; intro v2 w2 m2 q2; obtain ⟨a', cap', rfl⟩ := own_slice m2.own; have c2 : w2.cell? ⟨rb, 0, none⟩ = some (.slice (some ⟨g, 0, none⟩) L.length cap) := (m2.bel.cell (p := ⟨rb, 0, none⟩) hrb0).trans c0; have f2 : w2.frozen? ⟨rb, 0, none⟩ = false := (m2.bel.frozen (p := ⟨rb, 0, none⟩) hrb0).trans f0; have M2 : Hid (Mk w w2 (.slice a' (0 + r + (L.length - (r + 1))) cap') (0 + r + (L.length - (r + 1))) ([] ++ cellsOf (L.take r) ++ cellsOf (L.drop (r + 1)))) := m2; clear m2 q2 M1 tok2 _t _m))
  all_goals
    go_wp2
    go_ret
    have m4 := M2.out
    rw [← hlen.out] at m4
    have hd := mk_done (w := w) (L' := L.take r ++ L.drop (r + 1)) H.out (Below.refl _ _) hrb0 hB m4 hxs.out (by rw [hlen.out]; omega)
    rw [hlen.out] at hd
    refine ⟨rfl, a', cap', ?_⟩
    rw [hlen.out]
    simp only [Nat.zero_add] at hd ⊢
    exact hd

set_option maxRecDepth 100000 in
set_option maxHeartbeats 1000000 in
theorem rdrop_any (w : World) (B rb : Nat) (L : List (Int × Int)) (a : Option Addr) (cap : Nat) (key : Int) (h : RAt w B rb L a cap) (hr : Rise kf L) (hB : B ≤ w.heap.size) :
    Calls Try.prog 38 #[.pointer (some ⟨rb, 0, none⟩), .int .i64 key] w (REdP w B rb a cap (.bool (hasB L key)) (rdropL L key)) := by
  cases hh : hasB L key with
  | true =>
    have e : rdropL L key = L.take (rk kf L key) ++ L.drop (rk kf L key + 1) := by simp [rdropL, hh]
    rw [e]
    exact rdrop_some w B rb L a cap key h hr hB hh
  | false =>
    have hhas := rhas_any w B rb L a cap key h hr
    rw [hh] at hhas
    have e : rdropL L key = L := by simp [rdropL, hh]
    rw [e]
    have H : Hid (RAt w B rb L a cap) := h
    clear e hh h hr
    go_enter Try.func38, Try.ntmps38
    go_wp2_with fail
    refine hhas.mono ?_
    rintro e w ⟨rfl, rfl⟩
    clear hhas
    go_wp2
    go_ret
    exact REdP.same H.out (Below.refl _ _)

end Go.Proofs.Ytiggpbjgnododaa.T
