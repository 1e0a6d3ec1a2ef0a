/- Does: both documents, side by side. -/
import Derived.Test.YtjkgjckkglfokaaGreatU21
import Derived.Test.YtjkgjckkglfokaaGreatU01
import Derived.Test.YtjkgjckkglfokaaGreatU15
namespace Go.Proofs.YtjkgjckkglfokaaGreat.Gr
open Go.RowKit
set_option linter.unusedVariables false
set_option linter.unusedSimpArgs false
set_option maxRecDepth 100000
set_option maxHeartbeats 4000000
structure Bo (w : World) (ro : Nat -> Nat) (db : Nat) (Q : Nat -> Prop) (rb : Nat) (D : Dc) : Prop where
 wf : WF D
 p : PDoc w ro db D
 r : RDoc w Q rb D
 ap : ∀ b, ro b ≠ 0 -> ¬ Q b /\ b ≠ rb
theorem Bo.turn {w w' : World} {ro : Nat -> Nat} {db : Nat} {Q : Nat -> Prop} {rb : Nat} {D : Dc} (h : Bo w ro db Q rb D) {A : Nat -> Prop} (ht : Turn A w w') (h1 : ∀ b, ro b ≠ 0 -> ¬ A b) (h2 : ∀ b, Q b -> ¬ A b) (h3 : ¬ A rb) : Bo w' ro db Q rb D :=
 ⟨h.wf, h.p.turn ht h1, h.r.turn ht h2 h3, h.ap⟩
def DoP (w : World) (ro : Nat -> Nat) (db : Nat) (Q : Nat -> Prop) (rb : Nat) (e : Ending) (w' : World) : Prop :=
 e = .returned (.bool true) /\ Turn (fun b => ro b ≠ 0 \/ b = rb) w w' /\ ∃ ro' Q' D', Bo w' ro' db Q' rb D' /\ (∀ b, ro' b ≠ 0 -> ro b ≠ 0 \/ w.heap.size <= b) /\ (∀ b, Q' b -> Q b \/ w.heap.size <= b)
theorem PdocLt {w : World} {ro : Nat -> Nat} {db : Nat} {D : Dc} (h : PDoc w ro db D) : ∀ b, ro b ≠ 0 -> b < w.heap.size := by
 obtain ⟨sa, sc, ra, rc, L, h⟩ := h
 exact h.lt
structure Bh (w w' : World) (ro : Nat -> Nat) (db : Nat) (Q : Nat -> Prop) (rb : Nat) (D D' : Dc) (ro' : Nat -> Nat) : Prop where
 turn : Turn (fun b => ro b ≠ 0) w w'
 p : PDoc w' ro' db D'
 r : RDoc w' Q rb D
 new : ∀ b, ro' b ≠ 0 -> ro b ≠ 0 \/ w.heap.size <= b
 ap : ∀ b, ro' b ≠ 0 -> ¬ Q b /\ b ≠ rb
theorem Bo.half {w w' : World} {ro ro' : Nat -> Nat} {db : Nat} {Q : Nat -> Prop} {rb : Nat} {D D' : Dc} (h : Bo w ro db Q rb D) (ht : Turn (fun b => ro b ≠ 0) w w') (hp : PDoc w' ro' db D') (hn : ∀ b, ro' b ≠ 0 -> ro b ≠ 0 \/ w.heap.size <= b) : Bh w w' ro db Q rb D D' ro' :=
 ⟨ht, hp, h.r.turn ht (fun b hb e => (h.ap b e).1 hb) (fun e => (h.ap rb e).2 rfl), hn, fun b hb => by
  rcases hn b hb with h1 | h1
  ·exact h.ap b h1
  ·exact ⟨fun hq => by have := h.r.lt b hq; omega, fun e => by have := h.r.rbl; omega⟩⟩
theorem Bh.whole {w w' w'' : World} {ro ro' : Nat -> Nat} {db : Nat} {Q : Nat -> Prop} {rb : Nat} {D D' : Dc} (h : Bh w w' ro db Q rb D D' ro') (hw : WF D') (ht : Turn (fun b => b = rb) w' w'') (hr : RDoc w'' (fun b => Q b \/ (w'.heap.size <= b /\ b < w''.heap.size)) rb D') : DoP w ro db Q rb (.returned (.bool true)) w'' := by
 refine ⟨rfl, (h.turn.mono (fun _ _ e => .inl e)).trans (ht.mono (fun _ _ e => .inr e)), ro', _, D', ⟨hw, h.p.turn ht (fun b hb e => (h.ap b hb).2 e), hr, fun b hb => ⟨?_, (h.ap b hb).2⟩⟩, h.new, fun b hb => ?_⟩
 ·rintro (hq | ⟨hq, _⟩)
  ·exact (h.ap b hb).1 hq
  ·have := PdocLt h.p b hb
   omega
 ·rcases hb with hb | ⟨hb, _⟩
  ·exact .inl hb
  ·exact .inr (Nat.le_trans h.turn.size hb)
theorem DoP.from {z w w' : World} {ro : Nat -> Nat} {db : Nat} {Q : Nat -> Prop} {rb : Nat} {e : Ending} (ht : Turn (fun _ => False) z w) (h : DoP w ro db Q rb e w') : DoP z ro db Q rb e w' := by
 obtain ⟨h1, h2, ro', Q', D', h3, h4, h5⟩ := h
 exact ⟨h1, (ht.mono (fun _ _ h => h.elim)).trans h2, ro', Q', D', h3, fun b hb => (h4 b hb).imp_right (Nat.le_trans ht.size), fun b hb => (h5 b hb).imp_right (Nat.le_trans ht.size)⟩
theorem set12 {w : World} {X : Nat} {c0 c1 c2 c3 c4 c5 c6 c7 c8 c9 c10 c11 : Value} (h : IsCells w X #[c0, c1, c2, c3, c4, c5, c6, c7, c8, c9, c10, c11]) (v0 v1 v2 v3 v4 v5 v6 v7 v8 v9 v10 v11 : Value) :
  IsCells ((((((((((((w.setCell ⟨X, 0, none⟩ v0).setCell ⟨X, 1, none⟩ v1).setCell ⟨X, 2, none⟩ v2).setCell ⟨X, 3, none⟩ v3).setCell ⟨X, 4, none⟩ v4).setCell ⟨X, 5, none⟩ v5).setCell ⟨X, 6, none⟩ v6).setCell ⟨X, 7, none⟩ v7).setCell ⟨X, 8, none⟩ v8).setCell ⟨X, 9, none⟩ v9).setCell ⟨X, 10, none⟩ v10).setCell ⟨X, 11, none⟩ v11) X #[v0, v1, v2, v3, v4, v5, v6, v7, v8, v9, v10, v11] := by
 have h0 : IsCells _ X #[v0, c1, c2, c3, c4, c5, c6, c7, c8, c9, c10, c11] := h.set 0 v0
 have h1 : IsCells _ X #[v0, v1, c2, c3, c4, c5, c6, c7, c8, c9, c10, c11] := h0.set 1 v1
 have h2 : IsCells _ X #[v0, v1, v2, c3, c4, c5, c6, c7, c8, c9, c10, c11] := h1.set 2 v2
 have h3 : IsCells _ X #[v0, v1, v2, v3, c4, c5, c6, c7, c8, c9, c10, c11] := h2.set 3 v3
 have h4 : IsCells _ X #[v0, v1, v2, v3, v4, c5, c6, c7, c8, c9, c10, c11] := h3.set 4 v4
 have h5 : IsCells _ X #[v0, v1, v2, v3, v4, v5, c6, c7, c8, c9, c10, c11] := h4.set 5 v5
 have h6 : IsCells _ X #[v0, v1, v2, v3, v4, v5, v6, c7, c8, c9, c10, c11] := h5.set 6 v6
 have h7 : IsCells _ X #[v0, v1, v2, v3, v4, v5, v6, v7, c8, c9, c10, c11] := h6.set 7 v7
 have h8 : IsCells _ X #[v0, v1, v2, v3, v4, v5, v6, v7, v8, c9, c10, c11] := h7.set 8 v8
 have h9 : IsCells _ X #[v0, v1, v2, v3, v4, v5, v6, v7, v8, v9, c10, c11] := h8.set 9 v9
 have h10 : IsCells _ X #[v0, v1, v2, v3, v4, v5, v6, v7, v8, v9, v10, c11] := h9.set 10 v10
 have h11 : IsCells _ X #[v0, v1, v2, v3, v4, v5, v6, v7, v8, v9, v10, v11] := h10.set 11 v11
 exact h11
theorem turn12n {A : Nat -> Prop} {z w : World} (ht : Turn A z w) {X : Nat} (h : z.heap.size <= X) (v0 v1 v2 v3 v4 v5 v6 v7 v8 v9 v10 v11 : Value) : Turn A z ((((((((((((w.setCell ⟨X, 0, none⟩ v0).setCell ⟨X, 1, none⟩ v1).setCell ⟨X, 2, none⟩ v2).setCell ⟨X, 3, none⟩ v3).setCell ⟨X, 4, none⟩ v4).setCell ⟨X, 5, none⟩ v5).setCell ⟨X, 6, none⟩ v6).setCell ⟨X, 7, none⟩ v7).setCell ⟨X, 8, none⟩ v8).setCell ⟨X, 9, none⟩ v9).setCell ⟨X, 10, none⟩ v10).setCell ⟨X, 11, none⟩ v11) :=
 ((((((((((((ht.setNew (p := ⟨X, 0, none⟩) h v0).setNew (p := ⟨X, 1, none⟩) h v1).setNew (p := ⟨X, 2, none⟩) h v2).setNew (p := ⟨X, 3, none⟩) h v3).setNew (p := ⟨X, 4, none⟩) h v4).setNew (p := ⟨X, 5, none⟩) h v5).setNew (p := ⟨X, 6, none⟩) h v6).setNew (p := ⟨X, 7, none⟩) h v7).setNew (p := ⟨X, 8, none⟩) h v8).setNew (p := ⟨X, 9, none⟩) h v9).setNew (p := ⟨X, 10, none⟩) h v10).setNew (p := ⟨X, 11, none⟩) h v11)
theorem does_none (w : World) (ro : Nat -> Nat) (db : Nat) (Q : Nat -> Prop) (rb : Nat) (D : Dc) (hbo : Bo w ro db Q rb D) (k wh : Int) (how : Bool) (n a : Nat) (nm vl : ByteArray) (xk : Int) (xn : ByteArray) (xa : Option Addr) (xal xac : Nat) (xt : ByteArray) (xka : Option Addr) (xkl xkc : Nat) (hn : n < 18446744073709551616) (ha : a < 18446744073709551616)
  (hk : k ≠ 0 /\ k ≠ 1 /\ k ≠ 2 /\ k ≠ 3 /\ k ≠ 4 /\ k ≠ 5 /\ k ≠ 6) :
  Calls Tryz.prog 15 #[.iface 34 (.pointer (some ⟨db, 0, none⟩)), .pointer (some ⟨rb, 0, none⟩), .agg (actv k wh how n a nm vl xk xn xa xal xac xt xka xkl xkc)] w (DoP w ro db Q rb) := by
 have hme := meant_any (w.alloc (.cells (actv k wh how n a nm vl xk xn xa xal xac xt xka xkl xkc) 33)) _ rb D (hbo.r.view.below (below_new' w _)) hbo.wf k wh how n a nm vl xk xn xa xal xac xt xka xkl xkc hn ha
 have HX : Hid (IsCells (w.alloc (.cells (actv k wh how n a nm vl xk xn xa xal xac xt xka xkl xkc) 33)) w.heap.size (actv k wh how n a nm vl xk xn xa xal xac xt xka xkl xkc)) := isCells_new _ _ _
 have HBO : Hid (Bo w ro db Q rb D) := hbo
 obtain ⟨z0, z1, z2, z3, z4, z5, z6⟩ := hk
 have y0 : (k == 0) = false := by simpa using z0
 have y1 : (k == 1) = false := by simpa using z1
 have y2 : (k == 2) = false := by simpa using z2
 have y3 : (k == 3) = false := by simpa using z3
 have y4 : (k == 4) = false := by simpa using z4
 have y5 : (k == 5) = false := by simpa using z5
 have y6 : (k == 6) = false := by simpa using z6
 clear hbo z0 z1 z2 z3 z4 z5 z6
 unfold actv at HX hme ⊢
 go_enter Tryz.func15, Tryz.ntmps15
 go_wp2_with fail
 refine hme.mono ?_
 rintro e w1 ⟨how', n', a', hn', ha', rfl, hb1⟩
 unfold actv
 have HX1 : Hid (IsCells w1 w.heap.size _) := HX.out.of_block (hb1.block _ HX.out.lt)
 have hc := HX1.out.cell
 have hf := HX1.out.frozen
 have hl := HX1.out.lt
 have HT : Hid (Turn (fun _ => False) w w1) := ((Turn.refl _ _).alloc _).then hb1 (by simp)
 clear hme hb1
 go_wp2
 go_ret
 have HT2 := turn12n HT.out (X := w.heap.size) (Nat.le_refl _) (.int .i64 k) (.int .i64 wh) (.bool how') (.int .u64 (n' : Int)) (.int .u64 (a' : Int)) (.string nm) (.string vl) (.int .i64 xk) (.string xn) (.slice xa xal xac) (.string xt) (.slice xka xkl xkc)
 exact ⟨rfl, HT2.mono (fun _ _ h => h.elim), ro, Q, D, HBO.out.turn HT2 (fun _ _ h => h) (fun _ _ h => h) (fun h => h), fun b hb => .inl hb, fun b hb => .inl hb⟩
end Go.Proofs.YtjkgjckkglfokaaGreat.Gr
/- Does: Move, Delete, SetName. -/
namespace Go.Proofs.YtjkgjckkglfokaaGreat.Gr
open Go.RowKit
set_option linter.unusedVariables false
set_option linter.unusedSimpArgs false
set_option maxRecDepth 100000
set_option maxHeartbeats 4000000
theorem Bh.cell {w w' : World} {ro ro' : Nat -> Nat} {db : Nat} {Q : Nat -> Prop} {rb : Nat} {D D' : Dc} (h : Bh w w' ro db Q rb D D' ro') {X : Nat} (hX : X < w.heap.size) (hn : ∀ b, ro b ≠ 0 -> b < X) (o : Nat) : w'.cell? ⟨X, o, none⟩ = w.cell? ⟨X, o, none⟩ :=
 World.cell?_of_block (w := w) (a := ⟨X, o, none⟩) (h.turn.block X hX (fun e => by have := hn X e; omega))
theorem turn_cellr {w w' : World} {rb : Nat} (h : Turn (fun b => b = rb) w w') {X : Nat} (hX : X < w.heap.size) (hn : rb < X) (o : Nat) : w'.cell? ⟨X, o, none⟩ = w.cell? ⟨X, o, none⟩ :=
 World.cell?_of_block (w := w) (a := ⟨X, o, none⟩) (h.block X hX (fun e => by omega))
theorem does_mov (w : World) (ro : Nat -> Nat) (db : Nat) (Q : Nat -> Prop) (rb : Nat) (D : Dc) (hbo : Bo w ro db Q rb D) (wh : Int) (how : Bool) (n a : Nat) (nm vl : ByteArray) (xk : Int) (xn : ByteArray) (xa : Option Addr) (xal xac : Nat) (xt : ByteArray) (xka : Option Addr) (xkl xkc : Nat) (hn : n < 18446744073709551616) (ha : a < 18446744073709551616) :
  Calls Tryz.prog 15 #[.iface 34 (.pointer (some ⟨db, 0, none⟩)), .pointer (some ⟨rb, 0, none⟩), .agg (actv 1 wh how n a nm vl xk xn xa xal xac xt xka xkl xkc)] w (DoP w ro db Q rb) := by
 have hme := meant_any (w.alloc (.cells (actv 1 wh how n a nm vl xk xn xa xal xac xt xka xkl xkc) 33)) _ rb D (hbo.r.view.below (below_new' w _)) hbo.wf 1 wh how n a nm vl xk xn xa xal xac xt xka xkl xkc hn ha
 have HX : Hid (IsCells (w.alloc (.cells (actv 1 wh how n a nm vl xk xn xa xal xac xt xka xkl xkc) 33)) w.heap.size (actv 1 wh how n a nm vl xk xn xa xal xac xt xka xkl xkc)) := isCells_new _ _ _
 have HBO : Hid (Bo w ro db Q rb D) := hbo
 clear hbo
 unfold actv at HX hme ⊢
 go_enter Tryz.func15, Tryz.ntmps15
 go_upto_region 1 with fail
 go_cut [6] (fun p wx => p = .bool false /\ ∃ (how' : Bool) (n' a' : Nat), n' < 18446744073709551616 /\ a' < 18446744073709551616 /\ Hid (Turn (fun _ => False) w wx) /\ Hid (IsCells wx w.heap.size #[.int .i64 1, .int .i64 wh, .bool how', .int .u64 (n' : Int), .int .u64 (a' : Int), .string nm, .string vl, .int .i64 xk, .string xn, .slice xa xal xac, .string xt, .slice xka xkl xkc]))
 case first =>
  go_wp2_with fail
  refine hme.mono ?_
  rintro e w1 ⟨how', n', a', hn', ha', rfl, hb1⟩
  unfold actv
  have HX1 : Hid (IsCells w1 w.heap.size _) := HX.out.of_block (hb1.block _ HX.out.lt)
  have hc := HX1.out.cell
  have hf := HX1.out.frozen
  have hl := HX1.out.lt
  have HT : Hid (Turn (fun _ => False) w w1) := ((Turn.refl _ _).alloc _).then hb1 (by simp)
  clear hme hb1
  go_wp2_with fail
  go_meet
  exact ⟨rfl, how', n', a', hn', ha', turn12n HT.out (Nat.le_refl _) _ _ _ _ _ _ _ _ _ _ _ _, set12 HX1.out _ _ _ _ _ _ _ _ _ _ _ _⟩
 case rest =>
  obtain ⟨rfl, how', n', a', hn', ha', HT, HX1⟩ := hcut
  clear HX hme
  have HB1 : Hid (Bo wc ro db Q rb D) := HBO.out.turn HT.out (fun _ _ h => h) (fun _ _ h => h) (fun h => h)
  have hc := HX1.out.cell
  have hl := HX1.out.lt
  have hm : ∀ w : World, (method 303 34 (.pointer (some ⟨db, 0, none⟩)) "Move").run Tryz.prog w = .ok (159, .pointer (some ⟨db, 0, none⟩)) w := fun _ => by kernel_rfl
  have HBd : Hid (Bo wc.drew ro db Q rb D) := HB1.out.turn (A := fun _ => False) (Turn.refl _ _).drew (fun _ _ h => h) (fun _ _ h => h) (fun h => h)
  have hcp := pmov_any wc.drew ro db D n' a' wh HBd.out.p HBd.out.wf hn' ha'
  have hcr : ∀ W, RDoc W Q rb D -> Calls Tryz.prog 39 #[.pointer (some ⟨rb, 0, none⟩), .int .u64 (n' : Int), .int .i64 wh, .int .u64 (a' : Int)] W (RPost W Q rb (movD D n' wh a').1 (movD D n' wh a').2) := fun W h => rmov_any W Q rb D n' wh a' h HB1.out.wf hn' ha'
  have HWF : Hid (WF (movD D n' wh a').1) := HB1.out.wf.mov n' wh a'
  have hcd3 : wc.drew.cell? ⟨w.heap.size, 3, none⟩ = some (.int .u64 (n' : Int)) := hc 3
  have hcd1 : wc.drew.cell? ⟨w.heap.size, 1, none⟩ = some (.int .i64 wh) := hc 1
  have hcd4 : wc.drew.cell? ⟨w.heap.size, 4, none⟩ = some (.int .u64 (a' : Int)) := hc 4
  have HNR : Hid (∀ b, ro b ≠ 0 -> b < w.heap.size) := fun b hb => PdocLt HBO.out.p b hb
  have HTd : Hid (Turn (fun _ => False) w wc.drew) := HT.out.drew
  have hrl := HBO.out.r.rbl
  have tok0 : True := trivial
  have tok1 : True := trivial
  go_upto_region 10 with fail
  go_region_held3 (fun W => W.cell? ⟨w.heap.size, 3, none⟩ = some (.int .u64 (n' : Int)) /\ W.cell? ⟨w.heap.size, 1, none⟩ = some (.int .i64 wh) /\ W.cell? ⟨w.heap.size, 4, none⟩ = some (.int .u64 (a' : Int))) (first | exact ⟨hcd3, hcd1, hcd4⟩ | exact ⟨hcq3, hcq1, hcq4⟩ | exact ⟨hcs3, hcs1, hcs4⟩ | go_keep)
   (first
    | (go_at_call 159; have _t := tok0; (with_reducible refine hcp.mono ?_); rintro e w2 ⟨rfl, ht2, ro2, hp2, hn2⟩; have HH := HBd.out.half ht2 hp2 hn2; have HHh : Hid (Bh wc.drew w2 ro db Q rb D (movD D n' wh a').1 ro2) := HH; have hcq3 : w2.cell? ⟨w.heap.size, 3, none⟩ = some (.int .u64 (n' : Int)) := (HH.cell hl HNR.out 3).trans hcd3; have hcq1 : w2.cell? ⟨w.heap.size, 1, none⟩ = some (.int .i64 wh) := (HH.cell hl HNR.out 1).trans hcd1; have hcq4 : w2.cell? ⟨w.heap.size, 4, none⟩ = some (.int .u64 (a' : Int)) := (HH.cell hl HNR.out 4).trans hcd4; have hcr2 := hcr w2 HH.r; have hl2 : w.heap.size < w2.heap.size := Nat.lt_of_lt_of_le hl HH.turn.size; clear tok0 _t HH ht2 hp2 hn2 hcp)
    | (go_at_call 39; have _t := tok1; (with_reducible refine hcr2.mono ?_); rintro e w3 ⟨rfl, ht3, hr3⟩; have HD3 : Hid (DoP w ro db Q rb (.returned (.bool true)) w3) := (HHh.out.whole HWF.out ht3 hr3).from HTd.out; have hcs3 := (turn_cellr ht3 hl2 hrl 3).trans hcq3; have hcs1 := (turn_cellr ht3 hl2 hrl 1).trans hcq1; have hcs4 := (turn_cellr ht3 hl2 hrl 4).trans hcq4; clear tok1 _t hcr2 ht3 hr3))
  go_wp2
  go_ret
  exact HD3.out
theorem does_del (w : World) (ro : Nat -> Nat) (db : Nat) (Q : Nat -> Prop) (rb : Nat) (D : Dc) (hbo : Bo w ro db Q rb D) (wh : Int) (how : Bool) (n a : Nat) (nm vl : ByteArray) (xk : Int) (xn : ByteArray) (xa : Option Addr) (xal xac : Nat) (xt : ByteArray) (xka : Option Addr) (xkl xkc : Nat) (hn : n < 18446744073709551616) (ha : a < 18446744073709551616) :
  Calls Tryz.prog 15 #[.iface 34 (.pointer (some ⟨db, 0, none⟩)), .pointer (some ⟨rb, 0, none⟩), .agg (actv 2 wh how n a nm vl xk xn xa xal xac xt xka xkl xkc)] w (DoP w ro db Q rb) := by
 have hme := meant_any (w.alloc (.cells (actv 2 wh how n a nm vl xk xn xa xal xac xt xka xkl xkc) 33)) _ rb D (hbo.r.view.below (below_new' w _)) hbo.wf 2 wh how n a nm vl xk xn xa xal xac xt xka xkl xkc hn ha
 have HX : Hid (IsCells (w.alloc (.cells (actv 2 wh how n a nm vl xk xn xa xal xac xt xka xkl xkc) 33)) w.heap.size (actv 2 wh how n a nm vl xk xn xa xal xac xt xka xkl xkc)) := isCells_new _ _ _
 have HBO : Hid (Bo w ro db Q rb D) := hbo
 clear hbo
 unfold actv at HX hme ⊢
 go_enter Tryz.func15, Tryz.ntmps15
 go_upto_region 1 with fail
 go_cut [6] (fun p wx => p = .bool false /\ ∃ (how' : Bool) (n' a' : Nat), n' < 18446744073709551616 /\ a' < 18446744073709551616 /\ Hid (Turn (fun _ => False) w wx) /\ Hid (IsCells wx w.heap.size #[.int .i64 2, .int .i64 wh, .bool how', .int .u64 (n' : Int), .int .u64 (a' : Int), .string nm, .string vl, .int .i64 xk, .string xn, .slice xa xal xac, .string xt, .slice xka xkl xkc]))
 case first =>
  go_wp2_with fail
  refine hme.mono ?_
  rintro e w1 ⟨how', n', a', hn', ha', rfl, hb1⟩
  unfold actv
  have HX1 : Hid (IsCells w1 w.heap.size _) := HX.out.of_block (hb1.block _ HX.out.lt)
  have hc := HX1.out.cell
  have hf := HX1.out.frozen
  have hl := HX1.out.lt
  have HT : Hid (Turn (fun _ => False) w w1) := ((Turn.refl _ _).alloc _).then hb1 (by simp)
  clear hme hb1
  go_wp2_with fail
  go_meet
  exact ⟨rfl, how', n', a', hn', ha', turn12n HT.out (Nat.le_refl _) _ _ _ _ _ _ _ _ _ _ _ _, set12 HX1.out _ _ _ _ _ _ _ _ _ _ _ _⟩
 case rest =>
  obtain ⟨rfl, how', n', a', hn', ha', HT, HX1⟩ := hcut
  clear HX hme
  have HB1 : Hid (Bo wc ro db Q rb D) := HBO.out.turn HT.out (fun _ _ h => h) (fun _ _ h => h) (fun h => h)
  have hc := HX1.out.cell
  have hl := HX1.out.lt
  have hm : ∀ w : World, (method 303 34 (.pointer (some ⟨db, 0, none⟩)) "Delete").run Tryz.prog w = .ok (156, .pointer (some ⟨db, 0, none⟩)) w := fun _ => by kernel_rfl
  have HBd : Hid (Bo wc.drew ro db Q rb D) := HB1.out.turn (A := fun _ => False) (Turn.refl _ _).drew (fun _ _ h => h) (fun _ _ h => h) (fun h => h)
  have hcp := pdel_any wc.drew ro db D n' HBd.out.p HBd.out.wf hn'
  have hcr : ∀ W, RDoc W Q rb D -> Calls Tryz.prog 40 #[.pointer (some ⟨rb, 0, none⟩), .int .u64 (n' : Int)] W (RPost W Q rb (delD D n').1 (delD D n').2) := fun W h => rdel_any W Q rb D n' h HB1.out.wf hn'
  have HWF : Hid (WF (delD D n').1) := HB1.out.wf.del n'
  have hcd3 : wc.drew.cell? ⟨w.heap.size, 3, none⟩ = some (.int .u64 (n' : Int)) := hc 3
  have HNR : Hid (∀ b, ro b ≠ 0 -> b < w.heap.size) := fun b hb => PdocLt HBO.out.p b hb
  have HTd : Hid (Turn (fun _ => False) w wc.drew) := HT.out.drew
  have hrl := HBO.out.r.rbl
  have tok0 : True := trivial
  have tok1 : True := trivial
  go_upto_region 12 with fail
  go_region_held3 (fun W => W.cell? ⟨w.heap.size, 3, none⟩ = some (.int .u64 (n' : Int))) (first | exact hcd3 | exact hcq3 | exact hcs3 | go_keep)
   (first
    | (go_at_call 156; have _t := tok0; (with_reducible refine hcp.mono ?_); rintro e w2 ⟨rfl, ht2, ro2, hp2, hn2⟩; have HH := HBd.out.half ht2 hp2 hn2; have HHh : Hid (Bh wc.drew w2 ro db Q rb D (delD D n').1 ro2) := HH; have hcq3 : w2.cell? ⟨w.heap.size, 3, none⟩ = some (.int .u64 (n' : Int)) := (HH.cell hl HNR.out 3).trans hcd3; have hcr2 := hcr w2 HH.r; have hl2 : w.heap.size < w2.heap.size := Nat.lt_of_lt_of_le hl HH.turn.size; clear tok0 _t HH ht2 hp2 hn2 hcp)
    | (go_at_call 40; have _t := tok1; (with_reducible refine hcr2.mono ?_); rintro e w3 ⟨rfl, ht3, hr3⟩; have HD3 : Hid (DoP w ro db Q rb (.returned (.bool true)) w3) := (HHh.out.whole HWF.out ht3 hr3).from HTd.out; have hcs3 := (turn_cellr ht3 hl2 hrl 3).trans hcq3; clear tok1 _t hcr2 ht3 hr3))
  go_wp2
  go_ret
  exact HD3.out
theorem does_name (w : World) (ro : Nat -> Nat) (db : Nat) (Q : Nat -> Prop) (rb : Nat) (D : Dc) (hbo : Bo w ro db Q rb D) (wh : Int) (how : Bool) (n a : Nat) (nm vl : ByteArray) (xk : Int) (xn : ByteArray) (xa : Option Addr) (xal xac : Nat) (xt : ByteArray) (xka : Option Addr) (xkl xkc : Nat) (hn : n < 18446744073709551616) (ha : a < 18446744073709551616) :
  Calls Tryz.prog 15 #[.iface 34 (.pointer (some ⟨db, 0, none⟩)), .pointer (some ⟨rb, 0, none⟩), .agg (actv 3 wh how n a nm vl xk xn xa xal xac xt xka xkl xkc)] w (DoP w ro db Q rb) := by
 have hme := meant_any (w.alloc (.cells (actv 3 wh how n a nm vl xk xn xa xal xac xt xka xkl xkc) 33)) _ rb D (hbo.r.view.below (below_new' w _)) hbo.wf 3 wh how n a nm vl xk xn xa xal xac xt xka xkl xkc hn ha
 have HX : Hid (IsCells (w.alloc (.cells (actv 3 wh how n a nm vl xk xn xa xal xac xt xka xkl xkc) 33)) w.heap.size (actv 3 wh how n a nm vl xk xn xa xal xac xt xka xkl xkc)) := isCells_new _ _ _
 have HBO : Hid (Bo w ro db Q rb D) := hbo
 clear hbo
 unfold actv at HX hme ⊢
 go_enter Tryz.func15, Tryz.ntmps15
 go_upto_region 1 with fail
 go_cut [6] (fun p wx => p = .bool false /\ ∃ (how' : Bool) (n' a' : Nat), n' < 18446744073709551616 /\ a' < 18446744073709551616 /\ Hid (Turn (fun _ => False) w wx) /\ Hid (IsCells wx w.heap.size #[.int .i64 3, .int .i64 wh, .bool how', .int .u64 (n' : Int), .int .u64 (a' : Int), .string nm, .string vl, .int .i64 xk, .string xn, .slice xa xal xac, .string xt, .slice xka xkl xkc]))
 case first =>
  go_wp2_with fail
  refine hme.mono ?_
  rintro e w1 ⟨how', n', a', hn', ha', rfl, hb1⟩
  unfold actv
  have HX1 : Hid (IsCells w1 w.heap.size _) := HX.out.of_block (hb1.block _ HX.out.lt)
  have hc := HX1.out.cell
  have hf := HX1.out.frozen
  have hl := HX1.out.lt
  have HT : Hid (Turn (fun _ => False) w w1) := ((Turn.refl _ _).alloc _).then hb1 (by simp)
  clear hme hb1
  go_wp2_with fail
  go_meet
  exact ⟨rfl, how', n', a', hn', ha', turn12n HT.out (Nat.le_refl _) _ _ _ _ _ _ _ _ _ _ _ _, set12 HX1.out _ _ _ _ _ _ _ _ _ _ _ _⟩
 case rest =>
  obtain ⟨rfl, how', n', a', hn', ha', HT, HX1⟩ := hcut
  clear HX hme
  have HB1 : Hid (Bo wc ro db Q rb D) := HBO.out.turn HT.out (fun _ _ h => h) (fun _ _ h => h) (fun h => h)
  have hc := HX1.out.cell
  have hl := HX1.out.lt
  have hm : ∀ w : World, (method 303 34 (.pointer (some ⟨db, 0, none⟩)) "SetName").run Tryz.prog w = .ok (161, .pointer (some ⟨db, 0, none⟩)) w := fun _ => by kernel_rfl
  have HBd : Hid (Bo wc.drew ro db Q rb D) := HB1.out.turn (A := fun _ => False) (Turn.refl _ _).drew (fun _ _ h => h) (fun _ _ h => h) (fun h => h)
  have hcp := psetName_any wc.drew ro db D n' nm HBd.out.p HBd.out.wf.fits hn'
  have hcr : ∀ W, RDoc W Q rb D -> Calls Tryz.prog 41 #[.pointer (some ⟨rb, 0, none⟩), .int .u64 (n' : Int), .string nm] W (RPost W Q rb (setNameD D n' nm).1 (setNameD D n' nm).2) := fun W h => rsetName_any W Q rb D n' nm h HB1.out.wf.fits hn'
  have HWF : Hid (WF (setNameD D n' nm).1) := HB1.out.wf.setName n' nm
  have hcd3 : wc.drew.cell? ⟨w.heap.size, 3, none⟩ = some (.int .u64 (n' : Int)) := hc 3
  have hcd5 : wc.drew.cell? ⟨w.heap.size, 5, none⟩ = some (.string nm) := hc 5
  have HNR : Hid (∀ b, ro b ≠ 0 -> b < w.heap.size) := fun b hb => PdocLt HBO.out.p b hb
  have HTd : Hid (Turn (fun _ => False) w wc.drew) := HT.out.drew
  have hrl := HBO.out.r.rbl
  have tok0 : True := trivial
  have tok1 : True := trivial
  go_upto_region 14 with fail
  go_region_held3 (fun W => W.cell? ⟨w.heap.size, 3, none⟩ = some (.int .u64 (n' : Int)) /\ W.cell? ⟨w.heap.size, 5, none⟩ = some (.string nm)) (first | exact ⟨hcd3, hcd5⟩ | exact ⟨hcq3, hcq5⟩ | exact ⟨hcs3, hcs5⟩ | go_keep)
   (first
    | (go_at_call 161; have _t := tok0; (with_reducible refine hcp.mono ?_); rintro e w2 ⟨rfl, ht2, ro2, hp2, hn2⟩; have HH := HBd.out.half ht2 hp2 hn2; have HHh : Hid (Bh wc.drew w2 ro db Q rb D (setNameD D n' nm).1 ro2) := HH; have hcq3 : w2.cell? ⟨w.heap.size, 3, none⟩ = some (.int .u64 (n' : Int)) := (HH.cell hl HNR.out 3).trans hcd3; have hcq5 : w2.cell? ⟨w.heap.size, 5, none⟩ = some (.string nm) := (HH.cell hl HNR.out 5).trans hcd5; have hcr2 := hcr w2 HH.r; have hl2 : w.heap.size < w2.heap.size := Nat.lt_of_lt_of_le hl HH.turn.size; clear tok0 _t HH ht2 hp2 hn2 hcp)
    | (go_at_call 41; have _t := tok1; (with_reducible refine hcr2.mono ?_); rintro e w3 ⟨rfl, ht3, hr3⟩; have HD3 : Hid (DoP w ro db Q rb (.returned (.bool true)) w3) := (HHh.out.whole HWF.out ht3 hr3).from HTd.out; have hcs3 := (turn_cellr ht3 hl2 hrl 3).trans hcq3; have hcs5 := (turn_cellr ht3 hl2 hrl 5).trans hcq5; clear tok1 _t hcr2 ht3 hr3))
  go_wp2
  go_ret
  exact HD3.out
end Go.Proofs.YtjkgjckkglfokaaGreat.Gr
/- SetAttr, by the document. -/
namespace Go.Proofs.YtjkgjckkglfokaaGreat.Gr
open Go.RowKit
set_option linter.unusedVariables false
set_option linter.unusedSimpArgs false
set_option maxRecDepth 100000
set_option maxHeartbeats 2000000
attribute [local go_sem] ite_sliceAt2
structure MkA (W X : World) (v : Value) (n : Nat) (xs : List Value) : Prop where
 own : X.ownsRow W.heap.size 124 2 v n xs
 bel : Below W.heap.size W X
theorem MkA.alloc {W X : World} {v : Value} {n : Nat} {xs : List Value} (h : MkA W X v n xs) (o : Obj) : MkA W (X.alloc o) v n xs := ⟨own_of_block h.own (fun k hk => Below.heap_alloc _ _ _ (own_block_lt h.own k hk).2), h.bel.alloc h.bel.size o⟩
theorem MkA.drew {W X : World} {v : Value} {n : Nat} {xs : List Value} (h : MkA W X v n xs) : MkA W X.drew v n xs := ⟨h.own, h.bel.drew⟩
theorem MkA.new (W : World) : MkA W (W.alloc (.cells #[] 124)) (.slice (some ⟨W.heap.size, 0, none⟩) 0 0) 0 [] := ⟨own_new W 124 2, (Below.refl _ _).alloc (Nat.le_refl _) _⟩
theorem MkA.grown {W X X' : World} {v v' : Value} {n n' : Nat} {xs xs' : List Value} (h : MkA W X v n xs) (h1 : X'.ownsRow W.heap.size 124 2 v' n' xs') (h2 : X.grownBy X' v.ownBlock) : MkA W X' v' n' xs' :=
 ⟨h1, h.bel.trans ⟨h2.os, h2.tape, h2.output, h2.size, fun k hk => h2.block k (by have := h.bel.size; omega) (fun e => by have := (own_block_lt h.own k e.symm).1; omega)⟩⟩
theorem step_mkA {W X : World} {ops : Array Oper} {o : Oper} {ac : Act} {K : Act -> World -> Prop} {Q : Exit -> Act -> World -> Prop} {E : Prop} (hgd : o.guard = none) (s x : Operand)
  (ho : o.op = .call { callee := .builtin .append, args := #[s, x], argTypes := #[28, 28] }) (v : Value) (n : Nat) (xs : List Value) (h : MkA W X v n xs) (hs : ac.eval s = v) (a : Option Addr) (m c : Nat) (news : List Value) (hx : ac.eval x = .slice a m c) (hl : news.length = m * 2)
  (hnews : ∀ j u, news[j]? = some u -> ∃ ad, a = some ad /\ X.cell? (ad.add j) = some u) (h1 : ∀ u ∈ news, u.oneCell' = true) (h63 : n + m <= 1048576)
  (hK : ∀ v' w', MkA W w' v' (n + m) (xs ++ news) -> K (ac.put o.dst v') w') :
  if Region.wanted o (yielded ops ac.tmps) = true then Oper.wp Tryz.prog o ac X K Q else E :=
 step_app hgd s x ho Tryz.underlying28 info128 rfl (by decide) W.heap.size v n xs hs h.own a m c news hx hl hnews h1 (by unfold maxLen; omega) (by omega) h.bel.size
  (fun v' w' k1 k2 _ _ => hK v' w' (h.grown k1 k2))
theorem wpList_mkA {W X : World} {ops : Array Oper} {rest : List Oper} {o : Oper} {ac : Act} {Q : Exit -> Act -> World -> Prop} (hgd : o.guard = none) (s x : Operand)
  (ho : o.op = .call { callee := .builtin .append, args := #[s, x], argTypes := #[28, 28] }) (v : Value) (n : Nat) (xs : List Value) (h : MkA W X v n xs) (hs : ac.eval s = v) (a : Option Addr) (m c : Nat) (news : List Value) (hx : ac.eval x = .slice a m c) (hl : news.length = m * 2)
  (hnews : ∀ j u, news[j]? = some u -> ∃ ad, a = some ad /\ X.cell? (ad.add j) = some u) (h1 : ∀ u ∈ news, u.oneCell' = true) (h63 : n + m <= 1048576)
  (hK : ∀ v' w', MkA W w' v' (n + m) (xs ++ news) -> wpList Tryz.prog ops Q rest (ac.put o.dst v') w') : wpList Tryz.prog ops Q (o :: rest) ac X :=
 wpList_app hgd s x ho Tryz.underlying28 info128 rfl (by decide) W.heap.size v n xs hs h.own a m c news hx hl hnews h1 (by unfold maxLen; omega) (by omega) h.bel.size
  (fun v' w' k1 k2 _ _ => hK v' w' (h.grown k1 k2))
theorem attrs_new {w w1 w5 : World} {Q : Nat -> Prop} {rb : Nat} {D : Dc} {g cap : Nat} {ra : Option Addr} {rcap : Nat} {L : List (Value × Value)} {i : Nat} {s : Sl} {aa ka : Option Addr} {ac kc : Nat} (hr : RdS w1 w.heap.size Q rb D g cap ra rcap L) (ht : Turn (fun b => b = rb) w w1) (hs : D.S[i]? = some s) (hp : L[i]? = some (.slice aa s.attrs.length ac, .slice ka s.kids.length kc))
  {va : Option Addr} {vc N : Nat} {l' : List (ByteArray × ByteArray)} (hm : MkA w1 w5 (.slice va N vc) N (attrCells l')) : RPost w Q rb { D with S := D.S.set i { s with attrs := l' } } 0 (.returned (.int .i64 0)) (w5.setCell ⟨g, i * 8 + 4, none⟩ (.slice va N vc)) := by
 have hgs := hr.gb
 have hbs5 := hm.bel.size
 have HO3 := own_block_lt hm.own
 have hrb0 := hr.rbl
 have hts := ht.size
 have HRW : RdS w5 w.heap.size (fun b => Q b \/ (Value.slice va N vc).ownBlock = some b) rb D g cap ra rcap L := (hr.below hm.bel).widen (fun _ h => .inl h) (fun b hb => by
  rcases hb with hb | hb
  ·exact (hr.below hm.bel).qne b hb
  ·have := HO3 b hb
   exact ⟨by omega, this.2⟩) (fun hb => by
  rcases hb with hb | hb
  ·exact hr.nrb hb
  ·have := HO3 rb hb
   omega)
 have hAR := attrs_row hm.own rfl
 have HST : RdS (w5.setCell ⟨g, i * 8 + 4, none⟩ (.slice va N vc)) w.heap.size (fun b => Q b \/ (Value.slice va N vc).ownBlock = some b) rb { D with S := D.S.set i { s with attrs := l' } } g cap ra rcap (L.set i (.slice va N vc, .slice ka s.kids.length kc)) := by
  refine HRW.store hs hp (by omega) rfl ?_
  obtain ⟨a', ac', ka', kc', e', _, m2, _, m4⟩ := HRW.vals i s _ hs hp
  cases e'
  exact ⟨va, vc, ka, kc, by rw [hAR.2.1], by rw [<- hAR.2.1]; exact hAR.2.2, m2, hAR.1.to (fun b hb => .inr hb.1) (fun _ _ _ => rfl), m4⟩
 have hdn := HST.done
 refine ⟨rfl, (ht.then hm.bel ht.size).setNew (p := ⟨g, _, none⟩) hgs.1 _, hdn.widen (fun b hb => ?_) (fun b hb => ?_) (fun hb => ?_)⟩
 ·rcases hb with (hb | hb) | hb
  ·exact .inl hb
  ·exact .inr ⟨by have := (HO3 b hb).1; omega, by simpa [World.setCell] using (HO3 b hb).2⟩
  ·exact .inr hb
 ·rcases hb with hb | hb
  ·have := (hr.qne b hb).2
   simp [World.setCell]
   omega
  ·exact hb.2
 ·rcases hb with hb | hb
  ·exact hr.nrb hb
  ·omega
theorem rsetA_ok (w : World) (Q : Nat -> Prop) (rb : Nat) (D : Dc) (h : Nat) (nm v : ByteArray) (i : Nat) (s : Sl) (hd : RDoc w Q rb D) (hf : Fits D) (hh : h < 18446744073709551616) (ha : atI D.S h = some i) (hs : D.S[i]? = some s) (hk : s.kind = 1) (hso : SortA s.attrs) (hal : s.attrs.length <= 32) (hnm : nameL nm.data.toList = true) (htn : (tans v.data.toList).2 = 0) :
  Calls Tryz.prog 43 #[.pointer (some ⟨rb, 0, none⟩), .int .u64 (h : Int), .string nm, .string v] w (RPost w Q rb (if hasN s.attrs nm = false /\ 32 <= s.attrs.length then D else { D with S := D.S.set i { s with attrs := setAttrL s.attrs nm v } }) (if hasN s.attrs nm = false /\ 32 <= s.attrs.length then 2 else 0)) := by
 have hc := change_some w Q rb D h i s hd hf hh ha hs
 rw [hk] at hc
 have hnw := fun W => rname_any W nm
 rw [hnm] at hnw
 have htx := fun W => rtext_any W v
 rw [htn] at htx
 generalize (tans v.data.toList).1 = y1 at *
 have hl4 := hf.len
 have hi1 : (i : Int) < ((D.S.length : Nat) : Int) := by have := (List.getElem?_eq_some_iff.1 hs).1; omega
 have HS : Hid (D.S[i]? = some s) := hs
 obtain ⟨k, Hk⟩ : ∃ k, Hid (lowN s.attrs nm = k) := ⟨_, rfl⟩
 have hkl : k <= s.attrs.length := by rw [<- Hk.out]; exact lowN_le _ _
 have Hcut : Hid (∀ j p, s.attrs[j]? = some p -> (j < k ↔ ltN p.1 nm)) := fun j p hp => by rw [<- Hk.out]; exact low_cut hso hp
 have Hhas : Hid (hasN s.attrs nm = match s.attrs[k]? with | some p => decide (p.1 = nm) | none => false) := by show _ = _; unfold hasN; rw [Hk.out]; cases s.attrs[k]? <;> rfl
 have Hset : Hid (setAttrL s.attrs nm v = s.attrs.take k ++ [(nm, v)] ++ s.attrs.drop (if hasN s.attrs nm then k + 1 else k)) := by show _ = _; unfold setAttrL; rw [Hk.out]
 obtain ⟨t, Ht⟩ : ∃ t, Hid (hasN s.attrs nm = t) := ⟨_, rfl⟩
 rw [Ht.out] at Hhas Hset ⊢
 obtain ⟨R, HR⟩ : ∃ R : Dc, Hid ((if t = false /\ 32 <= s.attrs.length then D else { D with S := D.S.set i { s with attrs := setAttrL s.attrs nm v } }) = R) := ⟨_, rfl⟩
 obtain ⟨z, Hz⟩ : ∃ z : Int, Hid ((if t = false /\ 32 <= s.attrs.length then (2 : Int) else 0) = z) := ⟨_, rfl⟩
 rw [HR.out, Hz.out]
 clear hd ha hs hk hso hnm htn
 go_enter Tryz.func43, Tryz.ntmps43
 go_wp2_with fail
 refine hc.mono ?_
 rintro e w1 ⟨rfl, ⟨g, cap, ra, rcap, L, hr⟩, ht⟩
 have HR1 : Hid (RdS w1 w.heap.size Q rb D g cap ra rcap L) := hr
 have HT1 : Hid (Turn (fun b => b = rb) w w1) := ht
 clear hr ht hc
 go_wp2_with fail
 refine (hnw _).mono ?_
 rintro e w2 ⟨rfl, rfl⟩
 clear hnw
 go_wp2_with fail
 refine (htx _).mono ?_
 rintro e w3 ⟨rfl, hb3⟩
 clear htx
 have hr := HR1.out.below hb3
 have ht := HT1.out.then hb3 HT1.out.size
 obtain ⟨p, hp, hvv, hcap, hhd, hcl⟩ := hr.slot HS.out
 obtain ⟨aa, ac, ka, kc, rfl, l1, l2, v1, v2⟩ := hvv
 have hc4 := (hcl 4 _ rfl).1
 have hf4 := (hcl 4 _ rfl).2
 have hgs := hr.gb
 have HR0 : Hid (RdS w3 w.heap.size Q rb D g cap ra rcap L) := hr
 have HT0 : Hid (Turn (fun b => b = rb) w w3) := ht
 have HP : Hid (L[i]? = some (.slice aa s.attrs.length ac, .slice ka s.kids.length kc)) := hp
 have HA : Hid (AttrsR w3 Q aa s.attrs) := v1
 have HQ : Hid (∀ b, Q b -> b < w3.heap.size) := fun b hb => (hr.qne b hb).2
 have hrbs : rb < w3.heap.size := hr.head.lt
 have hgr : ¬ g = rb := by have := hr.rbl; omega
 have hgr2 : ¬ rb = g := by omega
 have hal' : (s.attrs.length : Int) <= 32 := by omega
 have hkl' : (k : Int) <= (s.attrs.length : Int) := by omega
 have hac : (s.attrs.length : Int) <= (ac : Int) := by omega
 clear hr ht hp v1 v2 hcl hb3 HR1 HT1
 have HB0 : Hid (Below w3.heap.size w3 (w3.alloc (.cells #[] 124))) := (Below.refl _ _).alloc (Nat.le_refl _) _
 go_wp2
 go_loopw [13] (fun iv wr => ∃ (j : Nat), j <= k /\ iv = .int .i64 (j : Int) /\ wr = w3.alloc (.cells #[] 124)) (fun iv _ => s.attrs.length - (intOf iv).toNat)
 case atStart => exact ⟨0, by omega, rfl, rfl⟩
 case round =>
  obtain ⟨j, hj, rfl, rfl⟩ := hrel
  by_cases hjk : j < k
  ·have hlt : j < s.attrs.length := by omega
   obtain ⟨q, hq⟩ : ∃ q, s.attrs[j]? = some q := ⟨_, List.getElem?_eq_getElem hlt⟩
   obtain ⟨b, o, rfl, hbQ, d1, d2⟩ := HA.out j q hq
   have hbl := HQ.out b hbQ
   have e1 : (w3.alloc (.cells #[] 124)).cell? ⟨b, o + j * 2, none⟩ = some (.string q.1) := (HB0.out.cell (p := ⟨b, _, none⟩) hbl).trans d1
   have hlt2 : Op.bytesLess q.1.toList nm.toList = true := by rw [less_ltN]; simpa using (Hcut.out j q hq).1 hjk
   have hj1 : (j : Int) < ((s.attrs.length : Nat) : Int) := by omega
   have hj2 : (0 : Int) <= (j : Int) := by omega
   clear hq d1 d2
   go_wp2
   go_roundw
   case rel => exact ⟨j + 1, by omega, by go_num, trivial⟩
   case measure => simp [intOf]; omega
  ·have hje : j = k := by omega
   subst hje
   have HN1 : Hid (∀ W, Below w3.heap.size w3 W -> ∀ m u, (attrCells (s.attrs.take j))[m]? = some u -> ∃ ad, aa = some ad /\ W.cell? (ad.add m) = some u) := fun W hb => ((HA.out.to (fun _ h => h) (fun b o hR => hb.cell (p := ⟨b, o, none⟩) (HQ.out b hR))).takeA j).news
   have hT1 : Hid ((attrCells (s.attrs.take j)).length = j * 2) := by show _ = _; rw [attrCells_length]; simp; omega
   have MA0 : Hid (MkA w3 (w3.alloc (.cells #[] 124)) (.slice (some ⟨w3.heap.size, 0, none⟩) 0 0) 0 []) := MkA.new w3
   have hj2 : (0 : Int) <= (j : Int) := by omega
   have hjac : (j : Int) <= (ac : Int) := by omega
   cases t with
   | true =>
    have hnr : ¬ (true = false /\ 32 <= s.attrs.length) := by simp
    have hR1 := HR.out
    have hz1 := Hz.out
    rw [if_neg hnr] at hR1 hz1
    rw [Hset.out, if_pos rfl] at hR1
    have HR2 : Hid (R = { D with S := D.S.set i { s with attrs := s.attrs.take j ++ [(nm, v)] ++ s.attrs.drop (j + 1) } }) := hR1.symm
    have Hz2 : Hid (z = 0) := hz1.symm
    clear hR1 hz1 hnr
    obtain ⟨q, hq, hqn⟩ : ∃ q, s.attrs[j]? = some q /\ q.1 = nm := by
     have := Hhas.out
     cases hq : s.attrs[j]? with
     | none => rw [hq] at this; cases this
     | some q => rw [hq] at this; exact ⟨q, rfl, by simpa using this.symm⟩
    have hjl : j < s.attrs.length := (List.getElem?_eq_some_iff.1 hq).1
    obtain ⟨b, o, rfl, hbQ, d1, d2⟩ := HA.out j q hq
    have hbl := HQ.out b hbQ
    rw [hqn] at d1
    have e1 : (w3.alloc (.cells #[] 124)).cell? ⟨b, o + j * 2, none⟩ = some (.string nm) := (HB0.out.cell (p := ⟨b, _, none⟩) hbl).trans d1
    have hirr : Op.bytesLess nm.toList nm.toList = false := by rw [less_ltN]; simpa using ltN_irr nm
    have hj1 : (j : Int) < ((s.attrs.length : Nat) : Int) := by omega
    have i3 : (j : Int) + 1 <= ((s.attrs.length : Nat) : Int) := by omega
    have i6 : (j : Int) + 1 <= (ac : Int) := by omega
    have i7 : (0 : Int) <= (j : Int) + 1 := by omega
    have i8 : ¬ (j : Int) + 1 < 0 := by omega
    have i9 : ¬ ((s.attrs.length : Nat) : Int) < (j : Int) + 1 := by omega
    have i10 : ¬ (ac : Int) < ((s.attrs.length : Nat) : Int) := by omega
    have i11 : ((j : Int) + 1).toNat = j + 1 := by omega
    have i12 : (((s.attrs.length : Nat) : Int) - ((j : Int) + 1)).toNat = s.attrs.length - (j + 1) := by omega
    have hwr : IntKind.i64.wrap ((j : Int) + 1) = (j : Int) + 1 := by rw [IntKind.wrap_i64]; omega
    have HN2 : Hid (∀ W, Below w3.heap.size w3 W -> ∀ m u, (attrCells (s.attrs.drop (j + 1)))[m]? = some u -> ∃ ad, sliceAt2 b o ac (j + 1) = some ad /\ W.cell? (ad.add m) = some u) := fun W hb => ((HA.out.to (fun _ h => h) (fun b o hR => hb.cell (p := ⟨b, o, none⟩) (HQ.out b hR))).dropA l1 (j + 1)).news
    have hT2 : Hid ((attrCells (s.attrs.drop (j + 1))).length = (s.attrs.length - (j + 1)) * 2) := by show _ = _; rw [attrCells_length]; simp
    have hsz : s.attrs.length - (j + 1) <= 32 := by omega
    clear hq d1 d2
    go_wp2_with (first
     | (at_builtin; refine wpList_mkA rfl _ _ rfl _ 0 [] MA0.out rfl (some ⟨b, o, none⟩) j ac (attrCells (s.attrs.take j)) rfl hT1.out (HN1.out _ MA0.out.bel) (attrCells_one _) (by omega) ?_; intro x4 w4 m4; rw [Nat.zero_add, List.nil_append] at m4; obtain ⟨xa4, xc4, rfl⟩ := own_slice m4.own; have M4 : Hid (MkA w3 w4 (.slice xa4 j xc4) j (attrCells (s.attrs.take j))) := m4; clear m4 MA0)
     | (at_builtin; refine wpList_mkA rfl _ _ rfl _ j _ (M4.out.alloc _) rfl _ 1 1 [.string nm, .string v] rfl rfl (fun m u hu => ⟨_, rfl, (by rw [addrP, Nat.zero_add, (isCells_new w4 _ _).cell]; simpa using hu)⟩) (by intro u hu; simp at hu; rcases hu with rfl | rfl <;> rfl) (by omega) ?_; intro x5 w5 m5; obtain ⟨xa5, xc5, rfl⟩ := own_slice m5.own; have M5 : Hid (MkA w3 w5 (.slice xa5 (j + 1) xc5) (j + 1) (attrCells (s.attrs.take j) ++ [.string nm, .string v])) := m5; clear m5 M4))
    have hh5 : w5.cell? ⟨rb, 0, none⟩ = some (.slice (some ⟨g, 0, none⟩) D.S.length cap) := (M5.out.bel.cell (p := ⟨rb, 0, none⟩) hrbs).trans hhd
    have M5d : Hid (MkA w3 w5.drew (.slice xa5 (j + 1) xc5) (j + 1) (attrCells (s.attrs.take j) ++ [.string nm, .string v])) := M5.out.drew
    go_region_held3 (fun W => W.cell? ⟨rb, 0, none⟩ = some (.slice (some ⟨g, 0, none⟩) D.S.length cap)) (go_keep)
     (first
      | (refine step_mkA (by rfl) _ _ (by rfl) _ (j + 1) _ M5d.out (by rfl) (sliceAt2 b o ac (j + 1)) (s.attrs.length - (j + 1)) (ac - (j + 1)) (attrCells (s.attrs.drop (j + 1))) (by rfl) hT2.out (HN2.out _ M5d.out.bel) (attrCells_one _) (by omega) ?_; intro x6 w6 m6; obtain ⟨xa6, xc6, rfl⟩ := own_slice m6.own; have M6 : Hid (MkA w3 w6 (.slice xa6 (j + 1 + (s.attrs.length - (j + 1))) xc6) (j + 1 + (s.attrs.length - (j + 1))) (attrCells (s.attrs.take j) ++ [.string nm, .string v] ++ attrCells (s.attrs.drop (j + 1)))) := m6; have hh6 : w6.cell? ⟨rb, 0, none⟩ = some (.slice (some ⟨g, 0, none⟩) D.S.length cap) := (M6.out.bel.cell (p := ⟨rb, 0, none⟩) hrbs).trans hhd; have hc6 : w6.cell? ⟨g, i * 8 + 4, none⟩ = some (.slice (some ⟨b, o, none⟩) s.attrs.length ac) := (M6.out.bel.cell (p := ⟨g, _, none⟩) hgs.2).trans hc4; have hf6 : w6.frozen? ⟨g, i * 8 + 4, none⟩ = false := (M6.out.bel.frozen (p := ⟨g, _, none⟩) hgs.2).trans hf4; have hg6 : g < w6.heap.size := Nat.lt_of_lt_of_le hgs.2 M6.out.bel.size; clear m6 M5d))
    have HFin : Hid (RPost w Q rb { D with S := D.S.set i { s with attrs := s.attrs.take j ++ [(nm, v)] ++ s.attrs.drop (j + 1) } } 0 (.returned (.int .i64 0)) (w6.setCell ⟨g, i * 8 + 4, none⟩ (.slice xa6 (j + 1 + (s.attrs.length - (j + 1))) xc6))) := by
     refine attrs_new HR0.out HT0.out HS.out HP.out ?_
     rw [attrCells_app, attrCells_app]
     exact M6.out
    go_wp2
    go_ret
    rw [HR2.out, Hz2.out]
    exact HFin.out
   | false =>
    by_cases h32 : 32 <= s.attrs.length
    ·have hR1 := HR.out
     have hz1 := Hz.out
     rw [if_pos ⟨rfl, h32⟩] at hR1 hz1
     have HR2 : Hid (R = D) := hR1.symm
     have Hz2 : Hid (z = 2) := hz1.symm
     have h32' : (32 : Int) <= (s.attrs.length : Int) := by omega
     have HX : Hid (RPost w Q rb D 2 (.returned (.int .i64 2)) (w3.alloc (.cells #[] 124))) := rds_post (HR0.out.below HB0.out) (HT0.out.then HB0.out HT0.out.size)
     clear hR1 hz1
     by_cases hjl : j < s.attrs.length
     ·obtain ⟨q, hq⟩ : ∃ q, s.attrs[j]? = some q := ⟨_, List.getElem?_eq_getElem hjl⟩
      obtain ⟨b, o, rfl, hbQ, d1, d2⟩ := HA.out j q hq
      have hbl := HQ.out b hbQ
      have e1 : (w3.alloc (.cells #[] 124)).cell? ⟨b, o + j * 2, none⟩ = some (.string q.1) := (HB0.out.cell (p := ⟨b, _, none⟩) hbl).trans d1
      have hirr : Op.bytesLess q.1.toList nm.toList = false := by
       rw [less_ltN]
       simpa using fun h => absurd ((Hcut.out j q hq).2 h) (by omega)
      have hne : (q.1.toList == nm.toList) = false := str_ne (fun e => by have := Hhas.out; rw [hq] at this; simp [e] at this)
      have hj1 : (j : Int) < ((s.attrs.length : Nat) : Int) := by omega
      clear hq d1 d2
      go_wp2
      go_ret
      rw [HR2.out, Hz2.out]
      exact HX.out
     ·have hje2 : ¬ ((j : Int) < ((s.attrs.length : Nat) : Int)) := by omega
      go_wp2
      go_ret
      rw [HR2.out, Hz2.out]
      exact HX.out
    ·have hR1 := HR.out
     have hz1 := Hz.out
     have hnr : ¬ (false = false /\ 32 <= s.attrs.length) := fun h => h32 h.2
     rw [if_neg hnr] at hR1 hz1
     rw [Hset.out, if_neg (by decide)] at hR1
     have HR2 : Hid (R = { D with S := D.S.set i { s with attrs := s.attrs.take j ++ [(nm, v)] ++ s.attrs.drop j } }) := hR1.symm
     have Hz2 : Hid (z = 0) := hz1.symm
     have h32' : (s.attrs.length : Int) < 32 := by omega
     have hT2 : Hid ((attrCells (s.attrs.drop j)).length = (s.attrs.length - j) * 2) := by show _ = _; rw [attrCells_length]; simp
     have hsz : s.attrs.length - j <= 32 := by omega
     have hjn : (j : Int) <= ((s.attrs.length : Nat) : Int) := by omega
     have i12 : (((s.attrs.length : Nat) : Int) - (j : Int)).toNat = s.attrs.length - j := by omega
     clear hR1 hz1 hnr
     cases aa with
     | none =>
      have hl0 : s.attrs.length = 0 := by
       by_cases e : s.attrs.length = 0
       ·exact e
       ·obtain ⟨b, o, e2, _⟩ := HA.out 0 _ (List.getElem?_eq_getElem (by omega))
        cases e2
      have HN2 : Hid (∀ W, Below w3.heap.size w3 W -> ∀ m u, (attrCells (s.attrs.drop j))[m]? = some u -> ∃ ad, (none : Option Addr) = some ad /\ W.cell? (ad.add m) = some u) := fun W hb m u hu => by
       rw [List.drop_of_length_le (by omega)] at hu
       simp [attrCells] at hu
      have hje2 : ¬ ((j : Int) < ((s.attrs.length : Nat) : Int)) := by omega
      clear hl0
      go_wp2_with (first
       | (at_builtin; refine wpList_mkA rfl _ _ rfl _ 0 [] MA0.out rfl none j ac (attrCells (s.attrs.take j)) rfl hT1.out (HN1.out _ MA0.out.bel) (attrCells_one _) (by omega) ?_; intro x4 w4 m4; rw [Nat.zero_add, List.nil_append] at m4; obtain ⟨xa4, xc4, rfl⟩ := own_slice m4.own; have M4 : Hid (MkA w3 w4 (.slice xa4 j xc4) j (attrCells (s.attrs.take j))) := m4; clear m4 MA0)
       | (at_builtin; refine wpList_mkA rfl _ _ rfl _ j _ (M4.out.alloc _) rfl _ 1 1 [.string nm, .string v] rfl rfl (fun m u hu => ⟨_, rfl, (by rw [addrP, Nat.zero_add, (isCells_new w4 _ _).cell]; simpa using hu)⟩) (by intro u hu; simp at hu; rcases hu with rfl | rfl <;> rfl) (by omega) ?_; intro x5 w5 m5; obtain ⟨xa5, xc5, rfl⟩ := own_slice m5.own; have M5 : Hid (MkA w3 w5 (.slice xa5 (j + 1) xc5) (j + 1) (attrCells (s.attrs.take j) ++ [.string nm, .string v])) := m5; clear m5 M4))
      have hh5 : w5.cell? ⟨rb, 0, none⟩ = some (.slice (some ⟨g, 0, none⟩) D.S.length cap) := (M5.out.bel.cell (p := ⟨rb, 0, none⟩) hrbs).trans hhd
      have M5d : Hid (MkA w3 w5.drew (.slice xa5 (j + 1) xc5) (j + 1) (attrCells (s.attrs.take j) ++ [.string nm, .string v])) := M5.out.drew
      go_region_held3 (fun W => W.cell? ⟨rb, 0, none⟩ = some (.slice (some ⟨g, 0, none⟩) D.S.length cap)) (go_keep)
       (first
        | (refine step_mkA (by rfl) _ _ (by rfl) _ (j + 1) _ M5d.out (by rfl) none (s.attrs.length - j) (ac - j) (attrCells (s.attrs.drop j)) (by rfl) hT2.out (HN2.out _ M5d.out.bel) (attrCells_one _) (by omega) ?_; intro x6 w6 m6; obtain ⟨xa6, xc6, rfl⟩ := own_slice m6.own; have M6 : Hid (MkA w3 w6 (.slice xa6 (j + 1 + (s.attrs.length - j)) xc6) (j + 1 + (s.attrs.length - j)) (attrCells (s.attrs.take j) ++ [.string nm, .string v] ++ attrCells (s.attrs.drop j))) := m6; have hh6 : w6.cell? ⟨rb, 0, none⟩ = some (.slice (some ⟨g, 0, none⟩) D.S.length cap) := (M6.out.bel.cell (p := ⟨rb, 0, none⟩) hrbs).trans hhd; have hc6 : w6.cell? ⟨g, i * 8 + 4, none⟩ = some (.slice none s.attrs.length ac) := (M6.out.bel.cell (p := ⟨g, _, none⟩) hgs.2).trans hc4; have hf6 : w6.frozen? ⟨g, i * 8 + 4, none⟩ = false := (M6.out.bel.frozen (p := ⟨g, _, none⟩) hgs.2).trans hf4; have hg6 : g < w6.heap.size := Nat.lt_of_lt_of_le hgs.2 M6.out.bel.size; clear m6 M5d))
      have HFin : Hid (RPost w Q rb { D with S := D.S.set i { s with attrs := s.attrs.take j ++ [(nm, v)] ++ s.attrs.drop j } } 0 (.returned (.int .i64 0)) (w6.setCell ⟨g, i * 8 + 4, none⟩ (.slice xa6 (j + 1 + (s.attrs.length - j)) xc6))) := by
       refine attrs_new HR0.out HT0.out HS.out HP.out ?_
       rw [attrCells_app, attrCells_app]
       exact M6.out
      go_wp2
      go_ret
      rw [HR2.out, Hz2.out]
      exact HFin.out
     | some ad =>
      obtain ⟨b, o, sp⟩ := ad
      by_cases hjl : j < s.attrs.length
      ·obtain ⟨q, hq⟩ : ∃ q, s.attrs[j]? = some q := ⟨_, List.getElem?_eq_getElem hjl⟩
       obtain ⟨b', o', e', hbQ, d1, d2⟩ := HA.out j q hq
       cases e'
       have hbl := HQ.out b hbQ
       have e1 : (w3.alloc (.cells #[] 124)).cell? ⟨b, o + j * 2, none⟩ = some (.string q.1) := (HB0.out.cell (p := ⟨b, _, none⟩) hbl).trans d1
       have hirr : Op.bytesLess q.1.toList nm.toList = false := by
        rw [less_ltN]
        simpa using fun h => absurd ((Hcut.out j q hq).2 h) (by omega)
       have hne : (q.1.toList == nm.toList) = false := str_ne (fun e => by have := Hhas.out; rw [hq] at this; simp [e] at this)
       have hj1 : (j : Int) < ((s.attrs.length : Nat) : Int) := by omega
       have HN2 : Hid (∀ W, Below w3.heap.size w3 W -> ∀ m u, (attrCells (s.attrs.drop j))[m]? = some u -> ∃ ad, sliceAt2 b o ac j = some ad /\ W.cell? (ad.add m) = some u) := fun W hb => ((HA.out.to (fun _ h => h) (fun b o hR => hb.cell (p := ⟨b, o, none⟩) (HQ.out b hR))).dropA l1 j).news
       clear hq d1 d2
       go_wp2_with (first
        | (at_builtin; refine wpList_mkA rfl _ _ rfl _ 0 [] MA0.out rfl (some ⟨b, o, none⟩) j ac (attrCells (s.attrs.take j)) rfl hT1.out (HN1.out _ MA0.out.bel) (attrCells_one _) (by omega) ?_; intro x4 w4 m4; rw [Nat.zero_add, List.nil_append] at m4; obtain ⟨xa4, xc4, rfl⟩ := own_slice m4.own; have M4 : Hid (MkA w3 w4 (.slice xa4 j xc4) j (attrCells (s.attrs.take j))) := m4; clear m4 MA0)
        | (at_builtin; refine wpList_mkA rfl _ _ rfl _ j _ (M4.out.alloc _) rfl _ 1 1 [.string nm, .string v] rfl rfl (fun m u hu => ⟨_, rfl, (by rw [addrP, Nat.zero_add, (isCells_new w4 _ _).cell]; simpa using hu)⟩) (by intro u hu; simp at hu; rcases hu with rfl | rfl <;> rfl) (by omega) ?_; intro x5 w5 m5; obtain ⟨xa5, xc5, rfl⟩ := own_slice m5.own; have M5 : Hid (MkA w3 w5 (.slice xa5 (j + 1) xc5) (j + 1) (attrCells (s.attrs.take j) ++ [.string nm, .string v])) := m5; clear m5 M4))
       have hh5 : w5.cell? ⟨rb, 0, none⟩ = some (.slice (some ⟨g, 0, none⟩) D.S.length cap) := (M5.out.bel.cell (p := ⟨rb, 0, none⟩) hrbs).trans hhd
       have M5d : Hid (MkA w3 w5.drew (.slice xa5 (j + 1) xc5) (j + 1) (attrCells (s.attrs.take j) ++ [.string nm, .string v])) := M5.out.drew
       go_region_held3 (fun W => W.cell? ⟨rb, 0, none⟩ = some (.slice (some ⟨g, 0, none⟩) D.S.length cap)) (go_keep)
        (first
         | (refine step_mkA (by rfl) _ _ (by rfl) _ (j + 1) _ M5d.out (by rfl) (sliceAt2 b o ac j) (s.attrs.length - j) (ac - j) (attrCells (s.attrs.drop j)) (by rfl) hT2.out (HN2.out _ M5d.out.bel) (attrCells_one _) (by omega) ?_; intro x6 w6 m6; obtain ⟨xa6, xc6, rfl⟩ := own_slice m6.own; have M6 : Hid (MkA w3 w6 (.slice xa6 (j + 1 + (s.attrs.length - j)) xc6) (j + 1 + (s.attrs.length - j)) (attrCells (s.attrs.take j) ++ [.string nm, .string v] ++ attrCells (s.attrs.drop j))) := m6; have hh6 : w6.cell? ⟨rb, 0, none⟩ = some (.slice (some ⟨g, 0, none⟩) D.S.length cap) := (M6.out.bel.cell (p := ⟨rb, 0, none⟩) hrbs).trans hhd; have hc6 : w6.cell? ⟨g, i * 8 + 4, none⟩ = some (.slice (some ⟨b, o, none⟩) s.attrs.length ac) := (M6.out.bel.cell (p := ⟨g, _, none⟩) hgs.2).trans hc4; have hf6 : w6.frozen? ⟨g, i * 8 + 4, none⟩ = false := (M6.out.bel.frozen (p := ⟨g, _, none⟩) hgs.2).trans hf4; have hg6 : g < w6.heap.size := Nat.lt_of_lt_of_le hgs.2 M6.out.bel.size; clear m6 M5d))
       have HFin : Hid (RPost w Q rb { D with S := D.S.set i { s with attrs := s.attrs.take j ++ [(nm, v)] ++ s.attrs.drop j } } 0 (.returned (.int .i64 0)) (w6.setCell ⟨g, i * 8 + 4, none⟩ (.slice xa6 (j + 1 + (s.attrs.length - j)) xc6))) := by
        refine attrs_new HR0.out HT0.out HS.out HP.out ?_
        rw [attrCells_app, attrCells_app]
        exact M6.out
       go_wp2
       go_ret
       rw [HR2.out, Hz2.out]
       exact HFin.out
      ·have HN2 : Hid (∀ (a : Option Addr) (W : World) m u, (attrCells (s.attrs.drop j))[m]? = some u -> ∃ ad, a = some ad /\ W.cell? (ad.add m) = some u) := fun a W m u hu => by
        rw [List.drop_of_length_le (by omega)] at hu
        simp [attrCells] at hu
       have hje2 : ¬ ((j : Int) < ((s.attrs.length : Nat) : Int)) := by omega
       go_wp2_with (first
        | (at_builtin; refine wpList_mkA rfl _ _ rfl _ 0 [] MA0.out rfl (some ⟨b, o, sp⟩) j ac (attrCells (s.attrs.take j)) rfl hT1.out (HN1.out _ MA0.out.bel) (attrCells_one _) (by omega) ?_; intro x4 w4 m4; rw [Nat.zero_add, List.nil_append] at m4; obtain ⟨xa4, xc4, rfl⟩ := own_slice m4.own; have M4 : Hid (MkA w3 w4 (.slice xa4 j xc4) j (attrCells (s.attrs.take j))) := m4; clear m4 MA0)
        | (at_builtin; refine wpList_mkA rfl _ _ rfl _ j _ (M4.out.alloc _) rfl _ 1 1 [.string nm, .string v] rfl rfl (fun m u hu => ⟨_, rfl, (by rw [addrP, Nat.zero_add, (isCells_new w4 _ _).cell]; simpa using hu)⟩) (by intro u hu; simp at hu; rcases hu with rfl | rfl <;> rfl) (by omega) ?_; intro x5 w5 m5; obtain ⟨xa5, xc5, rfl⟩ := own_slice m5.own; have M5 : Hid (MkA w3 w5 (.slice xa5 (j + 1) xc5) (j + 1) (attrCells (s.attrs.take j) ++ [.string nm, .string v])) := m5; clear m5 M4))
       have hh5 : w5.cell? ⟨rb, 0, none⟩ = some (.slice (some ⟨g, 0, none⟩) D.S.length cap) := (M5.out.bel.cell (p := ⟨rb, 0, none⟩) hrbs).trans hhd
       have M5d : Hid (MkA w3 w5.drew (.slice xa5 (j + 1) xc5) (j + 1) (attrCells (s.attrs.take j) ++ [.string nm, .string v])) := M5.out.drew
       go_region_held3 (fun W => W.cell? ⟨rb, 0, none⟩ = some (.slice (some ⟨g, 0, none⟩) D.S.length cap)) (go_keep)
        (first
         | (refine step_mkA (by rfl) _ _ (by rfl) _ (j + 1) _ M5d.out (by rfl) _ (s.attrs.length - j) (ac - j) (attrCells (s.attrs.drop j)) (by rfl) hT2.out (HN2.out _ _) (attrCells_one _) (by omega) ?_; intro x6 w6 m6; obtain ⟨xa6, xc6, rfl⟩ := own_slice m6.own; have M6 : Hid (MkA w3 w6 (.slice xa6 (j + 1 + (s.attrs.length - j)) xc6) (j + 1 + (s.attrs.length - j)) (attrCells (s.attrs.take j) ++ [.string nm, .string v] ++ attrCells (s.attrs.drop j))) := m6; have hh6 : w6.cell? ⟨rb, 0, none⟩ = some (.slice (some ⟨g, 0, none⟩) D.S.length cap) := (M6.out.bel.cell (p := ⟨rb, 0, none⟩) hrbs).trans hhd; have hc6 : w6.cell? ⟨g, i * 8 + 4, none⟩ = some (.slice (some ⟨b, o, sp⟩) s.attrs.length ac) := (M6.out.bel.cell (p := ⟨g, _, none⟩) hgs.2).trans hc4; have hf6 : w6.frozen? ⟨g, i * 8 + 4, none⟩ = false := (M6.out.bel.frozen (p := ⟨g, _, none⟩) hgs.2).trans hf4; have hg6 : g < w6.heap.size := Nat.lt_of_lt_of_le hgs.2 M6.out.bel.size; clear m6 M5d))
       have HFin : Hid (RPost w Q rb { D with S := D.S.set i { s with attrs := s.attrs.take j ++ [(nm, v)] ++ s.attrs.drop j } } 0 (.returned (.int .i64 0)) (w6.setCell ⟨g, i * 8 + 4, none⟩ (.slice xa6 (j + 1 + (s.attrs.length - j)) xc6))) := by
        refine attrs_new HR0.out HT0.out HS.out HP.out ?_
        rw [attrCells_app, attrCells_app]
        exact M6.out
       go_wp2
       all_goals
        go_ret
        rw [HR2.out, Hz2.out]
        exact HFin.out
theorem rsetA_any (w : World) (Q : Nat -> Prop) (rb : Nat) (D : Dc) (h : Nat) (nm v : ByteArray) (hd : RDoc w Q rb D) (hw : WF D) (hh : h < 18446744073709551616) :
  Calls Tryz.prog 43 #[.pointer (some ⟨rb, 0, none⟩), .int .u64 (h : Int), .string nm, .string v] w (RPost w Q rb (setAttrD D h nm v).1 (setAttrD D h nm v).2) := by
 have hf := hw.fits
 cases ha : atI D.S h with
 | none =>
  have e1 : setAttrD D h nm v = (D, 8) := by simp only [setAttrD, ha]
  rw [e1]
  have hc := change_none w Q rb D h 1 hd hf hh ha
  have HD := hid hd
  clear hd ha e1 hw
  go_enter Tryz.func43, Tryz.ntmps43
  go_wp2_with fail
  refine hc.mono ?_
  rintro e w1 ⟨rfl, rfl⟩
  go_wp2
  go_ret
  exact rpost_same HD.out (Below.refl _ _)
 | some i =>
  obtain ⟨s, hsl, hs⟩ := sl_of_at ha
  by_cases hk : s.kind = 1
  ·obtain ⟨hso, hl32⟩ := hw.sort ha hs hk
   by_cases hok : nameL nm.data.toList = true /\ (tans v.data.toList).2 = 0
   ·have hm := rsetA_ok w Q rb D h nm v i s hd hf hh ha hs hk hso hl32 hok.1 hok.2
    have e1 : setAttrD D h nm v = (if hasN s.attrs nm = false /\ 32 <= s.attrs.length then D else { D with S := D.S.set i { s with attrs := setAttrL s.attrs nm v } }, if hasN s.attrs nm = false /\ 32 <= s.attrs.length then 2 else 0) := by
     simp only [setAttrD, ha, hs, hk, hok.1, hok.2, if_true]
     split <;> rfl
    rw [e1]
    exact hm
   ·have hc := change_some w Q rb D h i s hd hf hh ha hs
    rw [hk] at hc
    have hnw := fun W => rname_any W nm
    have htx := fun W => rtext_any W v
    cases hnm : nameL nm.data.toList with
    | false =>
     have e1 : setAttrD D h nm v = (D, 6) := by simp [setAttrD, ha, hs, hk, hnm]
     rw [e1]
     rw [hnm] at hnw
     clear hd ha e1 hs hk hnm hok hso hsl htx hw
     go_enter Tryz.func43, Tryz.ntmps43
     go_wp2_with fail
     refine hc.mono ?_
     rintro e w1 ⟨rfl, ⟨g, cap, ra, rcap, L, hr⟩, ht⟩
     have HR := hid hr
     have HT := hid ht
     clear hr ht hc
     go_wp2_with fail
     refine (hnw _).mono ?_
     rintro e w2 ⟨rfl, rfl⟩
     go_wp2
     go_ret
     exact rds_post HR.out HT.out
    | true =>
     have htn : (tans v.data.toList).2 ≠ 0 := fun e => hok ⟨hnm, e⟩
     have e1 : setAttrD D h nm v = (D, (tans v.data.toList).2) := by simp [setAttrD, ha, hs, hk, hnm, htn]
     rw [e1]
     rw [hnm] at hnw
     have hbn : ((tans v.data.toList).2 == 0) = false := beq_eq_false_iff_ne.2 htn
     generalize (tans v.data.toList).1 = y1 at *
     generalize (tans v.data.toList).2 = y2 at *
     clear hd ha e1 hs hk hnm hok hso hsl hw
     go_enter Tryz.func43, Tryz.ntmps43
     go_wp2_with fail
     refine hc.mono ?_
     rintro e w1 ⟨rfl, ⟨g, cap, ra, rcap, L, hr⟩, ht⟩
     have HR := hid hr
     have HT := hid ht
     clear hr ht hc
     go_wp2_with fail
     refine (hnw _).mono ?_
     rintro e w2 ⟨rfl, rfl⟩
     clear hnw
     go_wp2_with fail
     refine (htx _).mono ?_
     rintro e w3 ⟨rfl, hb3⟩
     have HX : Hid (RPost w Q rb D y2 (.returned (.int .i64 y2)) w3) := rds_post (HR.out.below hb3) (HT.out.then hb3 HT.out.size)
     clear htx hb3
     go_wp2
     go_ret
     exact HX.out
  ·have e1 : setAttrD D h nm v = (D, 30) := by simp only [setAttrD, ha, hs, if_neg hk]
   rw [e1]
   have hc := change_kind w Q rb D h i s 1 hd hf hh ha hs hk
   have HD := hid hd
   clear hd ha e1 hs hk hsl hw
   go_enter Tryz.func43, Tryz.ntmps43
   go_wp2_with fail
   refine hc.mono ?_
   rintro e w1 ⟨rfl, rfl⟩
   go_wp2
   go_ret
   exact rpost_same HD.out (Below.refl _ _)
end Go.Proofs.YtjkgjckkglfokaaGreat.Gr
