/- Axis, goes and quiet. -/
import Derived.Test.YtjkgjckkglfokaaGreatS01
import Derived.Test.YtjkgjckkglfokaaGreatS26
import Derived.Test.YtjkgjckkglfokaaGreatS12
import Derived.Test.YtjkgjckkglfokaaGreatS05
import Derived.Recover
import Derived.Test.YtjkgjckkglfokaaGreatS25
namespace Go.Proofs.YtjkgjckkglfokaaGreat
open Go.RowKit Go.Shelf
open Gr (Dc Sl View WF sl par hvals allR idxH)
set_option linter.unusedVariables false
set_option linter.unusedSimpArgs false
set_option maxRecDepth 100000
set_option maxHeartbeats 2000000
attribute [local go_sem] Oper.semAt_some
theorem quiet_any (w : World) (x : Int) : Calls Tryz.prog 12 #[.int .i64 x] w fun e w' => e = .returned (.bool true) /\ w' = w := by
 go_enter Tryz.func12, Tryz.ntmps12
 go_wp2
 go_ret
 exact ⟨rfl, rfl⟩
theorem mk_axis (w : World) (R : Nat -> Prop) (db : Nat) (D : Dc) (h k : Nat) (s : Sl) (k1 : 1 <= k) (k2 : k <= 11) (hv : View w R db D) (hw : WF D) (hs : sl D h = some s) :
  Calls Tryz.prog 8 #[.pointer (some ⟨db, 0, none⟩), .int .i64 (k : Int), .int .u64 (h : Int)] w fun e w' => e = .returned (.tuple #[.func (.func 25) #[] #[.pointer (some ⟨w.heap.size, 0, none⟩), .pointer (some ⟨w.heap.size + 2, 0, none⟩), .pointer (some ⟨w.heap.size + 1, 0, none⟩)], .int .i64 0]) /\ Tn (fun _ => False) w w' /\ IsC w' w.heap.size #[.pointer (some ⟨db, 0, none⟩)] /\ IsC w' (w.heap.size + 1) #[.int .i64 (k : Int)] /\ IsC w' (w.heap.size + 2) #[.int .u64 (h : Int)] := by
 have k3 : ¬ (k : Int) < 1 := by omega
 have k4 : ¬ 11 < (k : Int) := by omega
 have hmf : ∀ (fn : Fn) (first cap : Array Value) (w : World), (Instr.makeFunc fn first cap).run Tryz.prog w = .ok (.func fn first cap) w := fun _ _ _ _ => rfl
 obtain ⟨W3, hW3⟩ : ∃ W3, ((w.alloc (.cells #[.pointer (some ⟨db, 0, none⟩)] 34)).alloc (.cells #[.int .i64 (k : Int)] 3)).alloc (.cells #[.int .u64 (h : Int)] 27) = W3 := ⟨_, rfl⟩
 have n := fun (w : World) (o : Obj) => (Tn.refl (fun _ => False) w).alloc o
 have t3 : Tn (fun _ => False) w W3 := by rw [<- hW3]; exact ((n _ _).alloc _).alloc _
 have y0 : IsC W3 w.heap.size #[.pointer (some ⟨db, 0, none⟩)] := by rw [<- hW3]; exact ((isC_new _ _ _).tn (n _ _) id).tn (n _ _) id
 have y1 : IsC W3 (w.heap.size + 1) #[.int .i64 (k : Int)] := by
  have := (isC_new (w.alloc (.cells #[.pointer (some ⟨db, 0, none⟩)] 34)) #[.int .i64 (k : Int)] 3).tn (n _ (.cells #[.int .u64 (h : Int)] 27)) id
  rw [hW3] at this
  simpa using this
 have y2 : IsC W3 (w.heap.size + 2) #[.int .u64 (h : Int)] := by
  have := isC_new ((w.alloc (.cells #[.pointer (some ⟨db, 0, none⟩)] 34)).alloc (.cells #[.int .i64 (k : Int)] 3)) #[.int .u64 (h : Int)] 27
  rw [hW3] at this
  simpa using this
 have hin := isnode_live W3 R db D h s (hv.turn t3.gr (fun _ _ h => h)) hw hs
 have HY : Hid (Tn (fun _ => False) w W3 /\ IsC W3 w.heap.size #[.pointer (some ⟨db, 0, none⟩)] /\ IsC W3 (w.heap.size + 1) #[.int .i64 (k : Int)] /\ IsC W3 (w.heap.size + 2) #[.int .u64 (h : Int)]) := ⟨t3, y0, y1, y2⟩
 have HW3 := hid hW3
 clear hW3 t3 y0 y1 y2 hv hw hs n
 go_enter Tryz.func8, Tryz.ntmps8
 go_wp2_with fail
 rw [HW3.out]
 refine hin.mono ?_
 rintro e w1 ⟨rfl, hb1⟩
 have t1 : Tn (fun _ => False) W3 w1 := Tn.of_below hb1 (Nat.le_refl _)
 have HG : Hid (Tn (fun _ => False) w w1 /\ IsC w1 w.heap.size #[.pointer (some ⟨db, 0, none⟩)] /\ IsC w1 (w.heap.size + 1) #[.int .i64 (k : Int)] /\ IsC w1 (w.heap.size + 2) #[.int .u64 (h : Int)]) := ⟨HY.out.1.trans t1 (fun _ _ h => h), HY.out.2.1.tn t1 id, HY.out.2.2.1.tn t1 id, HY.out.2.2.2.tn t1 id⟩
 clear hb1 t1 hin
 go_wp2
 go_ret2
 exact ⟨rfl, HG.out⟩
theorem goe_end {gf : Nat} {lb : Array Value} {xs : List Nat} {R T : Nat -> Prop} {Sq : World -> Prop} (hs : IsSeq Tryz.prog gf lb encH xs R T Sq) {W W0 X : World} (hq : Sq W) (t0 : Tn (fun _ => False) W W0) {N r : Nat} (hN : W.heap.size <= N) (tX : Tn (fun b => T b \/ (N <= b /\ b <= r)) W0 X) (hqX : Sq X) {rb : Nat} (q3 : IsC X rb #[.bool false]) (hr : W.heap.size <= rb /\ rb < W0.heap.size) :
  Tn T W ((X.setCell ⟨rb, 0, none⟩ (.bool true)).putObj W0.heap.size (.deferred none)) /\ Sq ((X.setCell ⟨rb, 0, none⟩ (.bool true)).putObj W0.heap.size (.deferred none)) /\ IsC ((X.setCell ⟨rb, 0, none⟩ (.bool true)).putObj W0.heap.size (.deferred none)) rb #[.bool true] := by
 have hz := t0.size
 have t1 : Tn (fun b => b = rb) X (X.setCell ⟨rb, 0, none⟩ (.bool true)) := (Tn.refl (fun b => b = rb) X).set (p := ⟨rb, 0, none⟩) (.inl rfl) _
 have t2 := Tn.put (X.setCell ⟨rb, 0, none⟩ (.bool true)) W0.heap.size (.deferred none)
 have hRl : ∀ b, R b -> b < W.heap.size := hs.lt _ hq
 refine ⟨?_, hs.stab _ _ _ (hs.stab _ _ _ hqX t1 (fun b hb (e : b = rb) => by have := hRl b hb; omega)) t2 (fun b hb (e : b = W0.heap.size) => by have := hRl b hb; omega), ?_⟩
 ·refine (((t0.mono (B := T) (fun _ _ h => h.elim)).trans tX (fun i hi h => h.elim id (fun h => by omega))).trans t1 (fun i hi (e : i = rb) => by omega)).trans t2 (fun i hi (e : i = W0.heap.size) => by omega)
 ·obtain ⟨t, ht⟩ := q3
  refine ⟨t, ?_⟩
  refine (World.putObj_heap_other (by omega)).trans ?_
  simp [World.setCell, Array.getElem?_modify, ht]
theorem goes_any {gf : Nat} {lb : Array Value} {xs : List Nat} {R T : Nat -> Prop} {Sq : World -> Prop} (hs : IsSeq Tryz.prog gf lb encH xs R T Sq) (eg : ∀ args w, (callFunc gf args).run Tryz.prog w = .ok (.enter gf args) w)
  (W : World) (hq : Sq W) (a : Option Addr) (cap g : Nat) (hK : HdsAt W g a xs) (hKT : xs ≠ [] -> ¬ T g) (hl : xs.length < 4611686018427387904) :
  CallsIn Fence.wide 0 Tryz.prog 11 #[.func (.func gf) #[] lb, .slice a xs.length cap, .int .i64 (-1), .func (.func 12) #[] #[]] W fun e Y => e = .returned (.bool true) /\ Tn T W Y /\ Sq Y := by
 obtain ⟨W0, hW0⟩ : ∃ W0, ((((((W.alloc (.cells #[.slice a xs.length cap] 23)).alloc (.cells #[.int .i64 (-1)] 3)).alloc (.cells #[.func (.func 12) #[] #[]] 47)).alloc (.cells #[.bool false] 4)).alloc (.cells #[.int .i64 0] 3)).alloc (.cells #[.bool true] 4)) = W0 := ⟨_, rfl⟩
 have HW0 := hid hW0
 clear hW0
 have hq1 : ∀ w, (binOp .eql 40 (.func (.func gf) #[] lb) .nilFunc).run Tryz.prog w = .ok (.bool false) w := fun _ => by kernel_rfl
 have HSQ := hid hq
 have HS := hid hs
 have HK : Hid (HdsAt W g a xs /\ (xs ≠ [] -> ¬ T g)) := ⟨hK, hKT⟩
 have hxs : (xs.length : Int) < 4611686018427387904 := by omega
 have e63 := enters_of Tryz.func12 (by kernel_rfl) rfl
 clear hq hs hK hKT
 refine callsIn_of_wp_marks Tryz.func11 rfl trivial ?_ rfl
 simp only [Tryz.ntmps11, List.size_toArray, List.length_cons, List.length_nil, Nat.reduceAdd, Nat.reduceSub, Array.replicate_succ, Array.replicate_zero, List.push_toArray, List.append_toArray, List.nil_append, List.cons_append]
 gi_wp2_with fail
 rw [HW0.out]
 have hb0 : Below W.heap.size W W0 := by rw [<- HW0.out]; exact ((((((Below.refl _ _).alloc (Nat.le_refl _) _).alloc (by simp) _).alloc (by simp; omega) _).alloc (by simp; omega) _).alloc (by simp; omega) _).alloc (by simp; omega) _
 have t0 : Tn (fun _ => False) W W0 := Tn.of_below hb0 (Nat.le_refl _)
 have hy0 : IsC W0 W.heap.size #[.slice a xs.length cap] /\ IsC W0 (W.heap.size + 1) #[.int .i64 (-1)] /\ IsC W0 (W.heap.size + 2) #[.func (.func 12) #[] #[]] /\ IsC W0 (W.heap.size + 3) #[.bool false] /\ IsC W0 (W.heap.size + 4) #[.int .i64 0] /\ IsC W0 (W.heap.size + 5) #[.bool true] := by
  have h1 := isC_new W #[.slice a xs.length cap] 23
  have h2 := isC_new (W.alloc (.cells #[.slice a xs.length cap] 23)) #[.int .i64 (-1)] 3
  have h3 := isC_new ((W.alloc (.cells #[.slice a xs.length cap] 23)).alloc (.cells #[.int .i64 (-1)] 3)) #[.func (.func 12) #[] #[]] 47
  have h4 := isC_new (((W.alloc (.cells #[.slice a xs.length cap] 23)).alloc (.cells #[.int .i64 (-1)] 3)).alloc (.cells #[.func (.func 12) #[] #[]] 47)) #[.bool false] 4
  have h5 := isC_new ((((W.alloc (.cells #[.slice a xs.length cap] 23)).alloc (.cells #[.int .i64 (-1)] 3)).alloc (.cells #[.func (.func 12) #[] #[]] 47)).alloc (.cells #[.bool false] 4)) #[.int .i64 0] 3
  have h6 := isC_new (((((W.alloc (.cells #[.slice a xs.length cap] 23)).alloc (.cells #[.int .i64 (-1)] 3)).alloc (.cells #[.func (.func 12) #[] #[]] 47)).alloc (.cells #[.bool false] 4)).alloc (.cells #[.int .i64 0] 3)) #[.bool true] 4
  rw [<- HW0.out]
  have n := fun (w : World) (o : Obj) => (Tn.refl (fun _ => False) w).alloc o
  refine ⟨((((h1.tn (n _ _) id).tn (n _ _) id).tn (n _ _) id).tn (n _ _) id).tn (n _ _) id, ?_, ?_, ?_, ?_, ?_⟩
  ·simpa using (((h2.tn (n _ _) id).tn (n _ _) id).tn (n _ _) id).tn (n _ _) id
  ·simpa using ((h3.tn (n _ _) id).tn (n _ _) id).tn (n _ _) id
  ·simpa using (h4.tn (n _ _) id).tn (n _ _) id
  ·simpa using h5.tn (n _ _) id
  ·simpa using h6
 have hs0 : W.heap.size + 5 < W0.heap.size := hy0.2.2.2.2.2.lt
 have hRl : ∀ b, R b -> b < W.heap.size := HS.out.lt _ HSQ.out
 have hgl : xs ≠ [] -> g < W.heap.size := HK.out.1.lt
 obtain ⟨I, hI⟩ : ∃ I : Inv Nat, I = fun s C X => C = (fun b => W.heap.size <= b /\ b <= W.heap.size + 5) /\ IsC X W.heap.size #[.slice a xs.length cap] /\ IsC X (W.heap.size + 1) #[.int .i64 (-1)] /\ IsC X (W.heap.size + 2) #[.func (.func 12) #[] #[]] /\ IsC X (W.heap.size + 3) #[.bool false] /\ IsC X (W.heap.size + 4) #[.int .i64 (s.length : Int)] /\ IsC X (W.heap.size + 5) #[.bool true] /\ HdsAt X g a xs := ⟨_, rfl⟩
 have stI : Stb (fun b => xs ≠ [] /\ b = g) I := by
  rw [hI]
  refine ⟨?_, ?_⟩
  ·rintro s C X ⟨rfl, -, -, -, -, -, q5, q6⟩ b hb
   rcases hb with hb | ⟨hb, rfl⟩
   ·have := q5.lt; omega
   ·exact q6.lt hb
  ·rintro s C A X Y ⟨rfl, q1, q2, q3, q4, q5, q6, q7⟩ ht hA
   have hc : ∀ j, j <= 5 -> ¬ A (W.heap.size + j) := fun j hj => hA _ (.inl ⟨by omega, by omega⟩)
   exact ⟨rfl, q1.tn ht (hc 0 (by omega)), q2.tn ht (hc 1 (by omega)), q3.tn ht (hc 2 (by omega)), q4.tn ht (hc 3 (by omega)), q5.tn ht (hc 4 (by omega)), q6.tn ht (hc 5 (by omega)), q7.tn ht (fun hn => hA _ (.inr ⟨hn, rfl⟩))⟩
 have h0 : I [] (fun b => W.heap.size <= b /\ b <= W.heap.size + 5) W0 := by
  rw [hI]
  exact ⟨rfl, hy0.1, hy0.2.1, hy0.2.2.1, hy0.2.2.2.1, hy0.2.2.2.2.1, hy0.2.2.2.2.2, HK.out.1.tn t0 (fun _ h => h)⟩
 have hW : Sq W0 := HS.out.stab _ _ _ HSQ.out t0 (fun _ _ h => h)
 refine range_it (gf := gf) (lb := lb) rfl eg (encs := encH) (fun _ => rfl) HS.out hW I (fun _ _ _ _ => False) (fun b => xs ≠ [] /\ b = g) stI (fun _ => ⟨fun _ _ _ h => h.elim, fun _ _ _ _ _ h => h.elim⟩) (fun b => W.heap.size <= b /\ b <= W.heap.size + 5) h0 (fun b hb hr => by have := hRl b hr; omega) (fun b hb ht => by obtain ⟨h1, rfl⟩ := hb; exact HK.out.2 h1 ht)
  (fun x a' => ∃ t13, a' = { tmps := t13, defers := [] } /\ t13 = #[.func (.func gf) #[] lb, .slice a xs.length cap, .int .i64 (-1), .func (.func 12) #[] #[], undef, .pointer (some ⟨W.heap.size, 0, none⟩), .pointer (some ⟨W.heap.size + 1, 0, none⟩), .pointer (some ⟨W.heap.size + 2, 0, none⟩), .pointer (some ⟨W.heap.size + 3, 0, none⟩), .pointer (some ⟨W.heap.size + 4, 0, none⟩), .pointer (some ⟨W.heap.size + 5, 0, none⟩), .int .u64 (x : Int), .func (.func gf) #[] lb, .bool false, .func (.func gf) #[] lb, .int .u64 (x : Int), undef, undef, undef, undef, undef, undef, undef, undef, undef, undef, undef, undef, undef, undef, undef, undef, undef, undef, undef, undef, undef, undef, undef, undef, undef, undef, undef, undef, undef, undef, undef, undef, undef, undef, undef, undef, undef, undef, undef])
  ?assign ?body ?done ?stop
 case assign =>
  intro l2 x X Kc hK
  unfold encH
  gi_wp2
 case body =>
  rintro l3 pre x a' C X hpre hIX ⟨_, rfl, rfl⟩
  have hIX' := hIX
  rw [hI] at hIX
  obtain ⟨rfl, q1, q2, q3, q4, q5, q6, q7⟩ := hIX
  have hx : xs[pre.length]? = some x := by
   obtain ⟨t, rfl⟩ := hpre
   simp
  have hlt : pre.length < xs.length := (List.getElem?_eq_some_iff.1 hx).1
  obtain ⟨o, rfl, g2, g3⟩ := q7 _ x hx
  have c1 : X.cell? ⟨W.heap.size, 0, none⟩ = some (.slice (some ⟨g, o, none⟩) xs.length cap) := q1.cell 0
  have c2 : X.cell? ⟨W.heap.size + 1, 0, none⟩ = some (.int .i64 (-1)) := q2.cell 0
  have c3 : X.cell? ⟨W.heap.size + 2, 0, none⟩ = some (.func (.func 12) #[] #[]) := q3.cell 0
  have c5 : X.cell? ⟨W.heap.size + 4, 0, none⟩ = some (.int .i64 (pre.length : Int)) := q5.cell 0
  have c6 : X.cell? ⟨W.heap.size + 5, 0, none⟩ = some (.bool true) := q6.cell 0
  have f5 := q5.frozen 0
  have f6 := q6.frozen 0
  have l4 := q6.lt
  have hgn : g < W.heap.size := hgl (by rintro h; rw [h] at hlt; simp at hlt)
  have hkl : ¬ (xs.length : Int) <= (pre.length : Int) := by omega
  have hk0 : (0 : Int) <= (pre.length : Int) := by omega
  have hkl2 : (pre.length : Int) < (xs.length : Int) := by omega
  have hxx : ((x : Int) == (x : Int)) = true := by simp
  have HX := hid hIX'
  have HQ5 : Hid (IsC X (W.heap.size + 4) #[.int .i64 (pre.length : Int)] /\ IsC X (W.heap.size + 5) #[.bool true]) := ⟨q5, q6⟩
  obtain ⟨k, hk⟩ : ∃ k, k = pre.length := ⟨_, rfl⟩
  rw [<- hk] at c5 g3 hkl hk0 hkl2 HQ5
  have HKK := hid hk
  obtain ⟨X0, hX0⟩ : ∃ X0, X.setCell ⟨W.heap.size + 5, 0, none⟩ (.bool true) = X0 := ⟨_, rfl⟩
  obtain ⟨X1, hX1⟩ : ∃ X1, X0.setCell ⟨W.heap.size + 4, 0, none⟩ (.int .i64 ((k : Int) + 1)) = X1 := ⟨_, rfl⟩
  have HX1 : Hid ((X.setCell ⟨W.heap.size + 5, 0, none⟩ (.bool true)).setCell ⟨W.heap.size + 4, 0, none⟩ (.int .i64 ((k : Int) + 1)) = X1) := by show _ = _; rw [hX0, hX1]
  have t0' : Tn (fun b => b = W.heap.size + 5) X X0 := by rw [<- hX0]; exact (Tn.refl (fun b => b = W.heap.size + 5) X).set (p := ⟨W.heap.size + 5, 0, none⟩) (.inl rfl) _
  have t1 : Tn (fun b => b = W.heap.size + 4) X0 X1 := by rw [<- hX1]; exact (Tn.refl (fun b => b = W.heap.size + 4) X0).set (p := ⟨W.heap.size + 4, 0, none⟩) (.inl rfl) _
  have t2 : Tn (fun b => b = W.heap.size + 4 \/ b = W.heap.size + 5) X X1 := (t0'.mono (fun _ _ h => .inr h)).trans t1 (fun _ _ h => .inl h)
  have HG : Hid (I (pre ++ [x]) (fun b => W.heap.size <= b /\ b <= W.heap.size + 5) X1 /\ Tn (fun b => W.heap.size <= b /\ b <= W.heap.size + 5) X X1) := by
   refine ⟨?_, t2.mono (fun b _ e => by omega)⟩
   rw [hI]
   refine ⟨rfl, q1.tn t2 (by omega), q2.tn t2 (by omega), q3.tn t2 (by omega), q4.tn t2 (by omega), ?_, ?_, q7.tn t2 (fun _ e => by omega)⟩
   ·obtain ⟨t, ht⟩ := q5.tn t0' (by omega)
    refine ⟨t, ?_⟩
    rw [<- hX1, List.length_append, List.length_singleton, <- hk]
    simp [World.setCell, Array.getElem?_modify, ht]
   ·refine IsC.tn ?_ t1 (by omega)
    obtain ⟨t, ht⟩ := q6
    exact ⟨t, by rw [<- hX0]; simp [World.setCell, Array.getElem?_modify, ht]⟩
  have hqu := quiet_any X (k : Int)
  clear hIX' q1 q2 q3 q4 q5 q6 q7 hx hpre hlt hk hX1 hX0 hI stI h0 hW t1 t0' t2 hy0 HQ5 hs0 hb0 t0 hgl
  have hmb : ((k : Int) + 1 == -1) = false := by simp; omega
  gi_wp2_with fail
  refine ⟨trivial, rfl, CallsIn.mono (F := Fence.wide) (callsIn_wide.2 hqu) ?_⟩
  rintro e w' ⟨rfl, rfl⟩
  gi_wp2
  rw [HX1.out]
  exact ⟨_, HG.out.2, fun b hb => .inl hb, HG.out.1⟩
 case done =>
  intro C X hIX tX hqX hC hD nD
  rw [hI] at hIX
  obtain ⟨rfl, q1, q2, q3, q4, q5, q6, q7⟩ := hIX
  have HE := goe_end HS.out HSQ.out t0 (Nat.le_refl _) tX hqX q4 ⟨by omega, by omega⟩
  have c1 : X.cell? ⟨W.heap.size, 0, none⟩ = some (.slice a xs.length cap) := q1.cell 0
  have c2 : X.cell? ⟨W.heap.size + 1, 0, none⟩ = some (.int .i64 (-1)) := q2.cell 0
  have c3 : X.cell? ⟨W.heap.size + 3, 0, none⟩ = some (.bool false) := q4.cell 0
  have c4 : X.cell? ⟨W.heap.size + 4, 0, none⟩ = some (.int .i64 (xs.length : Int)) := q5.cell 0
  have c5 : X.cell? ⟨W.heap.size + 5, 0, none⟩ = some (.bool true) := q6.cell 0
  have f3 := q4.frozen 0
  have l3 := q6.lt
  have hxx : ((xs.length : Int) == (xs.length : Int)) = true := by simp
  have HHE : Hid _ := HE
  have HDD := hid hD
  have hs0' := hs0
  clear hI q1 q2 q3 q4 q5 q6 q7 HE hD hy0 stI h0 hW hb0 t0
  gi_wp2
  have hD2 : (X.setCell ⟨W.heap.size + 3, 0, none⟩ (.bool true)).heap[W0.heap.size]? = some (.deferred (some [])) := (Below.heap_setCell _ _ _ _ (by simp; omega)).trans HDD.out
  refine ⟨by simp, .inl ⟨_, _, rfl, run_takeDeferred hD2, ?_⟩⟩
  exact ⟨_, res_bool rfl _ _ (W.heap.size + 3) _ rfl (HHE.out.2.2.cell 0), rfl, HHE.out.1, HHE.out.2.1⟩
 case stop =>
  intro c pre C X hpre hF
  exact hF.elim
end Go.Proofs.YtjkgjckkglfokaaGreat
/- In plain: where a node stands among all, and what the axes are. -/
namespace Go.Proofs.YtjkgjckkglfokaaGreat
open Go.RowKit Go.Shelf
open Gr (Dc Sl View WF sl par hvals allR idxH allH lst ups Lev)
set_option linter.unusedVariables false
set_option linter.unusedSimpArgs false
theorem prc_nil (D : Dc) (a : Nat) (l : List Nat) : prc D [] a l = (a, l) := rfl
theorem prc_cons (D : Dc) (x : Nat) (r : List Nat) (a : Nat) (l : List Nat) : prc D (x :: r) a l = if x = a then prc D r (par D x) l else prc D r a (l ++ [x]) := rfl
theorem prc_app (D : Dc) : ∀ (xs ys : List Nat) (a : Nat) (l : List Nat), prc D (xs ++ ys) a l = prc D ys (prc D xs a l).1 (prc D xs a l).2
 | [], ys, a, l => by rw [List.nil_append, prc_nil]
 | x :: r, ys, a, l => by
  rw [List.cons_append, prc_cons, prc_cons]
  by_cases h : x = a
  ·rw [if_pos h, if_pos h, prc_app D r]
  ·rw [if_neg h, if_neg h, prc_app D r]
theorem prc_no (D : Dc) : ∀ (xs : List Nat) (a : Nat) (l : List Nat), a ∉ xs -> prc D xs a l = (a, l ++ xs)
 | [], a, l, h => by rw [prc_nil, List.append_nil]
 | x :: r, a, l, h => by
  rw [prc_cons, if_neg (fun e => h (by simp [e])), prc_no D r a _ (fun hm => h (List.mem_cons_of_mem _ hm))]
  simp
theorem bwd_rev (L : List Nat) : (bwd L).map (·.2) = L.reverse := by
 apply List.ext_getElem
 ·simp [bwd]
 ·intro i h1 h2
  have hi : i < L.length := by simpa [bwd] using h1
  simp [bwd]
  rw [List.getElem?_eq_getElem (by omega)]
  rfl
theorem kids_split {D : Dc} {p h : Nat} (hm : h ∈ lst D p) : ∃ X Y, lst D p = X ++ h :: Y /\ (lst D p).flatMap (allH D) = X.flatMap (allH D) ++ (allH D h ++ Y.flatMap (allH D)) := by
 obtain ⟨X, Y, e⟩ := List.append_of_mem hm
 exact ⟨X, Y, e, by rw [e]; simp⟩
theorem place {D : Dc} (hw : WF D) {lv : Nat -> Nat} (hl : Lev D lv) : ∀ (m h : Nat) (s : Sl), sl D h = some s -> lv h <= m -> ∃ A B, allR D = A ++ (allH D h ++ B) /\ ∀ l, ∃ P, (prc D A.reverse s.parent l).2 = l ++ P /\ (P ++ ups D s.parent).Perm A := by
 intro m
 induction m with
 | zero =>
  intro h s e hm
  rcases hl.par e with ⟨h0, -⟩ | ⟨p, -, h2⟩
  ·have hu := hw.up h s e
   rw [h0] at hu
   obtain ⟨X, Y, -, e2⟩ := kids_split hu
   refine ⟨X.flatMap (allH D), Y.flatMap (allH D), by rw [<- e2]; rfl, fun l => ⟨(X.flatMap (allH D)).reverse, ?_, ?_⟩⟩
   ·rw [h0, prc_no]
    intro hm0
    have : 0 ∈ allR D := by
     have e3 : allR D = (lst D 0).flatMap (allH D) := rfl
     rw [e3, e2]
     exact List.mem_append_left _ (List.mem_reverse.1 hm0)
    obtain ⟨s', hs'⟩ := Gr.allR_live hw 0 this
    rw [Gr.sl_zero] at hs'; cases hs'
   ·rw [h0, Gr.ups_zero, List.append_nil]
    exact List.reverse_perm _
  ·omega
 | succ m ih =>
  intro h s e hm
  rcases hl.par e with ⟨h0, -⟩ | ⟨p, hp, h2⟩
  ·have hu := hw.up h s e
   rw [h0] at hu
   obtain ⟨X, Y, -, e2⟩ := kids_split hu
   refine ⟨X.flatMap (allH D), Y.flatMap (allH D), by rw [<- e2]; rfl, fun l => ⟨(X.flatMap (allH D)).reverse, ?_, ?_⟩⟩
   ·rw [h0, prc_no]
    intro hm0
    have : 0 ∈ allR D := by
     have e3 : allR D = (lst D 0).flatMap (allH D) := rfl
     rw [e3, e2]
     exact List.mem_append_left _ (List.mem_reverse.1 hm0)
    obtain ⟨s', hs'⟩ := Gr.allR_live hw 0 this
    rw [Gr.sl_zero] at hs'; cases hs'
   ·rw [h0, Gr.ups_zero, List.append_nil]
    exact List.reverse_perm _
  ·obtain ⟨A, B, e1, e3⟩ := ih s.parent p hp (by omega)
   obtain ⟨X, Y, -, e2⟩ := kids_split (hw.up h s e)
   have hst := Gr.allH_step hw hp
   rw [e2] at hst
   have hnd := Gr.allH_nodup hw hp
   rw [hst, List.nodup_cons] at hnd
   have hpX : s.parent ∉ X.flatMap (allH D) := fun hx => hnd.1 (List.mem_append_left _ hx)
   refine ⟨A ++ s.parent :: X.flatMap (allH D), Y.flatMap (allH D) ++ B, by rw [e1, hst]; simp, fun l => ?_⟩
   obtain ⟨P, g1, g2⟩ := e3 (l ++ (X.flatMap (allH D)).reverse)
   refine ⟨(X.flatMap (allH D)).reverse ++ P, ?_, ?_⟩
   ·rw [List.reverse_append, List.reverse_cons, List.append_assoc, prc_app, prc_no D _ _ _ (fun hx => hpX (List.mem_reverse.1 hx))]
    rw [List.singleton_append, prc_cons, if_pos rfl, show par D s.parent = p.parent by simp [par, hp], g1, List.append_assoc]
   ·rw [Gr.ups_step hl hp]
    have q1 : ((X.flatMap (allH D)).reverse ++ P ++ s.parent :: ups D p.parent).Perm (s.parent :: ((X.flatMap (allH D)).reverse ++ P ++ ups D p.parent)) := List.perm_middle
    refine q1.trans ?_
    have q2 : ((X.flatMap (allH D)).reverse ++ P ++ ups D p.parent).Perm (A ++ X.flatMap (allH D)) := by
     rw [List.append_assoc]
     exact (List.Perm.append (List.reverse_perm _) g2).trans List.perm_append_comm
    exact (q2.cons _).trans List.perm_middle.symm
end Go.Proofs.YtjkgjckkglfokaaGreat
/- In plain: all, once; turned about. -/
namespace Go.Proofs.YtjkgjckkglfokaaGreat
open Go.RowKit Go.Shelf
open Gr (Dc Sl View WF sl par hvals allR idxH allH lst ups Lev)
set_option linter.unusedVariables false
set_option linter.unusedSimpArgs false
def axl (D : Dc) (k h : Nat) : List Nat :=
 if k = 1 then lst D h else if k = 2 then (allH D h).tail else if k = 3 then allH D h else if k = 4 then (ups D h).tail.take 1 else if k = 5 then (ups D h).tail else if k = 6 then ups D h
 else if k = 7 then (allR D).drop ((idxH (allR D) h).toNat + (allH D h).length) else if k = 8 then ahead D h (idxH (allR D) h).toNat
 else if k = 9 then (lst D (par D h)).drop ((idxH (lst D (par D h)) h).toNat + 1) else if k = 10 then ((lst D (par D h)).take (idxH (lst D (par D h)) h).toNat).reverse else [h]
theorem idx_app {A B : List Nat} {h : Nat} (hn : (A ++ h :: B).Nodup) : idxH (A ++ h :: B) h = (A.length : Int) := by
 refine Gr.idxH_of (by simp) (fun j x hj hx e => ?_)
 subst e
 rw [List.getElem?_append_left hj] at hx
 have := List.mem_of_getElem? hx
 rw [List.nodup_append] at hn
 exact hn.2.2 x this x (by simp) rfl
theorem spot {D : Dc} (hw : WF D) {h : Nat} {s : Sl} (e : sl D h = some s) : ∃ A T B P, allR D = A ++ (h :: T ++ B) /\ allH D h = h :: T /\ ups D h = h :: ups D s.parent /\ idxH (allR D) h = (A.length : Int) /\ axl D 7 h = B /\ axl D 8 h = P /\ (P ++ ups D s.parent).Perm A := by
 obtain ⟨lv, hl⟩ := hw.lev
 obtain ⟨A, B, e1, e2⟩ := place hw hl _ h s e (Nat.le_refl _)
 have hst := Gr.allH_step hw e
 obtain ⟨T, hT⟩ : ∃ T, (lst D h).flatMap (allH D) = T := ⟨_, rfl⟩
 rw [hT] at hst
 rw [hst] at e1
 obtain ⟨P, g1, g2⟩ := e2 []
 have hnd := Gr.allR_nodup hw
 rw [e1] at hnd
 have hix : idxH (allR D) h = (A.length : Int) := by rw [e1]; exact idx_app (by simpa using hnd)
 refine ⟨A, T, B, P, e1, hst, Gr.ups_step hl e, hix, ?_, ?_, g2⟩
 ·unfold axl
  simp only [Nat.reduceEqDiff, if_false, if_true]
  rw [hix, hst, e1]
  simp
 ·unfold axl
  simp only [Nat.reduceEqDiff, if_false, if_true]
  unfold ahead
  rw [hix, bwd_rev, e1, show par D h = s.parent by simp [par, e]]
  simpa using g1
theorem parts {D : Dc} (hw : WF D) {h : Nat} {s : Sl} (e : sl D h = some s) : (axl D 11 h ++ axl D 5 h ++ axl D 2 h ++ axl D 8 h ++ axl D 7 h).Perm (allR D) := by
 obtain ⟨A, T, B, P, e1, e2, e3, -, e4, e5, e6⟩ := spot hw e
 rw [e4, e5, e1]
 have a1 : axl D 11 h = [h] := rfl
 have a2 : axl D 5 h = ups D s.parent := by
  unfold axl
  simp only [Nat.reduceEqDiff, if_false, if_true]
  rw [e3]; rfl
 have a3 : axl D 2 h = T := by
  unfold axl
  simp only [Nat.reduceEqDiff, if_false, if_true]
  rw [e2]; rfl
 rw [a1, a2, a3, <- List.append_assoc]
 refine List.Perm.append_right _ ?_
 have q1 : ([h] ++ ups D s.parent ++ T ++ P).Perm ((P ++ ups D s.parent) ++ (h :: T)) := by
  have : ([h] ++ ups D s.parent ++ T ++ P).Perm (P ++ ([h] ++ ups D s.parent ++ T)) := List.perm_append_comm
  refine this.trans ?_
  rw [List.append_assoc P (ups D s.parent)]
  refine List.Perm.append_left _ ?_
  rw [List.singleton_append, List.cons_append]
  exact List.perm_middle.symm
 exact q1.trans (e6.append_right _)
end Go.Proofs.YtjkgjckkglfokaaGreat
/- The axes as lists: within, upward, following. -/
namespace Go.Proofs.YtjkgjckkglfokaaGreat
open Go.RowKit Go.Shelf
open Gr (Dc Sl View WF sl par hvals allR idxH allH lst ups Lev)
set_option linter.unusedVariables false
set_option linter.unusedSimpArgs false
set_option maxRecDepth 100000
set_option maxHeartbeats 2000000
attribute [local go_sem] Oper.semAt_some
def MkP (w : World) (L : List Nat) (e : Ending) (w' : World) : Prop := ∃ a c, e = .returned (.slice a L.length c) /\ w'.ownsRow w.heap.size 27 1 (.slice a L.length c) L.length (hvals L) /\ Below w.heap.size w w'
theorem MkP.al {w w' : World} {L : List Nat} {e : Ending} (h : MkP w L e w') : AlP w L e w' := by
 obtain ⟨a, c, rfl, ho, hb⟩ := h
 obtain ⟨g, h1, h2⟩ := hds_own ho
 exact ⟨a, c, g, rfl, h1, h2, own_cap ho, hb⟩
theorem HdsAt.drop {w : World} {g o : Nat} {L : List Nat} (h : HdsAt w g (some ⟨g, o, none⟩) L) (m : Nat) : HdsAt w g (some ⟨g, o + m, none⟩) (L.drop m) := fun i x hx => by
 rw [List.getElem?_drop] at hx
 obtain ⟨o', e, h1, h2⟩ := h (m + i) x hx
 cases e
 exact ⟨_, rfl, h1, by rw [Nat.add_assoc]; exact h2⟩
def lenV : Value -> Nat
 | .slice _ n _ => n
 | _ => 0
theorem within_live (w : World) (R : Nat -> Prop) (db : Nat) (D : Dc) (h : Nat) (s : Sl) (hv : View w R db D) (hw : WF D) (hs : sl D h = some s) :
  Calls Tryz.prog 63 #[.pointer (some ⟨db, 0, none⟩), .int .u64 (h : Int)] w (MkP w (allH D h)) := by
 have hp := Gr.pall_some w R db D h s hv hw hs
 clear hv hw hs
 go_enter Tryz.func63, Tryz.ntmps63
 go_wp2_with fail
 refine hp.mono ?_
 rintro e w1 ⟨a, cap, rfl, ho, hb⟩
 have HB : Hid (Below w.heap.size w w1 /\ w1.ownsRow w.heap.size 27 1 (.slice a (allH D h).length cap) (allH D h).length (hvals (allH D h))) := ⟨hb, ho⟩
 clear hb hp ho
 go_wp2
 go_ret
 exact ⟨a, cap, rfl, HB.out.2, HB.out.1⟩
theorem upward_any (w : World) (R : Nat -> Prop) (db : Nat) (D : Dc) (h : Nat) (s : Sl) (hv : View w R db D) (hw : WF D) (hs : sl D h = some s) :
  Calls Tryz.prog 64 #[.pointer (some ⟨db, 0, none⟩), .int .u64 (h : Int)] w (MkP w (ups D h)) := by
 obtain ⟨lv, hlv⟩ := hw.lev
 have hd64 : (ups D h).length <= 64 := by rw [Gr.ups_length hlv (.inr ⟨s, hs⟩)]; exact Gr.dep_le hlv (.inr ⟨s, hs⟩)
 have HV := hid hv
 have HW := hid hw
 have HL := hid hlv
 have HS : Hid (h = 0 \/ ∃ s, sl D h = some s) := .inr ⟨s, hs⟩
 clear hv hw hlv hs
 go_enter Tryz.func64, Tryz.ntmps64
 go_wp2
 go_loopw [1, 5] (fun v q wr => ∃ (x : Nat) (pre : List Nat) (a : Option Addr) (c : Nat), v = .int .u64 (x : Int) /\ q = .slice a pre.length c /\ pre.length <= 64 /\ Hid (x = 0 \/ ∃ s, sl D x = some s) /\ Hid (ups D h = pre ++ ups D x) /\ Hid (wr.ownsRow w.heap.size 27 1 (.slice a pre.length c) pre.length (hvals pre)) /\ Hid (Below w.heap.size w wr)) (fun v q _ => 64 - (lenV q))
 case atStart => exact ⟨h, [], none, 0, rfl, rfl, by simp, HS, rfl, Gr.own_nil _ _ _ _, Below.refl _ _⟩
 case round =>
  obtain ⟨x, pre, a, c, rfl, rfl, hp64, hx, hu, ho, hbw⟩ := hrel
  by_cases h0 : x = 0
  ·have hb : ((x : Int) == 0) = true := by simp [h0]
   have he : ups D h = pre := by have := hu.out; rw [h0, Gr.ups_zero, List.append_nil] at this; exact this
   have HE := hid he
   clear h0 hu hx he
   go_wp2
   go_ret
   show MkP w (ups D h) _ _
   rw [HE.out]
   exact ⟨a, c, rfl, ho.out, hbw.out⟩
  ·have hb : ((x : Int) == 0) = false := by simp; omega
   obtain ⟨s, hs⟩ : ∃ s, sl D x = some s := by
    rcases hx.out with h | h
    ·exact absurd h h0
    ·exact h
   have hst := Gr.ups_step HL.out hs
   obtain ⟨hdp, hpp⟩ := Gr.dep_par HL.out hs
   have HU : Hid (ups D h = (pre ++ [x]) ++ ups D s.parent) := by show _ = _; rw [hu.out, hst]; simp
   have hp63 : pre.length + 1 <= 64 := by have := HU.out; rw [this] at hd64; simp at hd64; omega
   have HP := hid hpp
   have hxl := (HW.out.lt hs).1
   have HSX := hid hs
   have hbs := hbw.out.size
   have tok : True := trivial
   clear hst hdp hpp hx hu hs h0
   go_wp2_with (at_builtin; have _t := tok; refine Gr.wpList_app rfl _ _ rfl Tryz.underlying23 Gr.info42 rfl (by decide) w.heap.size (.slice a pre.length c) pre.length (hvals pre) rfl (Gr.own_of_block ho.out (fun k hk => Below.heap_alloc _ _ _ (Gr.own_block_lt ho.out k hk).2)) (some ⟨wr.heap.size, 0, none⟩) 1 1 [.int .u64 (x : Int)] rfl rfl (Gr.news_new wr #[.int .u64 (x : Int)] 27) (by simp [Value.oneCell']) (by unfold maxLen; omega) (by omega) (by simp; omega) ?_; intro v1 w0 hown1 hg1 _ hat1; clear tok _t; obtain ⟨va1, vc1, hv1⟩ := Gr.own_slice hown1; subst hv1; have HO0 : Hid (w0.ownsRow w.heap.size 27 1 (.slice va1 (pre.length + 1) vc1) (pre.length + 1) (hvals (pre ++ [x]))) := (by rw [Gr.hvals_append]; exact hown1); have HB0 := hid ((((hbw.out).alloc hbs _).grown hg1 (by simp; omega) (fun k hk => (Gr.own_block_lt ho.out k hk).1))); clear hown1 hg1 hat1)
   have hab := above_live w0 R db D x s (HV.out.below HB0.out) HW.out HSX.out
   rw [show par D x = s.parent by simp [par, HSX.out]] at hab
   go_wp2_with fail
   refine hab.mono ?_
   rintro e w1 ⟨rfl, hb1⟩
   have HB1 := hid (HB0.out.trans (hb1.mono (by have := HB0.out.size; omega)))
   have HO1 := hid (Gr.own_after HO0.out hb1)
   clear hab hb1 HB0 HO0 ho
   go_wp2
   go_roundw
   case rel => exact ⟨s.parent, pre ++ [x], va1, vc1, rfl, by simp, by simp; omega, HP, HU, by rw [List.length_append]; exact HO1, HB1⟩
   case measure => simp [lenV]; omega
theorem following_any (w : World) (R : Nat -> Prop) (db : Nat) (D : Dc) (h m k : Nat) (s : Sl) (hv : View w R db D) (hw : WF D) (hs : sl D h = some s) (hm : idxH (allR D) h = (m : Int)) (hk : (allH D h).length = k) (hmk : m + k <= (allR D).length) (hk1 : 1 <= k) :
  Calls Tryz.prog 65 #[.pointer (some ⟨db, 0, none⟩), .int .u64 (h : Int)] w (AlP w ((allR D).drop (m + k))) := by
 have hlen := (Gr.roots_len hw).2
 have HV : Hid (View w R db D /\ WF D /\ sl D h = some s) := ⟨hv, hw, hs⟩
 have hz := within_zero w R db D hv hw
 obtain ⟨n, hn⟩ : ∃ n, (allR D).length = n := ⟨_, rfl⟩
 have HN := hid hn
 have HM := hid hm
 have hdl : ((allR D).drop (m + k)).length = n - (m + k) := by rw [List.length_drop, hn]
 unfold AlP
 rw [hdl]
 rw [hn] at hmk hlen hz
 clear hv hw hs hm hn hdl
 go_enter Tryz.func65, Tryz.ntmps65
 go_wp2_with fail
 refine hz.mono ?_
 rintro e w1 ⟨a, cap, rfl, ho, hb⟩
 obtain ⟨g, rfl, hg1, hg2, hcap, hd1, hh1⟩ := row_hands ho HN.out (by omega)
 have HB := hid hb
 have HD := hid hd1
 have hix := Gr.index_any w1 (fun b => b = g) (some ⟨g, 0, none⟩) (allR D) cap h hh1 (by have := HN.out; omega) (m : Int) HM.out
 rw [HN.out] at hix
 have hwl := within_live w1 R db D h s (HV.out.1.below hb) HV.out.2.1 HV.out.2.2
 unfold MkP at hwl
 rw [hk] at hwl
 clear hz ho hb hd1 hh1 hk
 go_wp2_with fail
 refine hix.mono ?_
 rintro e w' ⟨rfl, rfl⟩
 go_wp2_with fail
 refine hwl.mono ?_
 rintro e w2 ⟨a2, c2, rfl, -, hb2⟩
 have HB2 : Hid (Below w.heap.size w w2 /\ HdsAt w2 g (some ⟨g, 0 + (m + k), none⟩) ((allR D).drop (m + k))) := by
  refine ⟨HB.out.trans (hb2.mono (by have := HB.out.size; omega)), ?_⟩
  exact (HD.out.tn (Tn.of_below (A := fun _ => False) hb2 (Nat.le_refl _)) (fun _ h => h)).drop (m + k)
 have e0 : (0 : Int) <= (m : Int) + (k : Int) := by omega
 have e1 : (m : Int) + (k : Int) <= (n : Int) := by omega
 have e2 : ((m : Int) + (k : Int)).toNat = m + k := by omega
 clear hix hwl hb2
 go_wp2
 case inl hc =>
  have he : (allR D).drop (m + k) = [] := List.drop_eq_nil_of_le (by have := HN.out; omega)
  go_ret
  refine ⟨some ⟨g, 0, none⟩, 0, rfl, g, fun i x hx => ?_, fun _ => hg1, by omega, HB2.out.1⟩
  rw [he] at hx
  simp at hx
 case inr hc =>
  go_ret
  exact ⟨some ⟨g, m + k, none⟩, _, rfl, g, by have := HB2.out.2; rwa [Nat.zero_add] at this, fun _ => hg1, by omega, HB2.out.1⟩
end Go.Proofs.YtjkgjckkglfokaaGreat
/- The axes of WalkParts: along at 11, 5, 2, 7, 8. -/
namespace Go.Proofs.YtjkgjckkglfokaaGreat
open Go.RowKit Go.Shelf
open Gr (Dc Sl View WF sl par hvals allR idxH allH lst ups Lev)
set_option linter.unusedVariables false
set_option linter.unusedSimpArgs false
set_option maxRecDepth 100000
set_option maxHeartbeats 1000000
attribute [local go_sem] Oper.semAt_some
theorem along_self (w : World) (db h : Nat) : Calls Tryz.prog 27 #[.pointer (some ⟨db, 0, none⟩), .int .i64 ((11 : Nat) : Int), .int .u64 (h : Int)] w (AlP w [h]) := by
 show Calls Tryz.prog 27 #[.pointer (some ⟨db, 0, none⟩), .int .i64 11, .int .u64 (h : Int)] w (AlP w [h])
 go_enter Tryz.func27, Tryz.ntmps27
 go_wp2
 go_ret
 refine ⟨some ⟨w.heap.size, 0, none⟩, 1, w.heap.size, rfl, fun i x hx => ⟨0, rfl, by simp, ?_⟩, fun _ => Nat.le_refl _, Nat.le_refl _, (Below.refl _ _).alloc (Nat.le_refl _) _⟩
 cases i with
 | zero =>
  simp at hx
  subst hx
  exact (isC_new w #[.int .u64 (h : Int)] 27).cell 0
 | succ i => simp at hx
theorem al_one {w w' : World} {L : List Nat} {x : Nat} {g cap : Nat} (ho : w'.ownsRow w.heap.size 27 1 (.slice (some ⟨g, 0, none⟩) (x :: L).length cap) (x :: L).length (hvals (x :: L))) (hb : Below w.heap.size w w') :
  w.heap.size <= g /\ HdsAt w' g (some ⟨g, 1, none⟩) L /\ L.length + 1 <= cap := by
 obtain ⟨g', e, h1, h2, h3, h4, -⟩ := row_hands ho rfl (by simp)
 cases e
 exact ⟨h1, by have := h4.drop 1; rwa [Nat.zero_add] at this, by simpa using h3⟩
theorem along_anc (w : World) (R : Nat -> Prop) (db : Nat) (D : Dc) (h : Nat) (s : Sl) (hv : View w R db D) (hw : WF D) (hs : sl D h = some s) :
  Calls Tryz.prog 27 #[.pointer (some ⟨db, 0, none⟩), .int .i64 ((5 : Nat) : Int), .int .u64 (h : Int)] w (AlP w (axl D 5 h)) := by
 have hu := upward_any w R db D h s hv hw hs
 obtain ⟨lv, hl⟩ := hw.lev
 rw [show axl D 5 h = (ups D h).tail from rfl]
 rw [Gr.ups_step hl hs] at hu ⊢
 rw [List.tail_cons]
 generalize ups D s.parent = L at *
 show Calls Tryz.prog 27 #[.pointer (some ⟨db, 0, none⟩), .int .i64 5, .int .u64 (h : Int)] w (AlP w L)
 clear hv hw hs hl
 go_enter Tryz.func27, Tryz.ntmps27
 go_wp2_with fail
 refine hu.mono ?_
 rintro e w1 ⟨a, cap, rfl, ho, hb⟩
 obtain ⟨g, rfl, -⟩ := row_hands ho rfl (by simp)
 obtain ⟨h1, h2, h3⟩ := al_one ho hb
 have HB : Hid (w.heap.size <= g /\ HdsAt w1 g (some ⟨g, 1, none⟩) L /\ L.length + 1 <= cap /\ Below w.heap.size w w1) := ⟨h1, h2, h3, hb⟩
 have hc : (1 : Int) <= ((h :: L).length : Int) := by simp only [List.length_cons]; omega
 have hlc : (h :: L).length = L.length + 1 := rfl
 rw [hlc] at hc ⊢
 clear hu ho hb h1 h2
 go_wp2
 case inl hcc =>
  have he : L = [] := List.length_eq_zero_iff.1 (by omega)
  subst he
  go_ret
  exact ⟨some ⟨g, 0, none⟩, 0, g, rfl, fun i x hx => by simp at hx, fun _ => HB.out.1, Nat.le_refl _, HB.out.2.2.2⟩
 case inr hcc =>
  go_ret
  exact ⟨some ⟨g, 1, none⟩, _, g, rfl, HB.out.2.1, fun _ => HB.out.1, by have := HB.out.2.2.1; omega, HB.out.2.2.2⟩
theorem along_desc (w : World) (R : Nat -> Prop) (db : Nat) (D : Dc) (h : Nat) (s : Sl) (hv : View w R db D) (hw : WF D) (hs : sl D h = some s) :
  Calls Tryz.prog 27 #[.pointer (some ⟨db, 0, none⟩), .int .i64 ((2 : Nat) : Int), .int .u64 (h : Int)] w (AlP w (axl D 2 h)) := by
 have hu := within_live w R db D h s hv hw hs
 rw [show axl D 2 h = (allH D h).tail from rfl]
 rw [Gr.allH_step hw hs] at hu ⊢
 rw [List.tail_cons]
 generalize (lst D h).flatMap (allH D) = L at *
 show Calls Tryz.prog 27 #[.pointer (some ⟨db, 0, none⟩), .int .i64 2, .int .u64 (h : Int)] w (AlP w L)
 clear hv hw hs
 go_enter Tryz.func27, Tryz.ntmps27
 go_wp2_with fail
 refine hu.mono ?_
 rintro e w1 ⟨a, cap, rfl, ho, hb⟩
 obtain ⟨g, rfl, -⟩ := row_hands ho rfl (by simp)
 obtain ⟨h1, h2, h3⟩ := al_one ho hb
 have HB : Hid (w.heap.size <= g /\ HdsAt w1 g (some ⟨g, 1, none⟩) L /\ L.length + 1 <= cap /\ Below w.heap.size w w1) := ⟨h1, h2, h3, hb⟩
 have hc : (1 : Int) <= ((h :: L).length : Int) := by simp only [List.length_cons]; omega
 have hlc : (h :: L).length = L.length + 1 := rfl
 rw [hlc] at hc ⊢
 clear hu ho hb h1 h2
 go_wp2
 case inl hcc =>
  have he : L = [] := List.length_eq_zero_iff.1 (by omega)
  subst he
  go_ret
  exact ⟨some ⟨g, 0, none⟩, 0, g, rfl, fun i x hx => by simp at hx, fun _ => HB.out.1, Nat.le_refl _, HB.out.2.2.2⟩
 case inr hcc =>
  go_ret
  exact ⟨some ⟨g, 1, none⟩, _, g, rfl, HB.out.2.1, fun _ => HB.out.1, by have := HB.out.2.2.1; omega, HB.out.2.2.2⟩
theorem along_fol (w : World) (R : Nat -> Prop) (db : Nat) (D : Dc) (h : Nat) (s : Sl) (hv : View w R db D) (hw : WF D) (hs : sl D h = some s) :
  Calls Tryz.prog 27 #[.pointer (some ⟨db, 0, none⟩), .int .i64 ((7 : Nat) : Int), .int .u64 (h : Int)] w (AlP w (axl D 7 h)) := by
 obtain ⟨A, T, B, P, e1, e2, -, e4, -, -, -⟩ := spot hw hs
 have hf := following_any w R db D h A.length (allH D h).length s hv hw hs e4 rfl (by rw [e1, e2]; simp only [List.length_append]; omega) (by rw [e2]; simp)
 rw [show axl D 7 h = (allR D).drop ((idxH (allR D) h).toNat + (allH D h).length) from rfl, e4, Int.toNat_natCast]
 generalize (allR D).drop (A.length + (allH D h).length) = L at *
 show Calls Tryz.prog 27 #[.pointer (some ⟨db, 0, none⟩), .int .i64 7, .int .u64 (h : Int)] w (AlP w L)
 clear hv hw hs e1 e2 e4
 go_enter Tryz.func27, Tryz.ntmps27
 go_wp2_with fail
 refine hf.mono ?_
 rintro e w1 ⟨a, c, g, rfl, h1, h2, h3, h4⟩
 have HB : Hid (HdsAt w1 g a L /\ (L ≠ [] -> w.heap.size <= g) /\ L.length <= c /\ Below w.heap.size w w1) := ⟨h1, h2, h3, h4⟩
 clear hf h1 h2 h3 h4
 go_wp2
 go_ret
 exact ⟨a, c, g, rfl, HB.out⟩
theorem along_pre (w : World) (R : Nat -> Prop) (db : Nat) (D : Dc) (h : Nat) (s : Sl) (hv : View w R db D) (hw : WF D) (hs : sl D h = some s) :
  Calls Tryz.prog 27 #[.pointer (some ⟨db, 0, none⟩), .int .i64 ((8 : Nat) : Int), .int .u64 (h : Int)] w (AlP w (axl D 8 h)) := by
 obtain ⟨A, T, B, P, e1, e2, -, e4, -, -, -⟩ := spot hw hs
 exact along_prec w R db D h A.length s hv hw hs e4 (by rw [e1]; simp) _ (by rw [show axl D 8 h = ahead D h (idxH (allR D) h).toNat from rfl, e4, Int.toNat_natCast])
end Go.Proofs.YtjkgjckkglfokaaGreat
/- runs: a call whose panic would be caught. -/
namespace Go.Proofs.YtjkgjckkglfokaaGreat
open Go.RowKit Go.Shelf
open Gr (hvals)
set_option linter.unusedVariables false
set_option linter.unusedSimpArgs false
set_option maxRecDepth 100000
set_option maxHeartbeats 2000000
theorem rec_idle (w : World) : CallsD Tryz.prog 123 #[] .returning w fun e u' w' => e = .returned (.tuple #[]) /\ u' = .returning /\ w' = w := by
 refine callsD_of_wpS Tryz.func123 rfl fun c₀ cs hu => ?_
 first
  | apply wpS_region
  | (apply wpS_seq; apply wpS_region)
 simp [wpOpsS, go_sem, recoverD, hu, Tryz.ntmps123]
 cases c₀
 simp_all [bodyPostS, results, Tryz.results123]
theorem runs_any (W : World) (mf : Nat) (ml : Array Value) (Q : World -> Prop) (em : ∀ args w, (callFunc mf args).run Tryz.prog w = .ok (.enter mf args) w) (hc : Calls Tryz.prog mf ml W fun e Y => (∃ v, e = .returned v) /\ Q Y) :
  Calls Tryz.prog 95 #[.func (.func mf) #[] ml] W fun e Y => e = .returned (.bool true) /\ Q Y := by
 go_enter_defers Tryz.func95, Tryz.ntmps95
 go_wp2_with fail
 refine hc.mono ?_
 rintro e Y ⟨⟨v, rfl⟩, hq⟩
 have HQ := hid hq
 clear hq hc
 go_wp2
 refine leaves_cons (f := 123) (args := #[]) (by simp) (by simp [go_sem]) ?_
 refine (rec_idle _).mono ?_
 rintro e u' w6 ⟨rfl, rfl, rfl⟩
 exact ⟨_, results_tmp rfl _ _ _, rfl, HQ.out⟩
def ListP (xs : List Nat) (T : Nat -> Prop) (Sq : World -> Prop) (most : Int) (W : World) (e : Ending) (Y : World) : Prop :=
 Tn T W Y /\ Sq Y /\ (((xs.length : Int) <= most /\ ∃ a c, e = .returned (.tuple #[.slice a xs.length c, .int .i64 0]) /\ Y.ownsRow W.heap.size 27 1 (.slice a xs.length c) xs.length (hvals xs)) \/ (most < (xs.length : Int) /\ e = .returned (.tuple #[.slice none 0 0, .int .i64 2])))
theorem list_any {gf : Nat} {lb : Array Value} {xs : List Nat} {R T : Nat -> Prop} {Sq : World -> Prop} (hs : IsSeq Tryz.prog gf lb encH xs R T Sq) (eg : ∀ args w, (callFunc gf args).run Tryz.prog w = .ok (.enter gf args) w)
  (W : World) (hq : Sq W) (most : Int) (hm : 0 <= most) (hl : xs.length < 1099511627776) : Calls Tryz.prog 49 #[.func (.func gf) #[] lb, .int .i64 most] W (ListP xs T Sq most W) := by
 have hq1 : ∀ w, (binOp .eql 40 (.func (.func gf) #[] lb) .nilFunc).run Tryz.prog w = .ok (.bool false) w := fun _ => by kernel_rfl
 have hmf : ∀ (fn : Fn) (first cap : Array Value) (w : World), (Instr.makeFunc fn first cap).run Tryz.prog w = .ok (.func fn first cap) w := fun _ _ _ _ => rfl
 obtain ⟨W0, hW0⟩ : ∃ W0, ((((W.alloc (.cells #[.func (.func gf) #[] lb] 40)).alloc (.cells #[.int .i64 most] 3)).alloc (.cells #[.slice none 0 0] 23)).alloc (.cells #[.bool false] 4)) = W0 := ⟨_, rfl⟩
 have t0 : Tn (fun _ => False) W W0 := by rw [<- hW0]; exact ((((Tn.refl _ _).alloc _).alloc _).alloc _).alloc _
 have hy0 : IsC W0 W.heap.size #[.func (.func gf) #[] lb] /\ IsC W0 (W.heap.size + 1) #[.int .i64 most] /\ IsC W0 (W.heap.size + 2) #[.slice none 0 0] /\ IsC W0 (W.heap.size + 3) #[.bool false] := by
  have h1 := isC_new W #[.func (.func gf) #[] lb] 40
  have h2 := isC_new (W.alloc (.cells #[.func (.func gf) #[] lb] 40)) #[.int .i64 most] 3
  have h3 := isC_new ((W.alloc (.cells #[.func (.func gf) #[] lb] 40)).alloc (.cells #[.int .i64 most] 3)) #[.slice none 0 0] 23
  have h4 := isC_new (((W.alloc (.cells #[.func (.func gf) #[] lb] 40)).alloc (.cells #[.int .i64 most] 3)).alloc (.cells #[.slice none 0 0] 23)) #[.bool false] 4
  rw [<- hW0]
  have n := fun (w : World) (o : Obj) => (Tn.refl (fun _ => False) w).alloc o
  refine ⟨((h1.tn (n _ _) id).tn (n _ _) id).tn (n _ _) id, ?_, ?_, ?_⟩
  ·simpa using (h2.tn (n _ _) id).tn (n _ _) id
  ·simpa using h3.tn (n _ _) id
  ·simpa using h4
 have hRl : ∀ b, R b -> b < W.heap.size := hs.lt _ hq
 have hl1 := list1_any hs eg W0 (hs.stab _ _ _ hq t0 (fun _ _ h => h)) W.heap.size (W.heap.size + 2) (W.heap.size + 1) (W.heap.size + 3) most hy0.1 hy0.2.2.1 hy0.2.1 hy0.2.2.2 hm (fun h => by have := hRl _ h; omega) (fun h => by have := hRl _ h; omega) (fun h => by have := hRl _ h; omega) (by omega) (by omega) (by omega) hl
 have hrun := runs_any W0 96 #[.pointer (some ⟨W.heap.size, 0, none⟩), .pointer (some ⟨W.heap.size + 2, 0, none⟩), .pointer (some ⟨W.heap.size + 1, 0, none⟩), .pointer (some ⟨W.heap.size + 3, 0, none⟩)] (fun Y => Tn (fun b => T b \/ b = W.heap.size + 2 \/ b = W.heap.size + 3) W0 Y /\ Sq Y /\ (((xs.length : Int) <= most /\ IsC Y (W.heap.size + 3) #[.bool false] /\ ∃ a c, IsC Y (W.heap.size + 2) #[.slice a xs.length c] /\ Y.ownsRow W0.heap.size 27 1 (.slice a xs.length c) xs.length (hvals xs)) \/ (most < (xs.length : Int) /\ IsC Y (W.heap.size + 3) #[.bool true]))) (enters_of Tryz.func96 (by kernel_rfl) rfl) ((callsIn_wide (n := 0)).1 hl1)
 have HT0 := hid t0
 rw [<- hW0] at hrun
 have HW0 := hid hW0
 have hmb : ¬ most < 0 := by omega
 clear hl1 t0 hy0 hRl hs hq hW0
 go_enter Tryz.func49, Tryz.ntmps49
 go_wp2_with fail
 refine hrun.mono ?_
 rintro e Y ⟨rfl, h1, h2, h3⟩
 rw [HW0.out] at h1
 have HTY := hid ((HT0.out.mono (B := T) (fun _ _ h => h.elim)).trans h1 (fun i hi h => h.elim id (fun h => by omega)))
 have HSY := hid h2
 have hn1 : ∀ b w, (Op.unary UnOp.not (.bool b)).run Tryz.prog w = .ok (.bool (!b)) w := fun b _ => by cases b <;> kernel_rfl
 clear hrun h1 h2
 rcases h3 with ⟨g1, g2, a, c, g3, g4⟩ | ⟨g1, g2⟩
 ·have c1 : Y.cell? ⟨W.heap.size + 3, 0, none⟩ = some (.bool false) := g2.cell 0
  have c2 : Y.cell? ⟨W.heap.size + 2, 0, none⟩ = some (.slice a xs.length c) := g3.cell 0
  have HO : Hid (Y.ownsRow W.heap.size 27 1 (.slice a xs.length c) xs.length (hvals xs)) := by
   rw [HW0.out] at g4
   refine ⟨g4.1, ?_⟩
   rcases g4.2 with hn | ⟨g, cap, cur, e, hb', r⟩
   ·exact .inl hn
   ·exact .inr ⟨g, cap, cur, e, Nat.le_trans HT0.out.size hb', r⟩
  clear g2 g3 g4
  go_wp2
  go_ret2
  exact ⟨HTY.out, HSY.out, .inl ⟨g1, a, c, rfl, HO.out⟩⟩
 ·have c1 : Y.cell? ⟨W.heap.size + 3, 0, none⟩ = some (.bool true) := g2.cell 0
  clear g2
  go_wp2
  go_ret2
  exact ⟨HTY.out, HSY.out, .inr ⟨g1, rfl⟩⟩
end Go.Proofs.YtjkgjckkglfokaaGreat
/- listed, in, refDoc, played. -/
namespace Go.Proofs.YtjkgjckkglfokaaGreat
open Go.RowKit Go.Shelf
open Gr (Dc Sl View WF sl par hvals allR idxH allH lst ups Lev)
set_option linter.unusedVariables false
set_option linter.unusedSimpArgs false
set_option maxRecDepth 100000
set_option maxHeartbeats 1000000
attribute [local go_sem] Oper.semAt_some
def LstP (w : World) (L : List Nat) (e : Ending) (w' : World) : Prop := ∃ a c, e = .returned (.tuple #[.slice a L.length c, .bool true]) /\ w'.ownsRow w.heap.size 27 1 (.slice a L.length c) L.length (hvals L) /\ Below w.heap.size w w'
theorem listed_any (w : World) (R : Nat -> Prop) (db : Nat) (D : Dc) (h k : Nat) (s : Sl) (k1 : 1 <= k) (k2 : k <= 11) (hv : View w R db D) (hw : WF D) (hs : sl D h = some s) (L : List Nat) (hL : ∀ W, View W R db D -> Calls Tryz.prog 27 #[.pointer (some ⟨db, 0, none⟩), .int .i64 (k : Int), .int .u64 (h : Int)] W (AlP W L)) (hl : L.length <= 4096) :
  Calls Tryz.prog 18 #[.pointer (some ⟨db, 0, none⟩), .int .i64 (k : Int), .int .u64 (h : Int)] w (LstP w L) := by
 have hax := mk_axis w R db D h k s k1 k2 hv hw hs
 have hseq := axis_seq (R := R) (db := db) (D := D) (h := h) (k := k) (s := s) hw hs hL (by omega) (d1 := w.heap.size) (d2 := w.heap.size + 2) (d3 := w.heap.size + 1)
 have hq1 : ∀ lb w, (binOp .eql 40 (.func (.func 25) #[] lb) .nilFunc).run Tryz.prog w = .ok (.bool false) w := fun _ _ => by kernel_rfl
 have HV := hid hv
 have HS : Hid _ := hseq
 have hl2 : (L.length : Int) <= 4096 := by omega
 clear hv hw hs hL hseq
 go_enter Tryz.func18, Tryz.ntmps18
 go_wp2_with fail
 refine hax.mono ?_
 rintro e w1 ⟨rfl, t1, y0, y1, y2⟩
 have hli := list_any HS.out (enters_of Tryz.func25 (by kernel_rfl) rfl) w1 ⟨HV.out.turn t1.gr (fun _ _ h => h), y0, y2, y1⟩ 4096 (by decide) (by omega)
 have HT1 := hid t1
 clear hax t1 y0 y1 y2
 go_wp2_with (first | go_quiet (fail) | fail)
 refine hli.mono ?_
 rintro e w2 ⟨t2, -, ⟨-, a, c, rfl, ho⟩ | ⟨hlt, -⟩⟩
 ·have HG : Hid (w2.ownsRow w.heap.size 27 1 (.slice a L.length c) L.length (hvals L) /\ Below w.heap.size w w2) := ⟨own_weak ho HT1.out.size, (HT1.out.trans t2 (fun _ _ h => h)).below (Nat.le_refl _) (fun _ h => h.elim)⟩
  clear hli t2 ho
  go_wp2
  go_ret2
  exact ⟨a, c, rfl, HG.out⟩
 ·omega
theorem in_any (w : World) (g : Nat) (a : Option Addr) (L : List Nat) (c x : Nat) (hd : HdsAt w g a L) (hl : L.length <= 1000000) (z : Bool) (hz : L.contains x = z) :
  Calls Tryz.prog 19 #[.slice a L.length c, .int .u64 (x : Int)] w fun e w' => e = .returned (.bool z) /\ w' = w := by
 have HC := hid hd
 have HZ := hid hz
 clear hd hz
 go_enter Tryz.func19, Tryz.ntmps19
 go_wp2
 go_loop [5] (fun i => ∃ k : Nat, k <= L.length /\ i = .int .i64 (k : Int) /\ Hid (∀ (j y : Nat), j < k -> L[j]? = some y -> y ≠ x)) (fun i => L.length - (intOf i).toNat)
 case atStart => exact ⟨0, Nat.zero_le _, rfl, fun j y hj => by omega⟩
 case round =>
  obtain ⟨k, hk, rfl, hno⟩ := hrel
  by_cases hlt : k < L.length
  ·obtain ⟨y, hy⟩ : ∃ y, L[k]? = some y := ⟨_, List.getElem?_eq_getElem hlt⟩
   obtain ⟨o, ha, hgl, hcell⟩ := HC.out k y hy
   subst ha
   by_cases he : y = x
   ·have hans : Hid (true = z) := by
     show _ = _
     rw [<- HZ.out, <- he]
     have := List.mem_of_getElem? hy
     simp [this]
    have hb : ((y : Int) == (x : Int)) = true := by simp [he]
    clear he hy HZ
    go_wp2
    go_ret
    exact ⟨congrArg _ (congrArg _ hans.out), rfl⟩
   ·have hb : ((y : Int) == (x : Int)) = false := by simp; omega
    have HY := hid hy
    have HE := hid he
    clear hy he
    go_wp2
    go_round
    case rel =>
     refine ⟨k + 1, by omega, by go_num, fun j t hj ht => ?_⟩
     by_cases e : j = k
     ·subst e
      rw [HY.out] at ht
      cases ht
      exact HE.out
     ·exact hno.out j t (by omega) ht
    case measure => simp [intOf]; omega
  ·have hans : Hid (false = z) := by
    show _ = _
    rw [<- HZ.out]
    symm
    rw [Bool.eq_false_iff]
    intro hc
    have hm : x ∈ L := by simpa using hc
    obtain ⟨j, hj⟩ := List.getElem?_of_mem hm
    exact hno.out j x (by have := (List.getElem?_eq_some_iff.1 hj).1; omega) hj rfl
   go_wp2
   go_ret
   exact ⟨congrArg _ (congrArg _ hans.out), rfl⟩
end Go.Proofs.YtjkgjckkglfokaaGreat
/- played: a document behind edits. -/
namespace Go.Proofs.YtjkgjckkglfokaaGreat
open Go.RowKit Go.Shelf
open Gr (Dc Sl View WF sl par hvals allR idxH allH lst ups Lev)
set_option linter.unusedVariables false
set_option linter.unusedSimpArgs false
set_option maxRecDepth 100000
set_option maxHeartbeats 4000000
attribute [local go_sem] Oper.semAt_some
theorem refdoc_any (w : World) : Calls Tryz.prog 48 #[] w fun e w' => e = .returned (.pointer (some ⟨w.heap.size, 0, none⟩)) /\ w' = w.alloc (.cells #[.slice none 0 0, .slice none 0 0] 68) := by
 go_enter Tryz.func48, Tryz.ntmps48
 go_wp2
 go_ret
 exact ⟨rfl, rfl⟩
def PlP (w0 : World) (e : Ending) (w' : World) : Prop := ∃ (ro : Nat -> Nat) (db : Nat) (D : Dc) (a : Option Addr) (c : Nat), e = .returned (.tuple #[.pointer (some ⟨db, 0, none⟩), .slice a (allR D).length c]) /\ WF D /\ View w' (fun b => ro b ≠ 0) db D /\ w'.ownsRow w0.heap.size 27 1 (.slice a (allR D).length c) (allR D).length (hvals (allR D)) /\ Below w0.heap.size w0 w'
theorem played_any (w0 w : World) (hb0 : Below w0.heap.size w0 w) (aa : Option Addr) (an ac : Nat) (h1 : Gr.ActsAt w0 w0.heap.size aa an) (l1 : an < 4611686018427387904) : Calls Tryz.prog 17 #[.slice aa an ac] w (PlP w0) := by
 have HA := hid h1
 have hbs := hb0.size
 have HP0 : Hid (∃ ro Q D, Gr.Pr w0 ((w.alloc (.cells #[.slice none 0 0, .slice none 0 0, .int .i64 0] 66)).alloc (.cells #[.slice none 0 0, .slice none 0 0] 68)) ro w.heap.size Q (w.heap.size + 1) D) := ⟨_, _, _, ⟨hb0.trans (((Gr.below_new' w _).alloc (by simp) _).mono hbs), Gr.start_bo w, fun b hb => by
  by_cases e : b = w.heap.size
  ·omega
  ·simp [e] at hb, by omega⟩⟩
 obtain ⟨w1, hw1⟩ : ∃ w1, w.alloc (.cells #[.slice none 0 0, .slice none 0 0, .int .i64 0] 66) = w1 := ⟨_, rfl⟩
 have HW1 := hid hw1
 have hs1 : w1.heap.size = w.heap.size + 1 := by rw [<- hw1]; simp
 rw [hw1] at HP0
 have hrd := refdoc_any w1
 rw [hs1] at hrd
 clear h1 hw1
 go_enter Tryz.func17, Tryz.ntmps17
 go_wp2_with fail
 rw [HW1.out]
 refine hrd.mono ?_
 rintro e w2 ⟨rfl, hw2⟩
 rw [<- hw2] at HP0
 clear hrd hw2 hs1
 go_wp2
 go_loopw [6] (fun iv wr => ∃ i : Nat, i <= an /\ iv = .int .i64 (i : Int) /\ Hid (∃ ro Q D, Gr.Pr w0 wr ro w.heap.size Q (w.heap.size + 1) D)) (fun iv _ => an - (intOf iv).toNat)
 case atStart => exact ⟨0, Nat.zero_le _, rfl, HP0⟩
 case round =>
  clear HP0
  obtain ⟨i, hi, rfl, HP⟩ := hrel
  obtain ⟨ro, Q, D, hpr⟩ := HP.out
  have HPR := hid hpr
  by_cases hlt : i < an
  ·obtain ⟨b, o, e, hb, k, wh, how, n, a, nm, vl, xk, xn, xa, xal, xac, xt, xka, xkl, xkc, g1, g2, g3, m, t, g4⟩ := (HA.out.below hpr.bel) i hlt
   subst e
   have hcall := hpr.does (k := k) (wh := wh) (how := how) (nm := nm) (vl := vl) g1 g2 g4
   have c0 := g3 0 (by omega)
   have c1 := g3 1 (by omega)
   have c2 := g3 2 (by omega)
   have c3 := g3 3 (by omega)
   have c4 := g3 4 (by omega)
   have c5 := g3 5 (by omega)
   have c6 := g3 6 (by omega)
   have c7 := g3 7 (by omega)
   have c8 := g3 8 (by omega)
   have c9 := g3 9 (by omega)
   have c10 := g3 10 (by omega)
   have c11 := g3 11 (by omega)
   unfold Gr.actv at hcall
   simp only [Gr.actv, Nat.add_zero, List.getElem?_toArray, List.getElem?_cons_zero, List.getElem?_cons_succ] at c0 c1 c2 c3 c4 c5 c6 c7 c8 c9 c10 c11
   have hbl : b < _ := Nat.lt_of_lt_of_le hb hpr.bel.size
   clear g3 g4 hpr HP
   go_wp2_with fail
   refine hcall.mono ?_
   intro e w2 hd
   obtain ⟨rfl, hd2⟩ := HPR.out.step hd
   have HP2 := hid hd2
   clear hd hd2 hcall c0 c1 c2 c3 c4 c5 c6 c7 c8 c9 c10 c11
   go_wp2
   go_roundw
   case rel => exact ⟨i + 1, by omega, by go_num, HP2⟩
   case measure => simp [intOf]; omega
  ·have hall := Gr.pall_zero _ _ w.heap.size D hpr.bo.p.view hpr.bo.wf
   clear hpr HP HA
   go_wp2_with fail
   refine hall.mono ?_
   rintro e w3 ⟨a, c, rfl, ho, hb⟩
   have HG : Hid (WF D /\ View w3 (fun b => ro b ≠ 0) w.heap.size D /\ w3.ownsRow w0.heap.size 27 1 (.slice a (allR D).length c) (allR D).length (hvals (allR D)) /\ Below w0.heap.size w0 w3) := ⟨HPR.out.bo.wf, HPR.out.bo.p.view.below hb, own_weak ho HPR.out.bel.size, HPR.out.bel.trans (hb.mono HPR.out.bel.size)⟩
   clear hall ho hb HPR
   go_wp2
   go_ret2
   exact ⟨ro, w.heap.size, D, a, c, rfl, HG.out⟩
end Go.Proofs.YtjkgjckkglfokaaGreat
