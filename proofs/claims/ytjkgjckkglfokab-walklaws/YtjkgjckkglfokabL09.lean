/- Axis, goes and quiet. -/
import Derived.Test.YtjkgjckkglfokabL08
import Derived.WalkSpells
import Derived.WalkLawsBesides
import Derived.Deep.QuietTactic
import Derived.BigQuiet
import Derived.Maps.AppendAt
import Derived.Deep.AppendSrc
import Derived.Deep.RegionHeld3
import Derived.Deep.RegionLaw
import Derived.OwnWalk
import Derived.Laws.CopyRow
import Derived.Lib.AppendZerosOnto
import Derived.Lib.Overlaps
import Derived.Laws.Externs
namespace Go.Proofs.Ytjkgjckkglfokab
open Go.RowKit Go.Shelf
open Gr (Dc Sl View WF sl par hvals allR idxH)
set_option linter.unusedVariables false
set_option linter.unusedSimpArgs false
attribute [local go_sem] Oper.semAt_some

set_option maxRecDepth 100000 in
theorem quiet_any (w : World) (x : Int) : Calls Try.prog 25 #[.int .i64 x] w fun e w' => e = .returned (.bool true) ∧ w' = w := by
  go_enter Try.func25, Try.ntmps25
  go_wp2
  go_ret
  exact ⟨rfl, rfl⟩

set_option maxRecDepth 100000 in
set_option maxHeartbeats 1000000 in
theorem mk_axis (w : World) (R : Nat → Prop) (db : Nat) (D : Dc) (h : Nat) (s : Sl) (hv : View w R db D) (hw : WF D) (hs : sl D h = some s) :
    Calls Try.prog 23 #[.pointer (some ⟨db, 0, none⟩), .int .i64 8, .int .u64 (h : Int)] w fun e w' => e = .returned (.tuple #[.func (.func 46) #[] #[.pointer (some ⟨w.heap.size, 0, none⟩), .pointer (some ⟨w.heap.size + 2, 0, none⟩), .pointer (some ⟨w.heap.size + 1, 0, none⟩)], .int .i64 0]) ∧ Tn (fun _ => False) w w' ∧ IsC w' w.heap.size #[.pointer (some ⟨db, 0, none⟩)] ∧ IsC w' (w.heap.size + 1) #[.int .i64 8] ∧ IsC w' (w.heap.size + 2) #[.int .u64 (h : Int)] := by
  have hmf : ∀ (fn : Fn) (first cap : Array Value) (w : World), (Instr.makeFunc fn first cap).run Try.prog w = .ok (.func fn first cap) w := fun _ _ _ _ => rfl
  obtain ⟨W3, hW3⟩ : ∃ W3, ((w.alloc (.cells #[.pointer (some ⟨db, 0, none⟩)] 40)).alloc (.cells #[.int .i64 8] 3)).alloc (.cells #[.int .u64 (h : Int)] 51) = W3 := ⟨_, rfl⟩
  have n := fun (w : World) (o : Obj) => (Tn.refl (fun _ => False) w).alloc o
  have t3 : Tn (fun _ => False) w W3 := by rw [← hW3]; exact ((n _ _).alloc _).alloc _
  have y0 : IsC W3 w.heap.size #[.pointer (some ⟨db, 0, none⟩)] := by rw [← hW3]; exact ((isC_new _ _ _).tn (n _ _) id).tn (n _ _) id
  have y1 : IsC W3 (w.heap.size + 1) #[.int .i64 8] := by
    have := (isC_new (w.alloc (.cells #[.pointer (some ⟨db, 0, none⟩)] 40)) #[.int .i64 8] 3).tn (n _ (.cells #[.int .u64 (h : Int)] 51)) id
    rw [hW3] at this
    simpa using this
  have y2 : IsC W3 (w.heap.size + 2) #[.int .u64 (h : Int)] := by
    have := isC_new ((w.alloc (.cells #[.pointer (some ⟨db, 0, none⟩)] 40)).alloc (.cells #[.int .i64 8] 3)) #[.int .u64 (h : Int)] 51
    rw [hW3] at this
    simpa using this
  have hin := isnode_live W3 R db D h s (hv.turn t3.gr (fun _ _ h => h)) hw hs
  have HY : Hid (Tn (fun _ => False) w W3 ∧ IsC W3 w.heap.size #[.pointer (some ⟨db, 0, none⟩)] ∧ IsC W3 (w.heap.size + 1) #[.int .i64 8] ∧ IsC W3 (w.heap.size + 2) #[.int .u64 (h : Int)]) := ⟨t3, y0, y1, y2⟩
  have HW3 : Hid (((w.alloc (.cells #[.pointer (some ⟨db, 0, none⟩)] 40)).alloc (.cells #[.int .i64 8] 3)).alloc (.cells #[.int .u64 (h : Int)] 51) = W3) := hW3
  clear hW3 t3 y0 y1 y2 hv hw hs n
  go_enter Try.func23, Try.ntmps23
  go_wp2_with fail
  rw [HW3.out]
  refine hin.mono ?_
  rintro e w1 ⟨rfl, hb1⟩
  have t1 : Tn (fun _ => False) W3 w1 := Tn.of_below hb1 (Nat.le_refl _)
  have HG : Hid (Tn (fun _ => False) w w1 ∧ IsC w1 w.heap.size #[.pointer (some ⟨db, 0, none⟩)] ∧ IsC w1 (w.heap.size + 1) #[.int .i64 8] ∧ IsC w1 (w.heap.size + 2) #[.int .u64 (h : Int)]) := ⟨HY.out.1.trans t1 (fun _ _ h => h), HY.out.2.1.tn t1 id, HY.out.2.2.1.tn t1 id, HY.out.2.2.2.tn t1 id⟩
  clear hb1 t1 hin
  go_wp2
  go_ret2
  exact ⟨rfl, HG.out⟩

/-- The last store, and what was deferred. -/
theorem goe_end {gf : Nat} {lb : Array Value} {xs : List Nat} {R T : Nat → Prop} {Sq : World → Prop} (hs : IsSeq Try.prog gf lb encH xs R T Sq) {W W0 X : World} (hq : Sq W) (t0 : Tn (fun _ => False) W W0) {N r : Nat} (hN : W.heap.size ≤ N) (tX : Tn (fun b => T b ∨ (N ≤ b ∧ b ≤ r)) W0 X) (hqX : Sq X) {rb : Nat} (q3 : IsC X rb #[.bool false]) (hr : W.heap.size ≤ rb ∧ rb < W0.heap.size) :
    Tn T W ((X.setCell ⟨rb, 0, none⟩ (.bool true)).putObj W0.heap.size (.deferred none)) ∧ Sq ((X.setCell ⟨rb, 0, none⟩ (.bool true)).putObj W0.heap.size (.deferred none)) ∧ IsC ((X.setCell ⟨rb, 0, none⟩ (.bool true)).putObj W0.heap.size (.deferred none)) rb #[.bool true] := by
  have hz := t0.size
  have t1 : Tn (fun b => b = rb) X (X.setCell ⟨rb, 0, none⟩ (.bool true)) := (Tn.refl (fun b => b = rb) X).set (p := ⟨rb, 0, none⟩) (.inl rfl) _
  have t2 := Tn.put (X.setCell ⟨rb, 0, none⟩ (.bool true)) W0.heap.size (.deferred none)
  have hRl : ∀ b, R b → b < W.heap.size := hs.lt _ hq
  refine ⟨?_, hs.stab _ _ _ (hs.stab _ _ _ hqX t1 (fun b hb (e : b = rb) => by have := hRl b hb; omega)) t2 (fun b hb (e : b = W0.heap.size) => by have := hRl b hb; omega), ?_⟩
  · refine (((t0.mono (B := T) (fun _ _ h => h.elim)).trans tX (fun i hi h => h.elim id (fun h => by omega))).trans t1 (fun i hi (e : i = rb) => by omega)).trans t2 (fun i hi (e : i = W0.heap.size) => by omega)
  · obtain ⟨t, ht⟩ := q3
    refine ⟨t, ?_⟩
    refine (World.putObj_heap_other (by omega)).trans ?_
    simp [World.setCell, Array.getElem?_modify, ht]

set_option maxRecDepth 100000 in
set_option maxHeartbeats 2000000 in
theorem goes_any {gf : Nat} {lb : Array Value} {xs : List Nat} {R T : Nat → Prop} {Sq : World → Prop} (hs : IsSeq Try.prog gf lb encH xs R T Sq) (eg : ∀ args w, (callFunc gf args).run Try.prog w = .ok (.enter gf args) w)
    (W : World) (hq : Sq W) (a : Option Addr) (cap g : Nat) (hK : HdsAt W g a xs) (hKT : xs ≠ [] → ¬ T g) (hl : xs.length < 4611686018427387904) :
    CallsIn Fence.wide 0 Try.prog 24 #[.func (.func gf) #[] lb, .slice a xs.length cap, .int .i64 (-1), .func (.func 25) #[] #[]] W fun e Y => e = .returned (.bool true) ∧ Tn T W Y ∧ Sq Y := by
  obtain ⟨W0, hW0⟩ : ∃ W0, ((((((W.alloc (.cells #[.slice a xs.length cap] 42)).alloc (.cells #[.int .i64 (-1)] 3)).alloc (.cells #[.func (.func 25) #[] #[]] 28)).alloc (.cells #[.bool false] 4)).alloc (.cells #[.int .i64 0] 3)).alloc (.cells #[.bool true] 4)) = W0 := ⟨_, rfl⟩
  have HW0 : Hid (((((((W.alloc (.cells #[.slice a xs.length cap] 42)).alloc (.cells #[.int .i64 (-1)] 3)).alloc (.cells #[.func (.func 25) #[] #[]] 28)).alloc (.cells #[.bool false] 4)).alloc (.cells #[.int .i64 0] 3)).alloc (.cells #[.bool true] 4)) = W0) := hW0
  clear hW0
  have hq1 : ∀ w, (binOp .eql 57 (.func (.func gf) #[] lb) .nilFunc).run Try.prog w = .ok (.bool false) w := fun _ => by kernel_rfl
  have HSQ : Hid (Sq W) := hq
  have HS : Hid (IsSeq Try.prog gf lb encH xs R T Sq) := hs
  have HK : Hid (HdsAt W g a xs ∧ (xs ≠ [] → ¬ T g)) := ⟨hK, hKT⟩
  have hxs : (xs.length : Int) < 4611686018427387904 := by omega
  have e63 := enters_of Try.func25 (by kernel_rfl) rfl
  clear hq hs hK hKT
  refine callsIn_of_wp_marks Try.func24 rfl trivial ?_ rfl
  simp only [Try.ntmps24, List.size_toArray, List.length_cons, List.length_nil, Nat.reduceAdd, Nat.reduceSub, Array.replicate_succ, Array.replicate_zero, List.push_toArray, List.append_toArray, List.nil_append, List.cons_append]
  gi_wp2_with fail
  rw [HW0.out]
  have hb0 : Below W.heap.size W W0 := by rw [← HW0.out]; exact ((((((Below.refl _ _).alloc (Nat.le_refl _) _).alloc (by simp) _).alloc (by simp; omega) _).alloc (by simp; omega) _).alloc (by simp; omega) _).alloc (by simp; omega) _
  have t0 : Tn (fun _ => False) W W0 := Tn.of_below hb0 (Nat.le_refl _)
  have hy0 : IsC W0 W.heap.size #[.slice a xs.length cap] ∧ IsC W0 (W.heap.size + 1) #[.int .i64 (-1)] ∧ IsC W0 (W.heap.size + 2) #[.func (.func 25) #[] #[]] ∧ IsC W0 (W.heap.size + 3) #[.bool false] ∧ IsC W0 (W.heap.size + 4) #[.int .i64 0] ∧ IsC W0 (W.heap.size + 5) #[.bool true] := by
    have h1 := isC_new W #[.slice a xs.length cap] 42
    have h2 := isC_new (W.alloc (.cells #[.slice a xs.length cap] 42)) #[.int .i64 (-1)] 3
    have h3 := isC_new ((W.alloc (.cells #[.slice a xs.length cap] 42)).alloc (.cells #[.int .i64 (-1)] 3)) #[.func (.func 25) #[] #[]] 28
    have h4 := isC_new (((W.alloc (.cells #[.slice a xs.length cap] 42)).alloc (.cells #[.int .i64 (-1)] 3)).alloc (.cells #[.func (.func 25) #[] #[]] 28)) #[.bool false] 4
    have h5 := isC_new ((((W.alloc (.cells #[.slice a xs.length cap] 42)).alloc (.cells #[.int .i64 (-1)] 3)).alloc (.cells #[.func (.func 25) #[] #[]] 28)).alloc (.cells #[.bool false] 4)) #[.int .i64 0] 3
    have h6 := isC_new (((((W.alloc (.cells #[.slice a xs.length cap] 42)).alloc (.cells #[.int .i64 (-1)] 3)).alloc (.cells #[.func (.func 25) #[] #[]] 28)).alloc (.cells #[.bool false] 4)).alloc (.cells #[.int .i64 0] 3)) #[.bool true] 4
    rw [← HW0.out]
    have n := fun (w : World) (o : Obj) => (Tn.refl (fun _ => False) w).alloc o
    refine ⟨((((h1.tn (n _ _) id).tn (n _ _) id).tn (n _ _) id).tn (n _ _) id).tn (n _ _) id, ?_, ?_, ?_, ?_, ?_⟩
    · simpa using (((h2.tn (n _ _) id).tn (n _ _) id).tn (n _ _) id).tn (n _ _) id
    · simpa using ((h3.tn (n _ _) id).tn (n _ _) id).tn (n _ _) id
    · simpa using (h4.tn (n _ _) id).tn (n _ _) id
    · simpa using h5.tn (n _ _) id
    · simpa using h6
  have hs0 : W.heap.size + 5 < W0.heap.size := hy0.2.2.2.2.2.lt
  have hRl : ∀ b, R b → b < W.heap.size := HS.out.lt _ HSQ.out
  have hgl : xs ≠ [] → g < W.heap.size := HK.out.1.lt
  obtain ⟨I, hI⟩ : ∃ I : Inv Nat, I = fun s C X => C = (fun b => W.heap.size ≤ b ∧ b ≤ W.heap.size + 5) ∧ IsC X W.heap.size #[.slice a xs.length cap] ∧ IsC X (W.heap.size + 1) #[.int .i64 (-1)] ∧ IsC X (W.heap.size + 2) #[.func (.func 25) #[] #[]] ∧ IsC X (W.heap.size + 3) #[.bool false] ∧ IsC X (W.heap.size + 4) #[.int .i64 (s.length : Int)] ∧ IsC X (W.heap.size + 5) #[.bool true] ∧ HdsAt X g a xs := ⟨_, rfl⟩
  have stI : Stb (fun b => xs ≠ [] ∧ b = g) I := by
    rw [hI]
    refine ⟨?_, ?_⟩
    · rintro s C X ⟨rfl, -, -, -, -, -, q5, q6⟩ b hb
      rcases hb with hb | ⟨hb, rfl⟩
      · have := q5.lt; omega
      · exact q6.lt hb
    · rintro s C A X Y ⟨rfl, q1, q2, q3, q4, q5, q6, q7⟩ ht hA
      have hc : ∀ j, j ≤ 5 → ¬ A (W.heap.size + j) := fun j hj => hA _ (.inl ⟨by omega, by omega⟩)
      exact ⟨rfl, q1.tn ht (hc 0 (by omega)), q2.tn ht (hc 1 (by omega)), q3.tn ht (hc 2 (by omega)), q4.tn ht (hc 3 (by omega)), q5.tn ht (hc 4 (by omega)), q6.tn ht (hc 5 (by omega)), q7.tn ht (fun hn => hA _ (.inr ⟨hn, rfl⟩))⟩
  have h0 : I [] (fun b => W.heap.size ≤ b ∧ b ≤ W.heap.size + 5) W0 := by
    rw [hI]
    exact ⟨rfl, hy0.1, hy0.2.1, hy0.2.2.1, hy0.2.2.2.1, hy0.2.2.2.2.1, hy0.2.2.2.2.2, HK.out.1.tn t0 (fun _ h => h)⟩
  have hW : Sq W0 := HS.out.stab _ _ _ HSQ.out t0 (fun _ _ h => h)
  refine range_it (gf := gf) (lb := lb) rfl eg (encs := encH) (fun _ => rfl) HS.out hW I (fun _ _ _ _ => False) (fun b => xs ≠ [] ∧ b = g) stI (fun _ => ⟨fun _ _ _ h => h.elim, fun _ _ _ _ _ h => h.elim⟩) (fun b => W.heap.size ≤ b ∧ b ≤ W.heap.size + 5) h0 (fun b hb hr => by have := hRl b hr; omega) (fun b hb ht => by obtain ⟨h1, rfl⟩ := hb; exact HK.out.2 h1 ht)
    (fun x a' => ∃ t13, a' = { tmps := t13, defers := [] } ∧ t13 = #[.func (.func gf) #[] lb, .slice a xs.length cap, .int .i64 (-1), .func (.func 25) #[] #[], undef, .pointer (some ⟨W.heap.size, 0, none⟩), .pointer (some ⟨W.heap.size + 1, 0, none⟩), .pointer (some ⟨W.heap.size + 2, 0, none⟩), .pointer (some ⟨W.heap.size + 3, 0, none⟩), .pointer (some ⟨W.heap.size + 4, 0, none⟩), .pointer (some ⟨W.heap.size + 5, 0, none⟩), .int .u64 (x : Int), .func (.func gf) #[] lb, .bool false, .func (.func gf) #[] lb, .int .u64 (x : Int), undef, undef, undef, undef, undef, undef, undef, undef, undef, undef, undef, undef, undef, undef, undef, undef, undef, undef, undef, undef, undef, undef, undef, undef, undef, undef, undef, undef, undef, undef, undef, undef, undef, undef, undef, undef, undef, undef, undef])
    ?assign ?body ?done ?stop
  case assign =>
    intro l2 x X Kc hK
    unfold encH
    gi_wp2
  case body =>
    rintro l3 pre x a' C X hpre hIX ⟨_, rfl, rfl⟩
    have hIX' := hIX
    rw [hI] at hIX
    obtain ⟨rfl, q1, q2, q3, q4, q5, q6, q7⟩ := hIX
    have hx : xs[pre.length]? = some x := by
      obtain ⟨t, rfl⟩ := hpre
      simp
    have hlt : pre.length < xs.length := (List.getElem?_eq_some_iff.1 hx).1
    obtain ⟨o, rfl, g2, g3⟩ := q7 _ x hx
    have c1 : X.cell? ⟨W.heap.size, 0, none⟩ = some (.slice (some ⟨g, o, none⟩) xs.length cap) := q1.cell 0
    have c2 : X.cell? ⟨W.heap.size + 1, 0, none⟩ = some (.int .i64 (-1)) := q2.cell 0
    have c3 : X.cell? ⟨W.heap.size + 2, 0, none⟩ = some (.func (.func 25) #[] #[]) := q3.cell 0
    have c5 : X.cell? ⟨W.heap.size + 4, 0, none⟩ = some (.int .i64 (pre.length : Int)) := q5.cell 0
    have c6 : X.cell? ⟨W.heap.size + 5, 0, none⟩ = some (.bool true) := q6.cell 0
    have f5 := q5.frozen 0
    have f6 := q6.frozen 0
    have l4 := q6.lt
    have hgn : g < W.heap.size := hgl (by rintro h; rw [h] at hlt; simp at hlt)
    have hkl : ¬ (xs.length : Int) ≤ (pre.length : Int) := by omega
    have hk0 : (0 : Int) ≤ (pre.length : Int) := by omega
    have hkl2 : (pre.length : Int) < (xs.length : Int) := by omega
    have hxx : ((x : Int) == (x : Int)) = true := by simp
    have HX : Hid (I pre (fun b => W.heap.size ≤ b ∧ b ≤ W.heap.size + 5) X) := hIX'
    have HQ5 : Hid (IsC X (W.heap.size + 4) #[.int .i64 (pre.length : Int)] ∧ IsC X (W.heap.size + 5) #[.bool true]) := ⟨q5, q6⟩
    obtain ⟨k, hk⟩ : ∃ k, k = pre.length := ⟨_, rfl⟩
    rw [← hk] at c5 g3 hkl hk0 hkl2 HQ5
    have HKK : Hid (k = pre.length) := hk
    obtain ⟨X0, hX0⟩ : ∃ X0, X.setCell ⟨W.heap.size + 5, 0, none⟩ (.bool true) = X0 := ⟨_, rfl⟩
    obtain ⟨X1, hX1⟩ : ∃ X1, X0.setCell ⟨W.heap.size + 4, 0, none⟩ (.int .i64 ((k : Int) + 1)) = X1 := ⟨_, rfl⟩
    have HX1 : Hid ((X.setCell ⟨W.heap.size + 5, 0, none⟩ (.bool true)).setCell ⟨W.heap.size + 4, 0, none⟩ (.int .i64 ((k : Int) + 1)) = X1) := by show _ = _; rw [hX0, hX1]
    have t0' : Tn (fun b => b = W.heap.size + 5) X X0 := by rw [← hX0]; exact (Tn.refl (fun b => b = W.heap.size + 5) X).set (p := ⟨W.heap.size + 5, 0, none⟩) (.inl rfl) _
    have t1 : Tn (fun b => b = W.heap.size + 4) X0 X1 := by rw [← hX1]; exact (Tn.refl (fun b => b = W.heap.size + 4) X0).set (p := ⟨W.heap.size + 4, 0, none⟩) (.inl rfl) _
    have t2 : Tn (fun b => b = W.heap.size + 4 ∨ b = W.heap.size + 5) X X1 := (t0'.mono (fun _ _ h => .inr h)).trans t1 (fun _ _ h => .inl h)
    have HG : Hid (I (pre ++ [x]) (fun b => W.heap.size ≤ b ∧ b ≤ W.heap.size + 5) X1 ∧ Tn (fun b => W.heap.size ≤ b ∧ b ≤ W.heap.size + 5) X X1) := by
      refine ⟨?_, t2.mono (fun b _ e => by omega)⟩
      rw [hI]
      refine ⟨rfl, q1.tn t2 (by omega), q2.tn t2 (by omega), q3.tn t2 (by omega), q4.tn t2 (by omega), ?_, ?_, q7.tn t2 (fun _ e => by omega)⟩
      · obtain ⟨t, ht⟩ := q5.tn t0' (by omega)
        refine ⟨t, ?_⟩
        rw [← hX1, List.length_append, List.length_singleton, ← hk]
        simp [World.setCell, Array.getElem?_modify, ht]
      · refine IsC.tn ?_ t1 (by omega)
        obtain ⟨t, ht⟩ := q6
        exact ⟨t, by rw [← hX0]; simp [World.setCell, Array.getElem?_modify, ht]⟩
    have hqu := quiet_any X (k : Int)
    clear hIX' q1 q2 q3 q4 q5 q6 q7 hx hpre hlt hk hX1 hX0 hI stI h0 hW t1 t0' t2 hy0 HQ5 hs0 hb0 t0 hgl
    have hmb : ((k : Int) + 1 == -1) = false := by simp; omega
    gi_wp2_with fail
    refine ⟨trivial, rfl, CallsIn.mono (F := Fence.wide) (callsIn_wide.2 hqu) ?_⟩
    rintro e w' ⟨rfl, rfl⟩
    gi_wp2
    rw [HX1.out]
    exact ⟨_, HG.out.2, fun b hb => .inl hb, HG.out.1⟩
  case done =>
    intro C X hIX tX hqX hC hD nD
    rw [hI] at hIX
    obtain ⟨rfl, q1, q2, q3, q4, q5, q6, q7⟩ := hIX
    have HE := goe_end HS.out HSQ.out t0 (Nat.le_refl _) tX hqX q4 ⟨by omega, by omega⟩
    have c1 : X.cell? ⟨W.heap.size, 0, none⟩ = some (.slice a xs.length cap) := q1.cell 0
    have c2 : X.cell? ⟨W.heap.size + 1, 0, none⟩ = some (.int .i64 (-1)) := q2.cell 0
    have c3 : X.cell? ⟨W.heap.size + 3, 0, none⟩ = some (.bool false) := q4.cell 0
    have c4 : X.cell? ⟨W.heap.size + 4, 0, none⟩ = some (.int .i64 (xs.length : Int)) := q5.cell 0
    have c5 : X.cell? ⟨W.heap.size + 5, 0, none⟩ = some (.bool true) := q6.cell 0
    have f3 := q4.frozen 0
    have l3 := q6.lt
    have hxx : ((xs.length : Int) == (xs.length : Int)) = true := by simp
    have HHE : Hid _ := HE
    have HDD : Hid (X.heap[W0.heap.size]? = some (.deferred (some []))) := hD
    have hs0' := hs0
    clear hI q1 q2 q3 q4 q5 q6 q7 HE hD hy0 stI h0 hW hb0 t0
    gi_wp2
    have hD2 : (X.setCell ⟨W.heap.size + 3, 0, none⟩ (.bool true)).heap[W0.heap.size]? = some (.deferred (some [])) := (Below.heap_setCell _ _ _ _ (by simp; omega)).trans HDD.out
    refine ⟨by simp, .inl ⟨_, _, rfl, run_takeDeferred hD2, ?_⟩⟩
    exact ⟨_, res_bool rfl _ _ (W.heap.size + 3) _ rfl (HHE.out.2.2.cell 0), rfl, HHE.out.1, HHE.out.2.1⟩
  case stop =>
    intro c pre C X hpre hF
    exact hF.elim

end Go.Proofs.Ytjkgjckkglfokab

/- A node put at a place, by the document. -/
namespace Go.Proofs.Ytjkgjckkglfokab.Gr
open Go.RowKit
set_option linter.unusedVariables false
set_option linter.unusedSimpArgs false
theorem sliceAt_zero (b o c : Nat) : sliceAt b o c 0 = some ⟨b, o, none⟩ := by unfold sliceAt; split <;> rfl
attribute [local go_sem] ite_sliceAt sliceAt_zero

def ins (l : List Nat) (k n : Nat) : List Nat := l.take k ++ [n] ++ l.drop k
/-- A node's parent set. -/
def setPar (D : Dc) (n p : Nat) : Dc := match atI D.S n with
  | none => D
  | some i => match D.S[i]? with
    | none => D
    | some s => { D with S := D.S.set i { s with parent := p } }

theorem RdS.setPar {w : World} {base : Nat} {Q : Nat → Prop} {rb : Nat} {D : Dc} {g cap : Nat} {ra : Option Addr} {rcap : Nat} {L : List (Value × Value)} (h : RdS w base Q rb D g cap ra rcap L) {i : Nat} {s : Sl} {q : Value × Value} (hs : D.S[i]? = some s) (hq : L[i]? = some q) (p : Nat) :
    RdS (w.setCell ⟨g, i * 8 + 6, none⟩ (.int .u64 (p : Int))) base Q rb { D with S := D.S.set i { s with parent := p } } g cap ra rcap (L.set i q) :=
  h.store hs hq (by omega) rfl (h.vals i s q hs hq)

end Go.Proofs.Ytjkgjckkglfokab.Gr

/- A node put where there is none yet; put at whatever place, by the document. -/
namespace Go.Proofs.Ytjkgjckkglfokab.Gr
open Go.RowKit
set_option linter.unusedVariables false
set_option linter.unusedSimpArgs false
attribute [local go_sem] ite_sliceAt sliceAt_zero

/-- Whatever the place. -/
def whereN (l : List Nat) (wh : Int) (a : Nat) : Nat := if wh = 2 then l.length else if wh = 3 then (idxH l a).toNat else if wh = 4 then (idxH l a).toNat + 1 else 0

end Go.Proofs.Ytjkgjckkglfokab.Gr

/- Nodes taken away, in plain, and one slot emptied by the document. -/
namespace Go.Proofs.Ytjkgjckkglfokab.Gr
open Go.RowKit
set_option linter.unusedVariables false
set_option linter.unusedSimpArgs false

theorem atI_set_same {S : List Sl} {i j h : Nat} {s s' : Sl} (hs : S[i]? = some s) (hl : s'.live = s.live) (hg : s'.gen = s.gen) : atI (S.set i s') h = atI S h := by
  unfold atI
  by_cases h0 : h % 4294967296 = 0
  · rw [if_pos h0, if_pos h0]
  · rw [if_neg h0, if_neg h0]
    by_cases e : i = h % 4294967296 - 1
    · rw [← e, List.getElem?_set_self (List.getElem?_eq_some_iff.1 hs).1, hs]
      simp only [hl, hg]
    · rw [List.getElem?_set_ne e]

theorem Fits.setL {D : Dc} (hf : Fits D) (p : Nat) (l' : List Nat) : Fits (setL D p l') := by
  unfold Gr.setL
  split
  · exact ⟨hf.len, hf.gen⟩
  · split
    · exact hf
    · rename_i i ha
      split
      · exact hf
      · rename_i s hs
        refine ⟨by simpa using hf.len, fun j t ht => ?_⟩
        by_cases e : i = j
        · subst e
          have ht' : (D.S.set i { s with kids := l' })[i]? = some t := ht
          rw [List.getElem?_set_self (List.getElem?_eq_some_iff.1 hs).1] at ht'
          cases ht'
          exact hf.gen i s hs
        · have ht' : (D.S.set i { s with kids := l' })[j]? = some t := ht
          rw [List.getElem?_set_ne e] at ht'
          exact hf.gen j t ht'

theorem SlotVals.set {w : World} {Q : Nat → Prop} {s : Sl} {p : Value × Value} (h : SlotVals w Q s p) {g o : Nat} {u : Value} (hq : ∀ b, Q b → b ≠ g) : SlotVals (w.setCell ⟨g, o, none⟩ u) Q s p :=
  h.to (fun _ h => h) (fun b o' hb => World.cell?_of_block (w := w) (a := ⟨b, o', none⟩) (Below.heap_setCell _ _ _ _ (hq b hb)))

end Go.Proofs.Ytjkgjckkglfokab.Gr

/- Delete, by the document. -/
namespace Go.Proofs.Ytjkgjckkglfokab.Gr
open Go.RowKit
set_option linter.unusedVariables false
set_option linter.unusedSimpArgs false

theorem not_mem_take {A : List Nat} (h : A.Nodup) {j x : Nat} (hx : A[j]? = some x) : x ∉ A.take j := by
  intro hm
  obtain ⟨k, hk⟩ := List.getElem?_of_mem hm
  have hkj : k < j := by have := (List.getElem?_eq_some_iff.1 hk).1; simp at this; omega
  rw [List.getElem?_take_of_lt hkj] at hk
  have := (List.getElem?_inj (List.getElem?_eq_some_iff.1 hk).1 h).1 (hk.trans hx.symm)
  omega

end Go.Proofs.Ytjkgjckkglfokab.Gr

/- Get, by the document. -/
namespace Go.Proofs.Ytjkgjckkglfokab.Gr
open Go.RowKit
set_option linter.unusedVariables false
set_option linter.unusedSimpArgs false

end Go.Proofs.Ytjkgjckkglfokab.Gr

/- A node in plain, as the document makes it: child by child. -/
namespace Go.Proofs.Ytjkgjckkglfokab.Gr
open Go.RowKit
set_option linter.unusedVariables false
set_option linter.unusedSimpArgs false

/-- Under way. -/
structure SubSt (w wr : World) (R : Nat → Prop) (m : Nat) (s : Sl) (L : List (T m)) (aa : Option Addr) (ac bx i : Nat) (la : Option Addr) (lcap : Nat) (xs : List Value) : Prop where
  res : IsCells wr w.heap.size #[.int .i64 0, .string ⟨#[]⟩, .slice none 0 0, .string ⟨#[]⟩, .slice none 0 0]
  box : IsCells wr bx #[.int .i64 s.kind, .string s.name, .slice aa s.attrs.length ac, .string s.text, .slice la i lcap]
  bxl : w.heap.size < bx
  own : wr.ownsRow (bx + 1) 48 5 (.slice la i lcap) i xs
  kids : CopiesAt wr (fun b => R b ∨ (bx + 1 ≤ b ∧ b < wr.heap.size ∧ (Value.slice la i lcap).ownBlock ≠ some b)) m xs (L.take i)
  bel : Below w.heap.size w wr

theorem SubSt.step {w wr w2 w3 : World} {R : Nat → Prop} {m : Nat} {s : Sl} {L : List (T m)} {aa : Option Addr} {ac bx i : Nat} {la : Option Addr} {lcap : Nat} {xs : List Value} (h : SubSt w wr R m s L aa ac bx i la lcap xs) (hR : ∀ b, R b → b < w.heap.size) {k : T m} (hk : L[i]? = some k)
    {u : Array Value} (hu : TreeR w2 (fun b => R b ∨ (wr.heap.size ≤ b ∧ b < w2.heap.size)) m u k) (hb : Below wr.heap.size wr w2) {o o' : Obj} {la' : Option Addr} {lcap' : Nat} (hown : w3.ownsRow (bx + 1) 48 5 (.slice la' (i + 1) lcap') (i + 1) (xs ++ u.toList))
    (hg : ((w2.alloc o).alloc o').grownBy w3 (Value.slice la i lcap).ownBlock) (hat : (Value.slice la' (i + 1) lcap').ownBlock = (Value.slice la i lcap).ownBlock ∨ (Value.slice la' (i + 1) lcap').ownBlock = some (w2.heap.size + 2)) :
    SubSt w (w3.setCell ⟨bx, 4, none⟩ (.slice la' (i + 1) lcap')) R m s L aa ac bx (i + 1) la' lcap' (xs ++ u.toList) := by
  have hs := hb.size
  have hs3 : w2.heap.size + 2 ≤ w3.heap.size := by have := hg.size; simpa using this
  have hbl := h.bel.size
  have hox := own_block_lt h.own
  have hbx := h.box.lt
  have hrx := h.res.lt
  have hbb := h.bxl
  have hss : (w3.setCell ⟨bx, 4, none⟩ (.slice la' (i + 1) lcap')).heap.size = w3.heap.size := by simp [World.setCell]
  have far : ∀ b, b < w2.heap.size → (Value.slice la i lcap).ownBlock ≠ some b → w3.heap[b]? = w2.heap[b]? := fun b hb1 hb2 =>
    (hg.block b (by simp; omega) (fun e => hb2 e.symm)).trans ((Below.heap_alloc _ _ _ (by simp; omega)).trans (Below.heap_alloc _ _ _ hb1))
  have far2 : ∀ b, b < wr.heap.size → (Value.slice la i lcap).ownBlock ≠ some b → w3.heap[b]? = wr.heap[b]? := fun b hb1 hb2 => (far b (by omega) hb2).trans (hb.block b hb1)
  have hnew : ∀ b, b < w2.heap.size → (Value.slice la i lcap).ownBlock ≠ some b → (Value.slice la' (i + 1) lcap').ownBlock ≠ some b := fun b h1 h2 e => by
    rcases hat with hat | hat
    · rw [hat] at e; exact h2 e
    · rw [hat] at e; simp only [Option.some.injEq] at e; omega
  have hnb : ∀ b, b ≤ bx → (Value.slice la i lcap).ownBlock ≠ some b := fun b hb e => by have := hox _ e; omega
  have cell3 : ∀ b o, b ≠ bx → (w3.setCell ⟨bx, 4, none⟩ (.slice la' (i + 1) lcap')).cell? ⟨b, o, none⟩ = w3.cell? ⟨b, o, none⟩ := fun b o hb => World.cell?_of_block (w := w3) (a := ⟨b, o, none⟩) (Below.heap_setCell _ _ _ _ hb)
  refine ⟨(h.res.of_block (far2 _ hrx (hnb _ (by omega)))).other (by show w.heap.size ≠ bx; omega) _, ?_, hbb, own_of_block hown (fun k hk => Below.heap_setCell _ _ _ _ (by have := (own_block_lt hown k hk).1; show k ≠ bx; omega)), ?_, ?_⟩
  · have := (h.box.of_block (far2 _ hbx (hnb _ (by omega)))).set 4 (.slice la' (i + 1) lcap')
    simpa using this
  · rw [take_more hk]
    have hne : ∀ b, wr.heap.size ≤ b → (Value.slice la i lcap).ownBlock ≠ some b := fun b h1 e => by have := hox _ e; omega
    refine CopiesAt.snoc (h.kids.to (fun b hb' => ?_) (fun b o hb' => ?_)) (hu.to (fun b hb' => ?_) (fun b o hb' => ?_))
    · rcases hb' with hb' | hb'
      · exact .inl hb'
      · exact .inr ⟨hb'.1, by rw [hss]; omega, hnew b (by omega) hb'.2.2⟩
    · rcases hb' with hb' | hb'
      · have := hR b hb'
        rw [cell3 b o (by omega)]
        exact World.cell?_of_block (w := wr) (a := ⟨b, o, none⟩) (far2 b (by omega) (hnb b (by omega)))
      · rw [cell3 b o (by omega)]
        exact World.cell?_of_block (w := wr) (a := ⟨b, o, none⟩) (far2 b hb'.2.1 hb'.2.2)
    · rcases hb' with hb' | hb'
      · exact .inl hb'
      · exact .inr ⟨by omega, by rw [hss]; omega, hnew b hb'.2 (hne b hb'.1)⟩
    · rcases hb' with hb' | hb'
      · have := hR b hb'
        rw [cell3 b o (by omega)]
        exact World.cell?_of_block (w := w2) (a := ⟨b, o, none⟩) (far b (by omega) (hnb b (by omega)))
      · rw [cell3 b o (by omega)]
        exact World.cell?_of_block (w := w2) (a := ⟨b, o, none⟩) (far b hb'.2 (hne b hb'.1))
  · exact ((h.bel.trans (hb.mono hbl)).trans ⟨hg.os, hg.tape, hg.output, by omega, fun k hk => far k (by omega) (hnb k (by omega))⟩).setCell (p := ⟨bx, 4, none⟩) (by show w.heap.size ≤ bx; omega) _

end Go.Proofs.Ytjkgjckkglfokab.Gr

/- Subtree, by the document. -/
namespace Go.Proofs.Ytjkgjckkglfokab.Gr
open Go.RowKit
set_option linter.unusedVariables false
set_option linter.unusedSimpArgs false

theorem grown_box {w3 w4 : World} {o o' : Obj} {bx : Nat} {row : Option Nat} (hg : ((w3.alloc o).alloc o').grownBy w4 row) (hbx : bx < w3.heap.size) (hne : some bx ≠ row) : w4.heap[bx]? = w3.heap[bx]? :=
  (hg.block bx (by simp; omega) hne).trans ((Below.heap_alloc _ _ _ (by simp; omega)).trans (Below.heap_alloc _ _ _ hbx))

end Go.Proofs.Ytjkgjckkglfokab.Gr

/- Forest, by the document. -/
namespace Go.Proofs.Ytjkgjckkglfokab.Gr
open Go.RowKit
set_option linter.unusedVariables false
set_option linter.unusedSimpArgs false

/-- Trees one behind the other lie in memory. -/
def ForR (w : World) (R : Nat → Prop) (n : Nat) (a : Option Addr) (L : List (T n)) : Prop :=
  ∀ i k, L[i]? = some k → ∃ (b o : Nat) (u : Array Value), a = some ⟨b, o, none⟩ ∧ R b ∧ u.size = 5 ∧ (∀ j, j < 5 → w.cell? ⟨b, o + i * 5 + j, none⟩ = u[j]?) ∧ TreeR w R n u k
structure ForSt (w wr : World) (R : Nat → Prop) (m : Nat) (L : List (T m)) (i : Nat) (la : Option Addr) (lcap : Nat) (xs : List Value) : Prop where
  own : wr.ownsRow w.heap.size 48 5 (.slice la i lcap) i xs
  kids : CopiesAt wr (fun b => R b ∨ (w.heap.size ≤ b ∧ b < wr.heap.size ∧ (Value.slice la i lcap).ownBlock ≠ some b)) m xs (L.take i)
  bel : Below w.heap.size w wr

theorem ForSt.step {w wr w2 w3 : World} {R : Nat → Prop} {m : Nat} {L : List (T m)} {i : Nat} {la : Option Addr} {lcap : Nat} {xs : List Value} (h : ForSt w wr R m L i la lcap xs) (hR : ∀ b, R b → b < w.heap.size) {k : T m} (hk : L[i]? = some k)
    {u : Array Value} (hu : TreeR w2 (fun b => R b ∨ (wr.heap.size ≤ b ∧ b < w2.heap.size)) m u k) (hb : Below wr.heap.size wr w2) {o o' : Obj} {la' : Option Addr} {lcap' : Nat} (hown : w3.ownsRow w.heap.size 48 5 (.slice la' (i + 1) lcap') (i + 1) (xs ++ u.toList))
    (hg : ((w2.alloc o).alloc o').grownBy w3 (Value.slice la i lcap).ownBlock) (hat : (Value.slice la' (i + 1) lcap').ownBlock = (Value.slice la i lcap).ownBlock ∨ (Value.slice la' (i + 1) lcap').ownBlock = some (w2.heap.size + 2)) :
    ForSt w w3 R m L (i + 1) la' lcap' (xs ++ u.toList) := by
  have hs := hb.size
  have hs3 : w2.heap.size + 2 ≤ w3.heap.size := by have := hg.size; simpa using this
  have hbl := h.bel.size
  have hox := own_block_lt h.own
  have far : ∀ b, b < w2.heap.size → (Value.slice la i lcap).ownBlock ≠ some b → w3.heap[b]? = w2.heap[b]? := fun b hb1 hb2 => grown_box hg hb1 (fun e => hb2 e.symm)
  have far2 : ∀ b, b < wr.heap.size → (Value.slice la i lcap).ownBlock ≠ some b → w3.heap[b]? = wr.heap[b]? := fun b hb1 hb2 => (far b (by omega) hb2).trans (hb.block b hb1)
  have hnew : ∀ b, b < w2.heap.size → (Value.slice la i lcap).ownBlock ≠ some b → (Value.slice la' (i + 1) lcap').ownBlock ≠ some b := fun b h1 h2 e => by
    rcases hat with hat | hat
    · rw [hat] at e; exact h2 e
    · rw [hat] at e; simp only [Option.some.injEq] at e; omega
  have hnb : ∀ b, b < w.heap.size → (Value.slice la i lcap).ownBlock ≠ some b := fun b hb e => by have := hox _ e; omega
  refine ⟨hown, ?_, ?_⟩
  · rw [take_more hk]
    have hne : ∀ b, wr.heap.size ≤ b → (Value.slice la i lcap).ownBlock ≠ some b := fun b h1 e => by have := hox _ e; omega
    refine CopiesAt.snoc (h.kids.to (fun b hb' => ?_) (fun b o hb' => ?_)) (hu.to (fun b hb' => ?_) (fun b o hb' => ?_))
    · rcases hb' with hb' | hb'
      · exact .inl hb'
      · exact .inr ⟨hb'.1, by omega, hnew b (by omega) hb'.2.2⟩
    · rcases hb' with hb' | hb'
      · have := hR b hb'
        exact World.cell?_of_block (w := wr) (a := ⟨b, o, none⟩) (far2 b (by omega) (hnb b (by omega)))
      · exact World.cell?_of_block (w := wr) (a := ⟨b, o, none⟩) (far2 b hb'.2.1 hb'.2.2)
    · rcases hb' with hb' | hb'
      · exact .inl hb'
      · exact .inr ⟨by omega, by omega, hnew b hb'.2 (hne b hb'.1)⟩
    · rcases hb' with hb' | hb'
      · have := hR b hb'
        exact World.cell?_of_block (w := w2) (a := ⟨b, o, none⟩) (far b (by omega) (hnb b (by omega)))
      · exact World.cell?_of_block (w := w2) (a := ⟨b, o, none⟩) (far b hb'.2 (hne b hb'.1))
  · exact (h.bel.trans (hb.mono hbl)).trans ⟨hg.os, hg.tape, hg.output, by omega, fun k hk => far k (by omega) (hnb k (by omega))⟩

end Go.Proofs.Ytjkgjckkglfokab.Gr

/- Lists set and read again; a node in plain counted; where a place lies. -/
namespace Go.Proofs.Ytjkgjckkglfokab.Gr
open Go.RowKit
set_option linter.unusedVariables false
set_option linter.unusedSimpArgs false

theorem setL_zero (D : Dc) (l' : List Nat) : setL D 0 l' = { D with roots := l' } := by simp [setL]
theorem setL_some {D : Dc} {p i : Nat} {s : Sl} {l' : List Nat} (h0 : p ≠ 0) (ha : atI D.S p = some i) (hs : D.S[i]? = some s) : setL D p l' = { D with S := D.S.set i { s with kids := l' } } := by
  simp only [setL, if_neg h0, ha, hs]

theorem sl_setL_ne {D : Dc} {p q : Nat} {l' : List Nat} (hne : q ≠ p) : sl (setL D p l') q = sl D q := by
  by_cases h0 : p = 0
  · subst h0; rw [setL_zero]; rfl
  · cases ha : atI D.S p with
    | none => simp only [setL, if_neg h0, ha]
    | some i =>
      obtain ⟨s, hs, hl, _, _, _, hp⟩ := atI_some ha
      rw [setL_some h0 ha hs]
      have h1 := atI_set_same (h := q) (j := 0) (s' := { s with kids := l' }) hs rfl rfl
      simp only [sl, h1]
      cases hq : atI D.S q with
      | none => rfl
      | some j =>
        obtain ⟨t, ht, _, _, _, _, hqq⟩ := atI_some hq
        simp only [Option.bind_some]
        have hij : i ≠ j := by
          rintro rfl
          rw [hs] at ht
          cases ht
          exact hne (hqq.trans hp.symm)
        rw [List.getElem?_set_ne hij]
theorem sl_setL_eq {D : Dc} {p : Nat} {s : Sl} {l' : List Nat} (hs : sl D p = some s) : sl (setL D p l') p = some { s with kids := l' } := by
  have h0 : p ≠ 0 := by rintro rfl; rw [sl_zero] at hs; cases hs
  obtain ⟨i, ha, hsi, _, _⟩ := sl_live hs
  rw [setL_some h0 ha hsi]
  have h1 := atI_set_same (h := p) (j := 0) (s' := { s with kids := l' }) hsi rfl rfl
  simp only [sl, h1, ha, Option.bind_some]
  exact List.getElem?_set_self (List.getElem?_eq_some_iff.1 hsi).1
theorem lst_setL_eq {D : Dc} {p : Nat} {l' : List Nat} (hp : p = 0 ∨ ∃ s, sl D p = some s) : lst (setL D p l') p = l' := by
  rcases hp with rfl | ⟨s, hs⟩
  · rw [setL_zero]; rfl
  · have h0 : p ≠ 0 := by rintro rfl; rw [sl_zero] at hs; cases hs
    simp only [lst, if_neg h0, sl_setL_eq hs]
theorem roots_setL {D : Dc} {p : Nat} {l' : List Nat} (h0 : p ≠ 0) : (setL D p l').roots = D.roots := by
  unfold setL
  rw [if_neg h0]
  split
  · rfl
  · split <;> rfl
theorem lst_setL_ne {D : Dc} {p q : Nat} {l' : List Nat} (hne : q ≠ p) : lst (setL D p l') q = lst D q := by
  unfold lst
  by_cases h0 : q = 0
  · rw [if_pos h0, if_pos h0, roots_setL (by omega)]
  · rw [if_neg h0, if_neg h0, sl_setL_ne hne]

/-- A node taken out of its list. -/
def outD (D : Dc) (n : Nat) (s : Sl) : Dc := setL D s.parent ((lst D s.parent).take (idxH (lst D s.parent) n).toNat ++ (lst D s.parent).drop ((idxH (lst D s.parent) n).toNat + 1))
/-- A node put at a place. -/
def putD (D : Dc) (n p : Nat) (wh : Int) (a : Nat) : Dc := setPar (setL D p (ins (lst D p) (whereN (lst D p) wh a) n)) n p
/-- The parent at a place, and what is wrong with the place. -/
def placeE (D : Dc) (wh : Int) (a : Nat) : Nat × Int := if a = 0 then (0, 0) else match sl D a with
  | none => (0, 8)
  | some s => if wh ≤ 2 then (if s.kind = 2 then (0, 31) else (a, 0)) else (s.parent, 0)

/-- What stands in the two halves. -/
theorem mem_cut {l : List Nat} {k n a : Nat} (hk : l[k]? = some n) (ha : a ∈ l) (hne : a ≠ n) : a ∈ l.take k ++ l.drop (k + 1) := by
  obtain ⟨j, hj⟩ := List.getElem?_of_mem ha
  rw [List.mem_append]
  rcases Nat.lt_trichotomy j k with h | h | h
  · exact .inl (List.mem_of_getElem? (i := j) (by rw [List.getElem?_take_of_lt h]; exact hj))
  · subst h; rw [hj] at hk; cases hk; exact absurd rfl hne
  · exact .inr (List.mem_of_getElem? (i := j - (k + 1)) (by rw [List.getElem?_drop, show k + 1 + (j - (k + 1)) = j from by omega]; exact hj))

end Go.Proofs.Ytjkgjckkglfokab.Gr

/- The program's documents: a list put in the place of another one. -/
namespace Go.Proofs.Ytjkgjckkglfokab.Gr
open Go.RowKit
set_option linter.unusedVariables false
set_option linter.unusedSimpArgs false

/-- Which part a block is, where part k now lies in another row. -/
def roN (ro : Nat → Nat) (k : Nat) (v : Value) (b : Nat) : Nat := if v.ownBlock = some b then k else if ro b = k then 0 else ro b

theorem roN_other {ro : Nat → Nat} {k N : Nat} {v vo : Value} (hlt : ∀ b, ro b ≠ 0 → b < N) (ho : ∀ b, vo.ownBlock = some b → ro b = k) (hb : ∀ b, v.ownBlock = some b → vo.ownBlock = some b ∨ N ≤ b) {b : Nat} (h1 : ro b ≠ 0) (h2 : ro b ≠ k) : roN ro k v b = ro b := by
  unfold roN
  rw [if_neg, if_neg h2]
  intro e
  rcases hb b e with h | h
  · exact h2 (ho b h)
  · have := hlt b h1; omega
theorem roN_same {ro : Nat → Nat} {k : Nat} {v : Value} {b : Nat} (h : v.ownBlock = some b) : roN ro k v b = k := by
  unfold roN
  rw [if_pos h]
theorem roN_from {ro : Nat → Nat} {k N : Nat} {v vo : Value} (hk : k ≠ 0) (ho : ∀ b, vo.ownBlock = some b → ro b = k) (hb : ∀ b, v.ownBlock = some b → vo.ownBlock = some b ∨ N ≤ b) {b : Nat} (h : roN ro k v b ≠ 0) : ro b ≠ 0 ∨ N ≤ b := by
  unfold roN at h
  split at h
  · rename_i e
    rcases hb b e with h' | h'
    · left
      rw [ho b h']
      exact hk
    · exact .inr h'
  · split at h
    · exact absurd rfl h
    · exact .inl h

section
variable {w w' : World} {ro : Nat → Nat} {db : Nat} {D : Dc} {sa : Option Addr} {scap : Nat} {ra : Option Addr} {rcap : Nat} {L : List (Value × Value)}

/-- Other roots. -/
theorem PdS.newRoots (h : PdS w ro db D sa scap ra rcap L) {l' : List Nat} {a' : Option Addr} {c' : Nat} (hg : w.grownBy w' (Value.slice ra D.roots.length rcap).ownBlock) (hown : w'.ownsRow 0 51 1 (.slice a' l'.length c') l'.length (hvals l'))
    (hb : ∀ b, (Value.slice a' l'.length c').ownBlock = some b → (Value.slice ra D.roots.length rcap).ownBlock = some b ∨ w.heap.size ≤ b) :
    PdS (w'.setCell ⟨db, 1, none⟩ (.slice a' l'.length c')) (roN ro 3 (.slice a' l'.length c')) db { D with roots := l' } sa scap a' c' L := by
  have ro1 : ∀ {b}, ro b ≠ 0 → ro b ≠ 3 → roN ro 3 (.slice a' l'.length c') b = ro b := fun h1 h2 => roN_other h.lt h.rr hb h1 h2
  have blk : ∀ b, ro b ≠ 0 → ro b ≠ 3 → w'.heap[b]? = w.heap[b]? := fun b h1 h2 => hg.block b (h.lt b h1) (fun e => h2 (h.rr b e.symm))
  have blk2 : ∀ b, ro b ≠ 0 → ro b ≠ 3 → ro b ≠ 1 → (w'.setCell ⟨db, 1, none⟩ (.slice a' l'.length c')).heap[b]? = w.heap[b]? := fun b h1 h2 h3 =>
    (Below.heap_setCell _ _ _ _ (by show b ≠ db; rintro rfl; exact h3 h.rdb)).trans (blk b h1 h2)
  have hnd : ∀ b, (Value.slice a' l'.length c').ownBlock = some b → b ≠ db := fun b hb' e => by
    subst e
    rcases hb b hb' with h' | h'
    · have := h.rr b h'; rw [h.rdb] at this; omega
    · have := h.lt b (by rw [h.rdb]; omega); omega
  refine ⟨?_, own_of_block h.slots (fun k hk => blk2 k (by rw [h.rs k hk]; omega) (by rw [h.rs k hk]; omega) (by rw [h.rs k hk]; omega)), own_of_block hown (fun k hk => Below.heap_setCell _ _ _ _ (hnd k hk)), h.len, fun i s p hs hp => ?_, ?_, fun b hb' => ?_, fun b hb' => roN_same hb', fun i p b hp hb' => ?_, fun i p b hp hb' => ?_, fun b hb' => ?_⟩
  · have := (h.head.of_block (blk db (by rw [h.rdb]; omega) (by rw [h.rdb]; omega))).set 1 (.slice a' l'.length c')
    simpa using this
  · obtain ⟨v1, v2⟩ := h.vals i s p hs hp
    exact ⟨own_of_block v1 (fun b hb' => blk2 b (by rw [h.rat i p b hp hb']; omega) (by rw [h.rat i p b hp hb']; omega) (by rw [h.rat i p b hp hb']; omega)),
      own_of_block v2 (fun b hb' => blk2 b (by rw [h.rk i p b hp hb']; omega) (by rw [h.rk i p b hp hb']; omega) (by rw [h.rk i p b hp hb']; omega))⟩
  · rw [ro1 (by rw [h.rdb]; omega) (by rw [h.rdb]; omega), h.rdb]
  · rw [ro1 (by rw [h.rs b hb']; omega) (by rw [h.rs b hb']; omega), h.rs b hb']
  · rw [ro1 (by rw [h.rat i p b hp hb']; omega) (by rw [h.rat i p b hp hb']; omega), h.rat i p b hp hb']
  · rw [ro1 (by rw [h.rk i p b hp hb']; omega) (by rw [h.rk i p b hp hb']; omega), h.rk i p b hp hb']
  · have hz : (w'.setCell ⟨db, 1, none⟩ (.slice a' l'.length c')).heap.size = w'.heap.size := by simp [World.setCell]
    rw [hz]
    unfold roN at hb'
    split at hb'
    · rename_i e
      exact (own_block_lt hown b e).2
    · split at hb'
      · exact absurd rfl hb'
      · exact Nat.lt_of_lt_of_le (h.lt b hb') hg.size
end

section
variable {w w' : World} {ro : Nat → Nat} {db : Nat} {D : Dc} {g : Nat} {scap : Nat} {ra : Option Addr} {rcap : Nat} {L : List (Value × Value)}

/-- A slot's children, or its attributes, in another row: part k, cell j. -/
theorem PdS.newRow (h : PdS w ro db D (some ⟨g, 0, none⟩) scap ra rcap L) {i j k : Nat} {s s' : Sl} {p p' : Value × Value} {v' vo : Value} (hs : D.S[i]? = some s) (hp : L[i]? = some p) (hj : j < 8) (hc : slotCells s' p' = (slotCells s p).set j v') (h3 : s'.live = s.live)
    (hk : k = 2 * i + 4 ∨ k = 2 * i + 5) (hok : ∀ b, vo.ownBlock = some b → ro b = k) (hg : w.grownBy w' vo.ownBlock) (hb : ∀ b, v'.ownBlock = some b → vo.ownBlock = some b ∨ w.heap.size ≤ b) (hlt : ∀ b, v'.ownBlock = some b → b < w'.heap.size)
    (hv : w'.ownsRow 0 90 2 p'.1 s'.attrs.length (attrCells s'.attrs) ∧ w'.ownsRow 0 51 1 p'.2 s'.kids.length (hvals s'.kids))
    (hq1 : ∀ b, p'.1.ownBlock = some b → roN ro k v' b = 2 * i + 4) (hq2 : ∀ b, p'.2.ownBlock = some b → roN ro k v' b = 2 * i + 5) :
    PdS (w'.setCell ⟨g, i * 8 + j, none⟩ v') (roN ro k v') db { D with S := D.S.set i s' } (some ⟨g, 0, none⟩) scap ra rcap (L.set i p') := by
  have hg2 : ro g = 2 := h.rs g rfl
  have hi := (List.getElem?_eq_some_iff.1 hs).1
  have hk0 : k ≠ 0 ∧ k ≠ 1 ∧ k ≠ 2 ∧ k ≠ 3 := by omega
  have ro1 : ∀ {b}, ro b ≠ 0 → ro b ≠ k → roN ro k v' b = ro b := fun h1 h2 => roN_other h.lt hok hb h1 h2
  have blk : ∀ b, ro b ≠ 0 → ro b ≠ k → w'.heap[b]? = w.heap[b]? := fun b h1 h2 => hg.block b (h.lt b h1) (fun e => h2 (hok b e.symm))
  have st : ∀ b, b ≠ g → (w'.setCell ⟨g, i * 8 + j, none⟩ v').heap[b]? = w'.heap[b]? := fun b hb' => Below.heap_setCell _ _ _ _ hb'
  have blk2 : ∀ b, ro b ≠ 0 → ro b ≠ k → ro b ≠ 2 → (w'.setCell ⟨g, i * 8 + j, none⟩ v').heap[b]? = w.heap[b]? := fun b h1 h2 h3 => (st b (by rintro rfl; exact h3 hg2)).trans (blk b h1 h2)
  have hnr : ∀ b, roN ro k v' b ≠ 2 → b ≠ g := fun b h1 e => by
    subst e
    rw [ro1 (by omega) (by omega)] at h1
    exact h1 hg2
  refine ⟨?_, ?_, own_of_block h.roots (fun b hb' => blk2 b (by rw [h.rr b hb']; omega) (by rw [h.rr b hb']; omega) (by rw [h.rr b hb']; omega)), by simp [h.len], fun m x y hx hy => ?_, ?_, fun b hb' => ?_, fun b hb' => ?_, fun m y b hy hb' => ?_, fun m y b hy hb' => ?_, fun b hb' => ?_⟩
  · have := h.head.of_block (blk2 db (by rw [h.rdb]; omega) (by rw [h.rdb]; omega) (by rw [h.rdb]; omega))
    rw [show cnt Sl.live ({ D with S := D.S.set i s' } : Dc).S = cnt Sl.live D.S from cnt_set hs h3]
    simpa using this
  · have h1 : w'.ownsRow 0 79 8 (.slice (some ⟨g, 0, none⟩) D.S.length scap) D.S.length (rowOf D.S L) := own_of_block h.slots (fun b hb' => blk b (by rw [h.rs b hb']; omega) (by rw [h.rs b hb']; omega))
    have := own_set h1 (i * 8 + j) v'
    rw [← rowOf_set h.len hs hp hj hc] at this
    simpa using this
  · by_cases hm : m = i
    · subst hm
      rw [List.getElem?_set_self hi] at hx
      rw [List.getElem?_set_self (by rw [h.len]; exact hi)] at hy
      cases hx
      cases hy
      exact ⟨own_of_block hv.1 (fun b hb' => st b (hnr b (by rw [hq1 b hb']; omega))), own_of_block hv.2 (fun b hb' => st b (hnr b (by rw [hq2 b hb']; omega)))⟩
    · rw [List.getElem?_set_ne (by omega)] at hx hy
      obtain ⟨v1, v2⟩ := h.vals m x y hx hy
      exact ⟨own_of_block v1 (fun b hb' => blk2 b (by rw [h.rat m y b hy hb']; omega) (by rw [h.rat m y b hy hb']; omega) (by rw [h.rat m y b hy hb']; omega)),
        own_of_block v2 (fun b hb' => blk2 b (by rw [h.rk m y b hy hb']; omega) (by rw [h.rk m y b hy hb']; omega) (by rw [h.rk m y b hy hb']; omega))⟩
  · rw [ro1 (by rw [h.rdb]; omega) (by rw [h.rdb]; omega), h.rdb]
  · have hb2 : (Value.slice (some ⟨g, 0, none⟩) D.S.length scap).ownBlock = some b := hb'
    rw [ro1 (by rw [h.rs b hb2]; omega) (by rw [h.rs b hb2]; omega), h.rs b hb2]
  · rw [ro1 (by rw [h.rr b hb']; omega) (by rw [h.rr b hb']; omega), h.rr b hb']
  · by_cases hm : m = i
    · subst hm
      rw [List.getElem?_set_self (by rw [h.len]; exact hi)] at hy
      cases hy
      exact hq1 b hb'
    · rw [List.getElem?_set_ne (by omega)] at hy
      rw [ro1 (by rw [h.rat m y b hy hb']; omega) (by rw [h.rat m y b hy hb']; omega), h.rat m y b hy hb']
  · by_cases hm : m = i
    · subst hm
      rw [List.getElem?_set_self (by rw [h.len]; exact hi)] at hy
      cases hy
      exact hq2 b hb'
    · rw [List.getElem?_set_ne (by omega)] at hy
      rw [ro1 (by rw [h.rk m y b hy hb']; omega) (by rw [h.rk m y b hy hb']; omega), h.rk m y b hy hb']
  · have hz : (w'.setCell ⟨g, i * 8 + j, none⟩ v').heap.size = w'.heap.size := by simp [World.setCell]
    rw [hz]
    unfold roN at hb'
    split at hb'
    · rename_i e
      exact hlt b e
    · split at hb'
      · exact absurd rfl hb'
      · exact Nat.lt_of_lt_of_le (h.lt b hb') hg.size

/-- Other children of a slot. -/
theorem PdS.newKids (h : PdS w ro db D (some ⟨g, 0, none⟩) scap ra rcap L) {i : Nat} {s : Sl} {p : Value × Value} (hs : D.S[i]? = some s) (hp : L[i]? = some p) {l' : List Nat} {a' : Option Addr} {c' : Nat} (hg : w.grownBy w' p.2.ownBlock) (hown : w'.ownsRow 0 51 1 (.slice a' l'.length c') l'.length (hvals l'))
    (hb : ∀ b, (Value.slice a' l'.length c').ownBlock = some b → p.2.ownBlock = some b ∨ w.heap.size ≤ b) :
    PdS (w'.setCell ⟨g, i * 8 + 7, none⟩ (.slice a' l'.length c')) (roN ro (2 * i + 5) (.slice a' l'.length c')) db { D with S := D.S.set i { s with kids := l' } } (some ⟨g, 0, none⟩) scap ra rcap (L.set i (p.1, .slice a' l'.length c')) := by
  obtain ⟨v1, v2⟩ := h.vals i s p hs hp
  have hok : ∀ b, p.2.ownBlock = some b → ro b = 2 * i + 5 := fun b hb' => h.rk i p b hp hb'
  exact h.newRow (j := 7) (k := 2 * i + 5) (vo := p.2) (s' := { s with kids := l' }) (p' := (p.1, .slice a' l'.length c')) hs hp (by omega) rfl rfl (.inr rfl) hok hg hb (fun b hb' => (own_block_lt hown b hb').2)
    ⟨own_of_block v1 (fun b hb' => hg.block b (own_block_lt v1 b hb').2 (fun e => by have e1 := hok b e.symm; have e2 := h.rat i p b hp hb'; omega)), hown⟩
    (fun b hb' => by rw [roN_other h.lt hok hb (by rw [h.rat i p b hp hb']; omega) (by rw [h.rat i p b hp hb']; omega), h.rat i p b hp hb']) (fun b hb' => roN_same hb')

end

end Go.Proofs.Ytjkgjckkglfokab.Gr

/- copy, and append of zeros, at a row that is known whole, at elements of any size. -/
namespace Go.Proofs.Ytjkgjckkglfokab.Gr
open Go.RowKit
set_option linter.unusedVariables false
set_option linter.unusedSimpArgs false

theorem addrP (b o j : Nat) : (⟨b, o, none⟩ : Addr).add j = ⟨b, o + j, none⟩ := by unfold Addr.add; split <;> simp_all

/-- A block's cells, by their number. -/
theorem cell_of {w : World} {g : Nat} {cur : List Value} {t : TypeId} (h : w.heap[g]? = some (.cells cur.toArray t (0, 0))) (j : Nat) : w.cell? ⟨g, j, none⟩ = cur[j]? := by simp [World.cell?, h]

/-- A row with some cells written over. -/
def over (cur : List Value) (o : Nat) (cs : List Value) : List Value := cur.take o ++ cs ++ cur.drop (o + cs.length)

theorem over_length {cur cs : List Value} {o : Nat} (h : o + cs.length ≤ cur.length) : (over cur o cs).length = cur.length := by
  simp [over]
  omega

theorem grown_setRow {w : World} {g : Nat} (cs : Array Value) : w.grownBy (w.setRow g cs) (some g) ∧ (w.setRow g cs).heap.size = w.heap.size := by
  refine ⟨⟨rfl, rfl, rfl, by simp [World.setRow], fun k hk hne => ?_⟩, by simp [World.setRow]⟩
  simp only [World.setRow, Array.getElem?_modify]
  rw [if_neg (fun e => hne (by rw [e]))]

/-- copy into a row that is known whole. -/
theorem run_copyK {P : Program} (w : World) (dT sT ty elem : TypeId) (size g o dLen dCap : Nat) (a : Option Addr) (sLen sCap : Nat) (cur : List Value) (t : TypeId) (cs : List Value)
    (hu : P.underlying dT = some (.slice elem)) (hs : (P.info? elem).map (·.size) = some size) (hg : w.heap[g]? = some (.cells cur.toArray t (0, 0))) (hn : cs.length = Nat.min sLen dLen * size)
    (hsrc : ∀ j v, cs[j]? = some v → ∃ ad, a = some ad ∧ w.cell? (ad.add j) = some v) (hfit : o + cs.length ≤ cur.length) (h1 : ∀ v ∈ cs, v.oneCell' = true) :
    ∃ w', (Builtin.copy_ #[dT, sT] ty #[.slice (some ⟨g, o, none⟩) dLen dCap, .slice a sLen sCap]).run P w = .ok (goInt (Nat.min sLen dLen)) w' ∧ w'.heap[g]? = some (.cells (over cur o cs).toArray t (0, 0)) ∧ w.grownBy w' (some g) ∧ w'.heap.size = w.heap.size := by
  have hst := run_storeCells_at P g o t cs 0 cur.toArray w hg (by simpa using hfit) h1
  simp only [Nat.add_zero] at hst
  refine ⟨w.setRow g (over cur o cs).toArray, ?_, setRow_heap w g _ _ t _ hg, grown_setRow _⟩
  cases hq : P.info? elem with
  | none => simp [hq] at hs
  | some i =>
    have hi : i.size = size := by simpa [hq] using hs
    cases a with
    | some ad =>
      have hl := run_loadCells_list (P := P) w ad cs (fun j v hj => by
        obtain ⟨ad', e, h⟩ := hsrc j v hj
        cases e
        exact h)
      simp [Builtin.copy_, run_underlying hu, Builtin.lenOf, Builtin.firstCells, sizeOf, typeInfo, hq, hi, ← hn, hl, hst, over]
    | none =>
      have hn0 : cs = [] := by
        cases cs with
        | nil => rfl
        | cons v r =>
          obtain ⟨ad', e, _⟩ := hsrc 0 v rfl
          cases e
      subst hn0
      simp [Builtin.copy_, run_underlying hu, Builtin.lenOf, Builtin.firstCells, sizeOf, typeInfo, hq, storeCells, over]
      have := setRow_self w g cur.toArray t (0, 0) hg
      exact this.symm

theorem wpList_copyK {P : Program} (w : World) {ops : Array Oper} {rest : List Oper} {op : Oper} {ac : Act} {Q : Exit → Act → World → Prop} (hgd : op.guard = none) (d s : Operand) (dT sT elem : TypeId)
    (ho : op.op = .call { callee := .builtin .copy, args := #[d, s], argTypes := #[dT, sT] }) (size g o dLen dCap : Nat) (a : Option Addr) (sLen sCap : Nat) (cur : List Value) (t : TypeId) (cs : List Value)
    (hd : ac.eval d = .slice (some ⟨g, o, none⟩) dLen dCap) (hx : ac.eval s = .slice a sLen sCap)
    (hu : P.underlying dT = some (.slice elem)) (hs : (P.info? elem).map (·.size) = some size) (hg : w.heap[g]? = some (.cells cur.toArray t (0, 0))) (hn : cs.length = Nat.min sLen dLen * size)
    (hsrc : ∀ j v, cs[j]? = some v → ∃ ad, a = some ad ∧ w.cell? (ad.add j) = some v) (hfit : o + cs.length ≤ cur.length) (h1 : ∀ v ∈ cs, v.oneCell' = true)
    (hK : ∀ w', w'.heap[g]? = some (.cells (over cur o cs).toArray t (0, 0)) → w.grownBy w' (some g) → w'.heap.size = w.heap.size → wpList P ops Q rest (ac.put op.dst (goInt (Nat.min sLen dLen))) w') : wpList P ops Q (op :: rest) ac w := by
  refine wpList_plain hgd fun K hK' => ?_
  obtain ⟨w', hr, h2, h3, h4⟩ := run_copyK (P := P) w dT sT op.type elem size g o dLen dCap a sLen sCap cur t cs hu hs hg hn hsrc hfit h1
  unfold Oper.wp execOp
  simp only [ho, resolve, invoke, builtin, Sem.run_bind, Sem.run_pure, Result.andThen_ok, List.map_toArray, List.map_cons, List.map_nil, hd, hx, hr]
  exact hK' _ _ (hK w' h2 h3 h4)

theorem step_copyK {P : Program} {w : World} {ops : Array Oper} {op : Oper} {ac : Act} {K : Act → World → Prop} {Q : Exit → Act → World → Prop} {E : Prop} (hgd : op.guard = none) (d s : Operand) (dT sT elem : TypeId)
    (ho : op.op = .call { callee := .builtin .copy, args := #[d, s], argTypes := #[dT, sT] }) (size g o dLen dCap : Nat) (a : Option Addr) (sLen sCap : Nat) (cur : List Value) (t : TypeId) (cs : List Value)
    (hd : ac.eval d = .slice (some ⟨g, o, none⟩) dLen dCap) (hx : ac.eval s = .slice a sLen sCap)
    (hu : P.underlying dT = some (.slice elem)) (hs : (P.info? elem).map (·.size) = some size) (hg : w.heap[g]? = some (.cells cur.toArray t (0, 0))) (hn : cs.length = Nat.min sLen dLen * size)
    (hsrc : ∀ j v, cs[j]? = some v → ∃ ad, a = some ad ∧ w.cell? (ad.add j) = some v) (hfit : o + cs.length ≤ cur.length) (h1 : ∀ v ∈ cs, v.oneCell' = true)
    (hK : ∀ w', w'.heap[g]? = some (.cells (over cur o cs).toArray t (0, 0)) → w.grownBy w' (some g) → w'.heap.size = w.heap.size → K (ac.put op.dst (goInt (Nat.min sLen dLen))) w') :
    if Region.wanted op (yielded ops ac.tmps) = true then Oper.wp P op ac w K Q else E := by
  have hw : Region.wanted op (yielded ops ac.tmps) = true := by simp [Region.wanted, hgd]
  rw [if_pos hw]
  obtain ⟨w', hr, h2, h3, h4⟩ := run_copyK (P := P) w dT sT op.type elem size g o dLen dCap a sLen sCap cur t cs hu hs hg hn hsrc hfit h1
  unfold Oper.wp execOp
  simp only [ho, resolve, invoke, builtin, Sem.run_bind, Sem.run_pure, Result.andThen_ok, List.map_toArray, List.map_cons, List.map_nil, hd, hx, hr]
  exact hK w' h2 h3 h4

/-- append(s[:i], make(S, k)...) where there is no room: a new row, its first elements those of s. -/
theorem wpList_zeros {P : Program} (w : World) {ops : Array Oper} {rest : List Oper} {op : Oper} {ac : Act} {Q : Exit → Act → World → Prop} (hgd : op.guard = none) (s x : Operand) (t tn e : TypeId) (kn kq : IntKind)
    (ho : op.op = .call { callee := .builtin .append, args := #[s, x], argTypes := #[t, tn] }) (ht : P.underlying t = some (.slice e)) (htn : P.underlying tn = some (.int kn)) {z : Value} {size bytes : Nat} (hi : InfoOf P e z size bytes) (hzs : z.cells.size = size) (hsz : 0 < size)
    (ad : Addr) (i c : Nat) (K : Int) (k : Nat) (hk : K = (k : Int)) (olds : List Value) (hl : olds.length = i * size) (hs : ac.eval s = .slice (some ad) i c) (hx : ac.eval x = .int kq K) (hold : ∀ j v, olds[j]? = some v → w.cell? (ad.add j) = some v)
    (h0 : 0 < k) (hg : c < i + k) (hb : (i + k) * bytes ≤ 140737488355328) (hm : i + k ≤ 1099511627776)
    (hK : ∀ w' G (cur : List Value), w'.heap[w.heap.size]? = some (.cells cur.toArray e (0, 0)) → cur.length = G * size → cur.take (i * size) = olds → i + k ≤ G → G ≤ maxLen → w.grownBy w' none → w'.heap.size = w.heap.size + 1 →
      wpList P ops Q rest (ac.put op.dst (.slice (some ⟨w.heap.size, 0, none⟩) (i + k) G)) w') : wpList P ops Q (op :: rest) ac w := by
  refine wpList_plain hgd fun K' hK' => ?_
  subst hk
  obtain ⟨i0, hi0, hz0, hz1, hz2⟩ := hi.parts
  have hfc : (Builtin.firstCells i0.size i (.slice (some ad) i c)).run P w.drew = .ok olds.toArray w.drew := by
    rw [hz1]
    exact run_firstCells_some w.drew size i ad i c olds hl (fun j v hj => hold j v hj)
  have hr := Lib.run_append_grow_zeros (P := P) w t tn op.type e i0 z kq kn ht htn hi0 hz0 (some ad) i c olds hfc k h0 (by rw [hz1]; exact hsz) hg (by omega) (by
    rw [hz2]
    have : k * bytes ≤ (i + k) * bytes := Nat.mul_le_mul_right _ (by omega)
    omega) (by rw [hz2]; exact growslice_fits hg hb)
  unfold Oper.wp execOp
  simp only [ho, resolve, invoke, builtin, Sem.run_bind, Sem.run_pure, Result.andThen_ok, List.map_toArray, List.map_cons, List.map_nil, hs, hx, hr]
  have hge := grownCap_ge w (i + k) c e
  refine hK' _ _ (hK _ (grownCap w (i + k) c e) (olds ++ (Builtin.zeroCells z.cells k).toList ++ (Builtin.zeroCells z.cells (grownCap w (i + k) c e - (i + k))).toList) ?_ ?_ ?_ hge ?_ ?_ ?_)
  · have := heap_alloc_new w.drew (.cells (olds.toArray ++ Builtin.zeroCells z.cells k ++ Builtin.zeroCells z.cells (grownCap w (i + k) c e - (i + k))) e)
    rw [show w.drew.heap.size = w.heap.size from rfl] at this
    rw [this]
    congr 2
    apply Array.ext'
    simp
  · simp only [List.length_append, Array.length_toList, size_zeroCells, hzs, hl]
    rw [← Nat.add_mul, ← Nat.add_mul]
    congr 1
    omega
  · rw [List.append_assoc, List.take_append_of_le_length (by omega), List.take_of_length_le (by omega)]
  · exact grownCap_le_maxLen w _ _ _ (by unfold maxLen; omega)
  · exact ⟨rfl, rfl, rfl, by simp, fun k hk _ => Below.heap_alloc w.drew _ _ hk⟩
  · simp

/-- A row that is known whole is a row of one's own. -/
theorem own_of_full {w : World} {base g cap n size : Nat} {e : TypeId} {cur xs : List Value} (h : w.heap[g]? = some (.cells cur.toArray e (0, 0))) (hb : base ≤ g) (hnc : n ≤ cap) (hm : cap ≤ maxLen) (hl : cur.length = cap * size) (hx : cur.take (n * size) = xs) :
    w.ownsRow base e size (.slice (some ⟨g, 0, none⟩) n cap) n xs := by
  have : n * size ≤ cap * size := Nat.mul_le_mul_right _ hnc
  refine ⟨?_, .inr ⟨g, cap, cur.toArray, rfl, hb, h, hnc, hm, by simpa using hl, by simpa using hx⟩⟩
  rw [← hx, List.length_take]
  omega

theorem full_of_own {w : World} {base n cap size : Nat} {a : Option Addr} {e : TypeId} {xs : List Value} (h : w.ownsRow base e size (.slice a n cap) n xs) (hn : 0 < n) :
    ∃ (g : Nat) (cur : List Value), a = some ⟨g, 0, none⟩ ∧ base ≤ g ∧ w.heap[g]? = some (.cells cur.toArray e (0, 0)) ∧ n ≤ cap ∧ cap ≤ maxLen ∧ cur.length = cap * size ∧ cur.take (n * size) = xs := by
  rcases h.2 with ⟨_, e1⟩ | ⟨g, cap', cur, e1, hb, hh, h1, h2, h3, h4⟩
  · omega
  · simp only [Value.slice.injEq, true_and] at e1
    obtain ⟨rfl, rfl⟩ := e1
    exact ⟨g, cur.toList, rfl, hb, by simpa using hh, h1, h2, by simpa using h3, h4⟩

/-- The row behind an insertion in place: what stood behind moved up, then the new one laid in. -/
theorem over_shift {cur xs vs : List Value} {i n k : Nat} (hx : cur.take (n * k) = xs) (hi : i ≤ n) (hv : vs.length = k) (hl : (n + 1) * k ≤ cur.length) :
    (over (over cur ((i + 1) * k) (xs.drop (i * k))) (i * k) vs).take ((n + 1) * k) = xs.take (i * k) ++ vs ++ xs.drop (i * k) := by
  have h1 : i * k ≤ n * k := Nat.mul_le_mul_right _ hi
  have h2 : (i + 1) * k = i * k + k := by rw [Nat.add_mul, Nat.one_mul]
  have h3 : (n + 1) * k = n * k + k := by rw [Nat.add_mul, Nat.one_mul]
  have hxl : xs.length = n * k := by rw [← hx, List.length_take]; omega
  rw [h3] at hl ⊢
  rw [h2]
  clear h2 h3
  generalize i * k = p at *
  generalize n * k = q at *
  have hd : (xs.drop p).length = q - p := by rw [List.length_drop, hxl]
  have ht : cur.take p = xs.take p := by rw [← hx, List.take_take]; congr 1; omega
  unfold over
  rw [hv, hd, show p + k + (q - p) = q + k by omega]
  have e1 : (cur.take (p + k) ++ xs.drop p ++ cur.drop (q + k)).take p = xs.take p := by
    rw [List.append_assoc, List.take_append_of_le_length (by simp; omega), List.take_take, ← ht]; congr 1; omega
  have e2 : (cur.take (p + k) ++ xs.drop p ++ cur.drop (q + k)).drop (p + k) = xs.drop p ++ cur.drop (q + k) := by
    rw [List.append_assoc, List.drop_append_of_le_length (by simp; omega), List.drop_of_length_le (by simp; omega), List.nil_append]
  have e3 : (xs.take p ++ vs ++ xs.drop p).length = q + k := by simp only [List.length_append, List.length_take, hd, hv, hxl]; omega
  rw [e1, e2, show xs.take p ++ vs ++ (xs.drop p ++ cur.drop (q + k)) = (xs.take p ++ vs ++ xs.drop p) ++ cur.drop (q + k) by simp only [List.append_assoc], List.take_append_of_le_length (by omega), List.take_of_length_le (by omega)]

/-- .. and in a new row: the new one laid in, then what stood behind. -/
theorem over_grow {cur xs vs : List Value} {i n k : Nat} (hxl : xs.length = n * k) (hx : cur.take (i * k) = xs.take (i * k)) (hi : i ≤ n) (hv : vs.length = k) (hl : (n + 1) * k ≤ cur.length) :
    (over (over cur (i * k) vs) ((i + 1) * k) (xs.drop (i * k))).take ((n + 1) * k) = xs.take (i * k) ++ vs ++ xs.drop (i * k) := by
  have h1 : i * k ≤ n * k := Nat.mul_le_mul_right _ hi
  have h2 : (i + 1) * k = i * k + k := by rw [Nat.add_mul, Nat.one_mul]
  have h3 : (n + 1) * k = n * k + k := by rw [Nat.add_mul, Nat.one_mul]
  rw [h3] at hl ⊢
  rw [h2]
  clear h2 h3
  generalize i * k = p at *
  generalize n * k = q at *
  have hd : (xs.drop p).length = q - p := by rw [List.length_drop, hxl]
  unfold over
  rw [hv, hd, show p + k + (q - p) = q + k by omega]
  have e1 : (cur.take p ++ vs ++ cur.drop (p + k)).take (p + k) = xs.take p ++ vs := by
    rw [List.take_append_of_le_length (by simp; omega), List.take_of_length_le (by simp; omega), hx]
  have e3 : (xs.take p ++ vs ++ xs.drop p).length = q + k := by simp only [List.length_append, List.length_take, hd, hv, hxl]; omega
  rw [e1, List.take_append_of_le_length (by omega), List.take_of_length_le (by omega)]

end Go.Proofs.Ytjkgjckkglfokab.Gr
