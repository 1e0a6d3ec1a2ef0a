/- numbers: an iterator held against the list that it tells. -/
import Derived.Test.YtjkgjckkglfokaaTell
import Derived.Test.YtjkgjckkglfokaaCnt
namespace Go.Proofs.Ytjkgjckkglfokaa
open Go.RowKit Go.Shelf
set_option linter.unusedVariables false
attribute [local go_sem] Oper.semAt_some

/-- The last store, and what was deferred. -/
theorem num_end {gf : Nat} {lb : Array Value} {xs : List Int} {R T : Nat → Prop} {Sq : World → Prop} (hs : IsSeq Try.prog gf lb encI xs R T Sq) {W W0 X : World} (hq : Sq W) (t0 : Tn (fun _ => False) W W0) {N r : Nat} (hN : W.heap.size ≤ N) (tX : Tn (fun b => T b ∨ (N ≤ b ∧ b ≤ r)) W0 X) (hqX : Sq X) {rb : Nat} (q3 : IsC X rb #[.bool false]) (hr : W.heap.size ≤ rb ∧ rb < W0.heap.size) :
    Tn T W ((X.setCell ⟨rb, 0, none⟩ (.bool true)).putObj W0.heap.size (.deferred none)) ∧ Sq ((X.setCell ⟨rb, 0, none⟩ (.bool true)).putObj W0.heap.size (.deferred none)) ∧ IsC ((X.setCell ⟨rb, 0, none⟩ (.bool true)).putObj W0.heap.size (.deferred none)) rb #[.bool true] := by
  have hz := t0.size
  have t1 : Tn (fun b => b = rb) X (X.setCell ⟨rb, 0, none⟩ (.bool true)) := (Tn.refl (fun b => b = rb) X).set (p := ⟨rb, 0, none⟩) (.inl rfl) _
  have t2 := Tn.put (X.setCell ⟨rb, 0, none⟩ (.bool true)) W0.heap.size (.deferred none)
  have hRl : ∀ b, R b → b < W.heap.size := hs.lt _ hq
  refine ⟨?_, hs.stab _ _ _ (hs.stab _ _ _ hqX t1 (fun b hb (e : b = rb) => by have := hRl b hb; omega)) t2 (fun b hb (e : b = W0.heap.size) => by have := hRl b hb; omega), ?_⟩
  · refine (((t0.mono (B := T) (fun _ _ h => h.elim)).trans tX (fun i hi h => h.elim id (fun h => by omega))).trans t1 (fun i hi (e : i = rb) => by omega)).trans t2 (fun i hi (e : i = W0.heap.size) => by omega)
  · obtain ⟨t, ht⟩ := q3
    refine ⟨t, ?_⟩
    refine (World.putObj_heap_other (by omega)).trans ?_
    simp [World.setCell, Array.getElem?_modify, ht]

set_option maxRecDepth 100000 in
set_option maxHeartbeats 2000000 in
theorem numbers_any {gf : Nat} {lb : Array Value} {xs : List Int} {R T : Nat → Prop} {Sq : World → Prop} (hs : IsSeq Try.prog gf lb encI xs R T Sq) (eg : ∀ args w, (callFunc gf args).run Try.prog w = .ok (.enter gf args) w)
    (W : World) (hq : Sq W) (a : Option Addr) (cap : Nat) (K : Nat → Prop) (hK : NumsAt W K a xs) (hKT : ∀ b, K b → ¬ T b) (hKl : ∀ b, K b → b < W.heap.size) (most : Int) (hl : xs.length < 4611686018427387904) :
    CallsIn Fence.wide 0 Try.prog 15 #[.func (.func gf) #[] lb, .slice a xs.length cap, .int .i64 most] W fun e Y => e = .returned (.bool true) ∧ Tn T W Y ∧ Sq Y := by
  obtain ⟨W0, hW0⟩ : ∃ W0, ((((W.alloc (.cells #[.slice a xs.length cap] 47)).alloc (.cells #[.int .i64 most] 3)).alloc (.cells #[.bool false] 4)).alloc (.cells #[.int .i64 0] 3)) = W0 := ⟨_, rfl⟩
  have HW0 : Hid (((((W.alloc (.cells #[.slice a xs.length cap] 47)).alloc (.cells #[.int .i64 most] 3)).alloc (.cells #[.bool false] 4)).alloc (.cells #[.int .i64 0] 3)) = W0) := hW0
  clear hW0
  have hq1 : ∀ w, (binOp .eql 50 (.func (.func gf) #[] lb) .nilFunc).run Try.prog w = .ok (.bool false) w := fun _ => by kernel_rfl
  have HSQ : Hid (Sq W) := hq
  have HS : Hid (IsSeq Try.prog gf lb encI xs R T Sq) := hs
  have HK : Hid (NumsAt W K a xs ∧ (∀ b, K b → ¬ T b) ∧ ∀ b, K b → b < W.heap.size) := ⟨hK, hKT, hKl⟩
  have hxs : (xs.length : Int) < 4611686018427387904 := by omega
  clear hq hs hK hKT hKl
  refine callsIn_of_wp_marks Try.func15 rfl trivial ?_ rfl
  simp only [Try.ntmps15, List.size_toArray, List.length_cons, List.length_nil, Nat.reduceAdd, Nat.reduceSub, Array.replicate_succ, Array.replicate_zero, List.push_toArray, List.append_toArray, List.nil_append, List.cons_append]
  gi_wp2_with fail
  rw [HW0.out]
  have hb0 : Below W.heap.size W W0 := by rw [← HW0.out]; exact ((((Below.refl _ _).alloc (Nat.le_refl _) _).alloc (by simp) _).alloc (by simp; omega) _).alloc (by simp; omega) _
  have t0 : Tn (fun _ => False) W W0 := Tn.of_below hb0 (Nat.le_refl _)
  have hy0 : IsC W0 W.heap.size #[.slice a xs.length cap] ∧ IsC W0 (W.heap.size + 1) #[.int .i64 most] ∧ IsC W0 (W.heap.size + 2) #[.bool false] ∧ IsC W0 (W.heap.size + 3) #[.int .i64 0] := by
    have h1 := isC_new W #[.slice a xs.length cap] 47
    have h2 := isC_new (W.alloc (.cells #[.slice a xs.length cap] 47)) #[.int .i64 most] 3
    have h3 := isC_new ((W.alloc (.cells #[.slice a xs.length cap] 47)).alloc (.cells #[.int .i64 most] 3)) #[.bool false] 4
    have h4 := isC_new (((W.alloc (.cells #[.slice a xs.length cap] 47)).alloc (.cells #[.int .i64 most] 3)).alloc (.cells #[.bool false] 4)) #[.int .i64 0] 3
    rw [← HW0.out]
    have n := fun (w : World) (o : Obj) => (Tn.refl (fun _ => False) w).alloc o
    refine ⟨((h1.tn (n _ _) id).tn (n _ _) id).tn (n _ _) id, ?_, ?_, ?_⟩
    · simpa using (h2.tn (n _ _) id).tn (n _ _) id
    · simpa using h3.tn (n _ _) id
    · simpa using h4
  have hs0 : W.heap.size + 3 < W0.heap.size := hy0.2.2.2.lt
  have hRl : ∀ b, R b → b < W.heap.size := HS.out.lt _ HSQ.out
  obtain ⟨I, hI⟩ : ∃ I : Inv Int, I = fun s C X => C = (fun b => W.heap.size ≤ b ∧ b ≤ W.heap.size + 3) ∧ IsC X W.heap.size #[.slice a xs.length cap] ∧ IsC X (W.heap.size + 1) #[.int .i64 most] ∧ IsC X (W.heap.size + 2) #[.bool false] ∧ IsC X (W.heap.size + 3) #[.int .i64 (s.length : Int)] ∧ NumsAt X K a xs ∧ (∀ b, K b → b < X.heap.size) := ⟨_, rfl⟩
  obtain ⟨Ix, hIx⟩ : ∃ Ix : Code → Inv Int, Ix = fun c s C X => c = .exit 0 ∧ I s C X ∧ (s.length : Int) = most ∧ 0 < s.length := ⟨_, rfl⟩
  have stI : Stb K I := by
    rw [hI]
    refine ⟨?_, ?_⟩
    · rintro s C X ⟨rfl, -, -, -, q4, -, q6⟩ b hb
      rcases hb with hb | hb
      · have := q4.lt; omega
      · exact q6 b hb
    · rintro s C A X Y ⟨rfl, q1, q2, q3, q4, q5, q6⟩ ht hA
      have hc : ∀ j, j ≤ 3 → ¬ A (W.heap.size + j) := fun j hj => hA _ (.inl ⟨by omega, by omega⟩)
      exact ⟨rfl, q1.tn ht (hc 0 (by omega)), q2.tn ht (hc 1 (by omega)), q3.tn ht (hc 2 (by omega)), q4.tn ht (hc 3 (by omega)), q5.tn ht (fun b hb => hA b (.inr hb)), fun b hb => Nat.lt_of_lt_of_le (q6 b hb) ht.size⟩
  have stIx : ∀ c, Stb K (Ix c) := fun c => by
    rw [hIx]
    exact ⟨fun s C X h => stI.1 s C X h.2.1, fun s C A X Y h ht hA => ⟨h.1, stI.2 s C A X Y h.2.1 ht hA, h.2.2⟩⟩
  have h0 : I [] (fun b => W.heap.size ≤ b ∧ b ≤ W.heap.size + 3) W0 := by
    rw [hI]
    exact ⟨rfl, hy0.1, hy0.2.1, hy0.2.2.1, hy0.2.2.2, HK.out.1.tn t0 (fun _ _ h => h), fun b hb => Nat.lt_of_lt_of_le (HK.out.2.2 b hb) t0.size⟩
  have hW : Sq W0 := HS.out.stab _ _ _ HSQ.out t0 (fun _ _ h => h)
  refine range_it (gf := gf) (lb := lb) rfl eg (encs := encI) (fun _ => rfl) HS.out hW I Ix K stI stIx (fun b => W.heap.size ≤ b ∧ b ≤ W.heap.size + 3) h0 (fun b hb hr => by have := hRl b hr; omega) HK.out.2.1
    (fun x a' => ∃ t13, a' = { tmps := t13, defers := [] } ∧ t13 = #[.func (.func gf) #[] lb, .slice a xs.length cap, .int .i64 most, undef, .pointer (some ⟨W.heap.size, 0, none⟩), .pointer (some ⟨W.heap.size + 1, 0, none⟩), .pointer (some ⟨W.heap.size + 2, 0, none⟩), .pointer (some ⟨W.heap.size + 3, 0, none⟩), .int .i64 x, .func (.func gf) #[] lb, .bool false, .func (.func gf) #[] lb, .int .i64 x, undef, undef, undef, undef, undef, undef, undef, undef, undef, undef, undef, undef, undef, undef, undef, undef, undef, undef, undef, undef, undef, undef, undef, undef, undef, undef, undef, undef, undef, undef])
    ?assign ?body ?done ?stop
  case assign =>
    intro l2 x X Kc hK
    unfold encI
    gi_wp2
  case body =>
    rintro l3 pre x a' C X hpre hIX ⟨_, rfl, rfl⟩
    have hIX' := hIX
    rw [hI] at hIX
    obtain ⟨rfl, q1, q2, q3, q4, q5, q6⟩ := hIX
    have hx : xs[pre.length]? = some x := by
      obtain ⟨t, rfl⟩ := hpre
      simp
    have hlt : pre.length < xs.length := (List.getElem?_eq_some_iff.1 hx).1
    obtain ⟨g, o, rfl, g1, g2, g3⟩ := q5 _ x hx
    have c1 : X.cell? ⟨W.heap.size, 0, none⟩ = some (.slice (some ⟨g, o, none⟩) xs.length cap) := q1.cell 0
    have c2 : X.cell? ⟨W.heap.size + 1, 0, none⟩ = some (.int .i64 most) := q2.cell 0
    have c4 : X.cell? ⟨W.heap.size + 3, 0, none⟩ = some (.int .i64 (pre.length : Int)) := q4.cell 0
    have f4 := q4.frozen 0
    have l4 := q4.lt
    have hgn : g < W.heap.size := HK.out.2.2 g g1
    have hkl : ¬ (xs.length : Int) ≤ (pre.length : Int) := by omega
    have hk0 : (0 : Int) ≤ (pre.length : Int) := by omega
    have hkl2 : (pre.length : Int) < (xs.length : Int) := by omega
    have hxx : (x == x) = true := by simp
    have HX : Hid (I pre (fun b => W.heap.size ≤ b ∧ b ≤ W.heap.size + 3) X) := hIX'
    have HQ4 : Hid (IsC X (W.heap.size + 3) #[.int .i64 (pre.length : Int)]) := q4
    obtain ⟨k, hk⟩ : ∃ k, k = pre.length := ⟨_, rfl⟩
    rw [← hk] at c4 g3 hkl hk0 hkl2 HQ4
    have HKK : Hid (k = pre.length) := hk
    obtain ⟨X1, hX1⟩ : ∃ X1, X.setCell ⟨W.heap.size + 3, 0, none⟩ (.int .i64 ((k : Int) + 1)) = X1 := ⟨_, rfl⟩
    have HX1 : Hid (X.setCell ⟨W.heap.size + 3, 0, none⟩ (.int .i64 ((k : Int) + 1)) = X1) := hX1
    have t1 : Tn (fun b => b = W.heap.size + 3) X X1 := by rw [← hX1]; exact (Tn.refl (fun b => b = W.heap.size + 3) X).set (p := ⟨W.heap.size + 3, 0, none⟩) (.inl rfl) _
    have HG : Hid (I (pre ++ [x]) (fun b => W.heap.size ≤ b ∧ b ≤ W.heap.size + 3) X1 ∧ Tn (fun b => W.heap.size ≤ b ∧ b ≤ W.heap.size + 3) X X1) := by
      refine ⟨?_, t1.mono (fun b _ (e : b = W.heap.size + 3) => by omega)⟩
      rw [hI]
      refine ⟨rfl, q1.tn t1 (by omega), q2.tn t1 (by omega), q3.tn t1 (by omega), ?_, q5.tn t1 (fun b hb (e : b = W.heap.size + 3) => by have := HK.out.2.2 b hb; omega), fun b hb => Nat.lt_of_lt_of_le (q6 b hb) t1.size⟩
      obtain ⟨t, ht⟩ := q4
      refine ⟨t, ?_⟩
      rw [← hX1, List.length_append, List.length_singleton, ← hk]
      simp [World.setCell, Array.getElem?_modify, ht]
    have HL : Hid ((pre ++ [x]).length = k + 1) := by show _ = _; rw [hk]; simp
    have HIX : Hid (Ix = fun c s C X => c = .exit 0 ∧ I s C X ∧ (s.length : Int) = most ∧ 0 < s.length) := hIx
    clear hIX' q1 q2 q3 q4 q5 q6 hx hpre hlt hk hX1 hI hIx stI stIx h0 hW t1
    by_cases hm : (k : Int) + 1 = most
    · have hmb : ((k : Int) + 1 == most) = true := by simp [hm]
      have HM : Hid ((k : Int) + 1 = most) := hm
      clear hm
      gi_wp2
      rw [HX1.out]
      refine ⟨_, HG.out.2, fun b hb => .inl hb, ?_⟩
      show Ix (.exit 0) _ _ _
      rw [HIX.out]
      exact ⟨rfl, HG.out.1, by rw [HL.out]; exact_mod_cast HM.out, by rw [HL.out]; omega⟩
    · have hmb : ((k : Int) + 1 == most) = false := by simp [hm]
      clear hm
      gi_wp2
      rw [HX1.out]
      exact ⟨_, HG.out.2, fun b hb => .inl hb, HG.out.1⟩
  case done =>
    intro C X hIX tX hqX hC hD nD
    rw [hI] at hIX
    obtain ⟨rfl, q1, q2, q3, q4, q5, q6⟩ := hIX
    have HE := num_end HS.out HSQ.out t0 (Nat.le_refl _) tX hqX q3 ⟨by omega, by omega⟩
    have c1 : X.cell? ⟨W.heap.size, 0, none⟩ = some (.slice a xs.length cap) := q1.cell 0
    have c2 : X.cell? ⟨W.heap.size + 1, 0, none⟩ = some (.int .i64 most) := q2.cell 0
    have c3 : X.cell? ⟨W.heap.size + 2, 0, none⟩ = some (.bool false) := q3.cell 0
    have c4 : X.cell? ⟨W.heap.size + 3, 0, none⟩ = some (.int .i64 (xs.length : Int)) := q4.cell 0
    have f3 := q3.frozen 0
    have l3 := q3.lt
    have l4 := q4.lt
    have hxx : ((xs.length : Int) == (xs.length : Int)) = true := by simp
    have HHE : Hid _ := HE
    have HDD : Hid (X.heap[W0.heap.size]? = some (.deferred (some []))) := hD
    clear hI hIx q1 q2 q3 q4 q5 q6 HE hD
    gi_wp2
    have hD2 : (X.setCell ⟨W.heap.size + 2, 0, none⟩ (.bool true)).heap[W0.heap.size]? = some (.deferred (some [])) := (Below.heap_setCell _ _ _ _ (by simp; omega)).trans HDD.out
    refine ⟨by simp, .inl ⟨_, _, rfl, run_takeDeferred hD2, ?_⟩⟩
    exact ⟨_, res_bool rfl _ _ (W.heap.size + 2) _ rfl (HHE.out.2.2.cell 0), rfl, HHE.out.1, HHE.out.2.1⟩
  case stop =>
    intro c pre C X hpre hIX tX hqX hC hD nD
    rw [hIx] at hIX
    obtain ⟨rfl, hIX, hm, hp⟩ := hIX
    rw [hI] at hIX
    obtain ⟨rfl, q1, q2, q3, q4, q5, q6⟩ := hIX
    have HE := num_end HS.out HSQ.out t0 (Nat.le_refl _) tX hqX q3 ⟨by omega, by omega⟩
    have c1 : X.cell? ⟨W.heap.size, 0, none⟩ = some (.slice a xs.length cap) := q1.cell 0
    have c2 : X.cell? ⟨W.heap.size + 1, 0, none⟩ = some (.int .i64 most) := q2.cell 0
    have c3 : X.cell? ⟨W.heap.size + 2, 0, none⟩ = some (.bool false) := q3.cell 0
    have c4 : X.cell? ⟨W.heap.size + 3, 0, none⟩ = some (.int .i64 (pre.length : Int)) := q4.cell 0
    have f3 := q3.frozen 0
    have l3 := q3.lt
    have l4 := q4.lt
    have HHE : Hid _ := HE
    have HDD : Hid (X.heap[W0.heap.size]? = some (.deferred (some []))) := hD
    have hmb : ((pre.length : Int) == most) = true := by simp [hm]
    have hm0 : (0 : Int) < most := by omega
    clear hI hIx q1 q2 q3 q4 q5 q6 HE hD hm
    by_cases hxx : ((pre.length : Int) == (xs.length : Int)) = true
    · gi_wp2
      have hD2 : (X.setCell ⟨W.heap.size + 2, 0, none⟩ (.bool true)).heap[W0.heap.size]? = some (.deferred (some [])) := (Below.heap_setCell _ _ _ _ (by simp; omega)).trans HDD.out
      refine ⟨by simp, .inl ⟨_, _, rfl, run_takeDeferred hD2, ?_⟩⟩
      exact ⟨_, res_bool rfl _ _ (W.heap.size + 2) _ rfl (HHE.out.2.2.cell 0), rfl, HHE.out.1, HHE.out.2.1⟩
    · have hxx' : ((pre.length : Int) == (xs.length : Int)) = false := by simpa using hxx
      clear hxx
      gi_wp2
      have hD2 : (X.setCell ⟨W.heap.size + 2, 0, none⟩ (.bool true)).heap[W0.heap.size]? = some (.deferred (some [])) := (Below.heap_setCell _ _ _ _ (by simp; omega)).trans HDD.out
      refine ⟨by simp, .inl ⟨_, _, rfl, run_takeDeferred hD2, ?_⟩⟩
      exact ⟨_, res_bool rfl _ _ (W.heap.size + 2) _ rfl (HHE.out.2.2.cell 0), rfl, HHE.out.1, HHE.out.2.1⟩

end Go.Proofs.Ytjkgjckkglfokaa
