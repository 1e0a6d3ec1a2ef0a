/- stretch: some of what an iterator tells, behind others. -/
import Derived.Test.YtjkgjckkglfokaaLis
import Derived.Test.YtjkgjckkglfokaaMost
import Derived.Test.YtjkgjckkglfokaaMk
namespace Go.Proofs.Ytjkgjckkglfokaa
open Go.RowKit Go.Shelf
set_option linter.unusedVariables false
attribute [local go_sem] Oper.semAt_some

/-- Under way: so many are still to be passed over; what came behind them, in a row of one's own. -/
def Row2 (N bx lx k : Nat) : Inv Int := fun s C X => ∃ a c, C = (fun b => b = bx ∨ b = lx ∨ (Value.slice a (s.drop k).length c).ownBlock = some b) ∧ IsC X bx #[.int .i64 ((k - s.length : Nat) : Int)] ∧ IsC X lx #[.slice a (s.drop k).length c] ∧ X.ownsRow N 3 1 (.slice a (s.drop k).length c) (s.drop k).length (ivs (s.drop k)) ∧ N ≤ X.heap.size
theorem Row2.stb {N bx lx k : Nat} : Stb (fun _ => False) (Row2 N bx lx k) := by
  refine ⟨?_, ?_⟩
  · rintro s C X ⟨a, c, rfl, q1, q2, q3, -⟩ b hb
    rcases hb with (rfl | rfl | hb) | hb
    · exact q1.lt
    · exact q2.lt
    · exact (own_block_lt q3 b hb).2
    · exact hb.elim
  · rintro s C A X Y ⟨a, c, rfl, q1, q2, q3, q4⟩ ht hA
    exact ⟨a, c, rfl, q1.tn ht (hA _ (.inl (.inl rfl))), q2.tn ht (hA _ (.inl (.inr (.inl rfl)))), own_of_block q3 (fun k hk => ht.block k (own_block_lt q3 k hk).2 (hA k (.inl (.inr (.inr hk))))), Nat.le_trans q4 ht.size⟩
theorem no_stb : ∀ c : Code, Stb (fun _ => False) (fun (_ : List Int) (_ : Nat → Prop) (_ : World) => False) := fun _ => ⟨fun _ _ _ h => h.elim, fun _ _ _ _ _ h => h.elim⟩

theorem own_weak {w : World} {b b' : Nat} {e : TypeId} {size : Nat} {v : Value} {n : Nat} {xs : List Value} (h : w.ownsRow b e size v n xs) (hb : b' ≤ b) : w.ownsRow b' e size v n xs := by
  refine ⟨h.1, ?_⟩
  rcases h.2 with hn | ⟨g, cap, cur, rfl, h1, r⟩
  · exact .inl hn
  · exact .inr ⟨g, cap, cur, rfl, Nat.le_trans hb h1, r⟩

def StrP (L : List Int) (T : Nat → Prop) (Sq : World → Prop) (W : World) (e : Ending) (Y : World) : Prop :=
  ∃ a c, e = .returned (.slice a L.length c) ∧ Y.ownsRow W.heap.size 3 1 (.slice a L.length c) L.length (ivs L) ∧ Tn T W Y ∧ Sq Y

set_option maxRecDepth 100000 in
set_option maxHeartbeats 2000000 in
theorem stretch_any {gf : Nat} {lb : Array Value} {xs : List Int} {R T : Nat → Prop} {Sq : World → Prop} (hs : IsSeq Try.prog gf lb encI xs R T Sq) (eg : ∀ args w, (callFunc gf args).run Try.prog w = .ok (.enter gf args) w)
    (W : World) (hq : Sq W) (k n : Nat) (hn : 1 ≤ n) (hkn : k + n < 9223372036854775808) (hl : xs.length < 1099511627776) :
    CallsIn Fence.wide 0 Try.prog 54 #[.func (.func gf) #[] lb, .int .i64 (k : Int), .int .i64 (n : Int)] W (StrP ((xs.take (k + n)).drop k) T Sq W) := by
  obtain ⟨W1, hW1⟩ : ∃ W1, (W.alloc (.cells #[.int .i64 (k : Int)] 3)).alloc (.cells #[.slice none 0 0] 47) = W1 := ⟨_, rfl⟩
  have hs1 : W1.heap.size = W.heap.size + 2 := by rw [← hW1]; simp
  obtain ⟨W0, hW0⟩ : ∃ W0, (W1.alloc (.cells #[.func (.func gf) #[] lb] 50)).alloc (.cells #[.int .i64 ((k + n : Nat) : Int)] 3) = W0 := ⟨_, rfl⟩
  have tA : Tn (fun _ => False) W W1 := by rw [← hW1]; exact ((Tn.refl _ _).alloc _).alloc _
  have tB : Tn (fun _ => False) W1 W0 := by rw [← hW0]; exact ((Tn.refl _ _).alloc _).alloc _
  have t0 : Tn (fun _ => False) W W0 := tA.trans tB (fun _ _ h => h)
  have y1 : IsC W1 W.heap.size #[.int .i64 (k : Int)] ∧ IsC W1 (W.heap.size + 1) #[.slice none 0 0] := by
    rw [← hW1]
    refine ⟨(isC_new W _ _).tn ((Tn.refl (fun _ => False) _).alloc _) id, ?_⟩
    simpa using isC_new (W.alloc (.cells #[.int .i64 (k : Int)] 3)) #[.slice none 0 0] 47
  have y2 : IsC W0 (W.heap.size + 2) #[.func (.func gf) #[] lb] ∧ IsC W0 (W.heap.size + 3) #[.int .i64 ((k + n : Nat) : Int)] := by
    have h1 := isC_new W1 #[.func (.func gf) #[] lb] 50
    have h2 := isC_new (W1.alloc (.cells #[.func (.func gf) #[] lb] 50)) #[.int .i64 ((k + n : Nat) : Int)] 3
    rw [hs1] at h1
    rw [show (W1.alloc (.cells #[.func (.func gf) #[] lb] 50)).heap.size = W.heap.size + 3 by simp [hs1]] at h2
    rw [← hW0]
    exact ⟨h1.tn ((Tn.refl (fun _ => False) _).alloc _) id, h2⟩
  have hRl : ∀ b, R b → b < W.heap.size := hs.lt _ hq
  have hmost := most_seq hs eg (sb := W.heap.size + 2) (mb := W.heap.size + 3) (n := k + n) (by omega) hkn (fun h => by have := hRl _ h; omega) (fun h => by have := hRl _ h; omega)
  have hmk := mk_most W1 gf lb ((k + n : Nat) : Int)
  rw [hW0, hs1] at hmk
  have HM : Hid (IsSeq Try.prog 64 #[.pointer (some ⟨W.heap.size + 2, 0, none⟩), .pointer (some ⟨W.heap.size + 3, 0, none⟩)] encI (xs.take (k + n)) (fun b => R b ∨ b = W.heap.size + 2 ∨ b = W.heap.size + 3) T (fun W0 => Sq W0 ∧ IsC W0 (W.heap.size + 2) #[.func (.func gf) #[] lb] ∧ IsC W0 (W.heap.size + 3) #[.int .i64 ((k + n : Nat) : Int)])) := hmost
  have HSW : Hid (Sq W0 ∧ IsC W0 (W.heap.size + 2) #[.func (.func gf) #[] lb] ∧ IsC W0 (W.heap.size + 3) #[.int .i64 ((k + n : Nat) : Int)]) := ⟨hs.stab _ _ _ hq t0 (fun _ _ h => h), y2⟩
  have HC1 : Hid (IsC W0 W.heap.size #[.int .i64 (k : Int)] ∧ IsC W0 (W.heap.size + 1) #[.slice none 0 0]) := ⟨y1.1.tn tB id, y1.2.tn tB id⟩
  have HT0 : Hid (Tn (fun _ => False) W W0 ∧ W.heap.size + 4 ≤ W0.heap.size) := ⟨t0, by have := y2.2.lt; omega⟩
  have c0 : W1.cell? ⟨W.heap.size, 0, none⟩ = some (.int .i64 (k : Int)) := y1.1.cell 0
  have HS : Hid (IsSeq Try.prog gf lb encI xs R T Sq) := hs
  have HW1 : Hid ((W.alloc (.cells #[.int .i64 (k : Int)] 3)).alloc (.cells #[.slice none 0 0] 47) = W1) := hW1
  have HRL : Hid (∀ b, R b → b < W.heap.size) := hRl
  have hkk : (k : Int) + (n : Int) < 9223372036854775808 := by omega
  rw [show ((k + n : Nat) : Int) = (k : Int) + (n : Int) by omega] at hmk
  clear hs hq tA tB t0 y1 y2 hRl hmost hW1 hW0
  refine callsIn_of_wp_marks Try.func54 rfl trivial ?_ rfl
  simp only [Try.ntmps54, List.size_toArray, List.length_cons, List.length_nil, Nat.reduceAdd, Nat.reduceSub, Array.replicate_succ, Array.replicate_zero, List.push_toArray, List.append_toArray, List.nil_append, List.cons_append]
  gi_wp2_with fail
  rw [HW1.out]
  refine ⟨trivial, rfl, (callsIn_wide.2 hmk).mono ?_⟩
  rintro e w' ⟨rfl, rfl⟩
  have em := enters_of Try.func64 (by kernel_rfl) rfl
  gi_wp2_with fail
  rename_i Kf hKf
  have HK : Hid _ := hKf
  clear hKf
  have hN : W.heap.size + 4 ≤ w'.heap.size := HT0.out.2
  have h0 : Row2 (W.heap.size + 4) W.heap.size (W.heap.size + 1) k [] (fun b => b = W.heap.size ∨ b = W.heap.size + 1 ∨ (Value.slice none 0 0).ownBlock = some b) w' := ⟨none, 0, by simp, by simpa using HC1.out.1, by simpa using HC1.out.2, ⟨by simp [ivs], .inl ⟨by simp, by simp⟩⟩, hN⟩
  have hRl2 : ∀ b, (R b ∨ b = W.heap.size + 2 ∨ b = W.heap.size + 3) → b < w'.heap.size := HM.out.lt _ HSW.out
  refine range_it (gf := 64) rfl (fun args w => em args w) (encs := encI) (fun _ => rfl) HM.out HSW.out (Row2 (W.heap.size + 4) W.heap.size (W.heap.size + 1) k) (fun _ _ _ _ => False) (fun _ => False) Row2.stb no_stb _ h0 (fun b hb hr => ?_) (fun b e _ => e)
    (fun x a' => a' = { tmps := #[.func (.func gf) #[] lb, .int .i64 (k : Int), .int .i64 (n : Int), undef, .pointer (some ⟨W.heap.size, 0, none⟩), undef, .slice none 0 0, .pointer (some ⟨W.heap.size + 1, 0, none⟩), .int .i64 x, .func (.func gf) #[] lb, .int .i64 (k : Int), .int .i64 (n : Int), .int .i64 ((k : Int) + (n : Int)), .func (.func 64) #[] #[.pointer (some ⟨W.heap.size + 2, 0, none⟩), .pointer (some ⟨W.heap.size + 2 + 1, 0, none⟩)], .int .i64 x, undef, undef, undef, undef, undef, undef, undef, undef, undef], defers := [] })
    ?assign ?body ?done ?stop
  · have hr' : R b → b < W.heap.size := HRL.out b
    rcases hb with rfl | rfl | hb
    · rcases hr with hr | hr | hr
      · exact absurd (hr' hr) (by omega)
      · omega
      · omega
    · rcases hr with hr | hr | hr
      · exact absurd (hr' hr) (by omega)
      · omega
      · omega
    · cases hb
  case assign =>
    intro l2 x X Kc hK
    unfold encI
    gi_wp2
    rfl
  case body =>
    rintro l3 pre x a' C X hpre ⟨a, c, rfl, q1, q2, q3, q4⟩ rfl
    have hlt : pre.length < xs.length := by
      obtain ⟨t, ht⟩ := hpre
      have h1 : (pre ++ [x] ++ t).length = (xs.take (k + n)).length := by rw [ht]
      rw [List.length_take] at h1
      simp at h1
      omega
    by_cases hm : pre.length < k
    · have hd : pre.drop k = [] := List.drop_eq_nil_of_le (by omega)
      have hd' : (pre ++ [x]).drop k = [] := List.drop_eq_nil_of_le (by simp; omega)
      obtain ⟨m, hme⟩ : ∃ m : Int, ((k - pre.length : Nat) : Int) = m := ⟨_, rfl⟩
      have hm0 : 0 < m := by omega
      have hm1 : m < 9223372036854775808 := by omega
      rw [hme] at q1
      rw [hd] at q2 q3
      have c1 : X.cell? ⟨W.heap.size, 0, none⟩ = some (.int .i64 m) := q1.cell 0
      have f1 := q1.frozen 0
      obtain ⟨X1, hX1⟩ : ∃ X1, X.setCell ⟨W.heap.size, 0, none⟩ (.int .i64 (m - 1)) = X1 := ⟨_, rfl⟩
      have t1 : Tn (fun b => b = W.heap.size) X X1 := by rw [← hX1]; exact (Tn.refl (fun b => b = W.heap.size) X).set (p := ⟨W.heap.size, 0, none⟩) (.inl rfl) _
      have HG : Hid (RPost (Row2 (W.heap.size + 4) W.heap.size (W.heap.size + 1) k) (fun _ _ _ _ => False) (pre ++ [x]) (fun b => b = W.heap.size ∨ b = W.heap.size + 1 ∨ (Value.slice a (pre.drop k).length c).ownBlock = some b) X .normal X1) := by
        refine ⟨_, t1.mono (fun _ _ h => .inl h), fun b hb => .inl hb, a, c, by rw [hd, hd'], ?_, ?_, ?_, Nat.le_trans q4 t1.size⟩
        · obtain ⟨t, ht⟩ := q1
          refine ⟨t, ?_⟩
          rw [show ((k - (pre ++ [x]).length : Nat) : Int) = m - 1 by simp; omega, ← hX1]
          simp [World.setCell, Array.getElem?_modify, ht]
        · rw [hd']
          exact q2.tn t1 (by omega)
        · rw [hd']
          exact own_of_block q3 (fun k hk => t1.block k (own_block_lt q3 k hk).2 (fun e => by have := (own_block_lt q3 k hk).1; omega))
      have HX1 : Hid (X.setCell ⟨W.heap.size, 0, none⟩ (.int .i64 (m - 1)) = X1) := hX1
      clear hX1 t1 hm q1 q2 q3 q4 hpre hlt hd hd'
      gi_wp2
      rw [HX1.out]
      exact HG.out
    · have hk0 : ((k - pre.length : Nat) : Int) = 0 := by omega
      have hk1 : ((k - (pre ++ [x]).length : Nat) : Int) = 0 := by simp; omega
      obtain ⟨s, hse⟩ : ∃ s, pre.drop k = s := ⟨_, rfl⟩
      have hd' : (pre ++ [x]).drop k = s ++ [x] := by rw [List.drop_append_of_le_length (by omega), hse]
      have hsl : s.length ≤ pre.length := by rw [← hse]; simp
      rw [hk0] at q1
      rw [hse] at q2 q3 ⊢
      have c0 : X.cell? ⟨W.heap.size, 0, none⟩ = some (.int .i64 0) := q1.cell 0
      have c1 : X.cell? ⟨W.heap.size + 1, 0, none⟩ = some (.slice a s.length c) := q2.cell 0
      have l1 := q2.lt
      obtain ⟨i0, hi0, hz0, hz1, hz2⟩ := infoI.parts
      have HQa : Hid ((X.alloc (.cells #[.int .i64 x] 3)).ownsRow (W.heap.size + 4) 3 1 (.slice a s.length c) s.length (ivs s)) := own_of_block q3 (fun k hk => Below.heap_alloc _ _ _ (own_block_lt q3 k hk).2)
      have hfin : ∀ Y la' lc', Y.ownsRow (W.heap.size + 4) 3 1 (.slice la' (s.length + 1) lc') (s.length + 1) (ivs s ++ [.int .i64 x]) → (X.alloc (.cells #[.int .i64 x] 3)).grownBy Y (Value.slice a s.length c).ownBlock → ((Value.slice la' (s.length + 1) lc').ownBlock = (Value.slice a s.length c).ownBlock ∨ (Value.slice la' (s.length + 1) lc').ownBlock = some (X.alloc (.cells #[.int .i64 x] 3)).heap.size) →
          Y.cell? ⟨W.heap.size + 1, 0, none⟩ = some (.slice a s.length c) ∧ Y.frozen? ⟨W.heap.size + 1, 0, none⟩ = false ∧ Hid (RPost (Row2 (W.heap.size + 4) W.heap.size (W.heap.size + 1) k) (fun _ _ _ _ => False) (pre ++ [x]) (fun b => b = W.heap.size ∨ b = W.heap.size + 1 ∨ (Value.slice a s.length c).ownBlock = some b) X .normal (Y.setCell ⟨W.heap.size + 1, 0, none⟩ (.slice la' (s.length + 1) lc'))) := by
        intro Y la' lc' r1 r2 r3
        have nb : ∀ k, (Value.slice a s.length c).ownBlock = some k → W.heap.size + 4 ≤ k := fun k hk => (own_block_lt q3 k hk).1
        have kp : ∀ k, k < X.heap.size → (Value.slice a s.length c).ownBlock ≠ some k → Y.heap[k]? = X.heap[k]? := fun k hk hne => (r2.block k (by simp; omega) (fun e => hne e.symm)).trans (Below.heap_alloc _ _ _ hk)
        have e1 : IsC Y W.heap.size #[.int .i64 0] := q1.of_block (kp _ q1.lt (fun e => by have := nb _ e; omega))
        have e2 : IsC Y (W.heap.size + 1) #[.slice a s.length c] := q2.of_block (kp _ q2.lt (fun e => by have := nb _ e; omega))
        have tY : Tn (fun b => (Value.slice a s.length c).ownBlock = some b) X Y := ⟨r2.os, r2.tape, r2.output, Nat.le_trans (by simp) r2.size, kp⟩
        have t2 : Tn (fun b => b = W.heap.size + 1) Y (Y.setCell ⟨W.heap.size + 1, 0, none⟩ (.slice la' (s.length + 1) lc')) := (Tn.refl (fun b => b = W.heap.size + 1) Y).set (p := ⟨W.heap.size + 1, 0, none⟩) (.inl rfl) _
        have hlen : (s ++ [x]).length = s.length + 1 := by simp
        have rb := own_block_lt r1
        refine ⟨e2.cell 0, e2.frozen 0, fun b => b = W.heap.size ∨ b = W.heap.size + 1 ∨ (Value.slice la' (s.length + 1) lc').ownBlock = some b, (tY.mono (fun _ _ h => .inr (.inr h))).trans t2 (fun _ _ h => .inr (.inl h)), fun b hb => ?_, la', lc', by rw [hd', hlen], ?_, ?_, ?_, Nat.le_trans q4 (Nat.le_trans tY.size t2.size)⟩
        · rcases hb with h | h | h
          · exact .inl (.inl h)
          · exact .inl (.inr (.inl h))
          · rcases r3 with r3 | r3
            · exact .inl (.inr (.inr (r3 ▸ h)))
            · rw [h] at r3
              simp at r3
              exact .inr (by omega)
        · rw [hk1]
          exact e1.tn t2 (by omega)
        · obtain ⟨t, ht⟩ := e2
          refine ⟨t, ?_⟩
          rw [hd', hlen]
          simp [World.setCell, Array.getElem?_modify, ht]
        · rw [hd', hlen, show ivs (s ++ [x]) = ivs s ++ [.int .i64 x] by simp [ivs]]
          exact own_of_block r1 (fun k hk => t2.block k (rb k hk).2 (fun e => by have := (rb k hk).1; omega))
      have hnews : ∀ (j : Nat) (u : Value), ([.int .i64 x] : List Value)[j]? = some u → (X.alloc (.cells #[.int .i64 x] 3)).cell? ((⟨X.heap.size, 0, none⟩ : Addr).add j) = some u := by
        intro j u hu
        cases j with
        | zero =>
          simp at hu
          subst hu
          exact (isC_new X #[.int .i64 x] 3).cell 0
        | succ j => simp at hu
      have hWX : W.heap.size + 4 ≤ X.heap.size := q4
      clear q1 q2 q3 q4 hpre hm hse
      have hlx : W.heap.size + 1 < X.heap.size + 1 := by omega
      gi_wp2_with (gi_at_builtin; (with_reducible refine wpListIn_append_own_at _ rfl _ _ 47 rfl (W.heap.size + 4) 3 i0 (.int .i64 0) 1 8 Try.underlying47 hi0 hz0 hz1 hz2 rfl (by decide) (.slice a s.length c) s.length (ivs s) ?p1 ?p2 ⟨X.heap.size, 0, none⟩ 1 1 [.int .i64 x] ?p3 ?p4 ?p5 ?p6 ?p7 ?p8 ?p9 ?p10); (case p1 => rfl); (case p2 => exact HQa.out); (case p3 => rfl); (case p4 => rfl); (case p5 => exact hnews); (case p6 => (intro u hu; simp at hu; subst hu; rfl)); (case p7 => (unfold maxLen; omega)); (case p8 => omega); (case p9 => (simp; omega)); intro v' Y q1 q2 q3 q4; obtain ⟨la', lc', rfl⟩ := own_slice q1; obtain ⟨s1, s2, s4⟩ := hfin Y la' lc' q1 q2 q4; clear q1 q2 q3 q4 hfin)
      exact s4.out
  case done =>
    rintro C X ⟨a, c, rfl, q1, q2, q3, q4⟩ tX hqX hC hD nD
    obtain ⟨L, hL⟩ : ∃ L, (xs.take (k + n)).drop k = L := ⟨_, rfl⟩
    rw [hL] at q2 q3 hC nD
    have tP : Tn (fun k => k = w'.heap.size) X (X.putObj w'.heap.size (.deferred none)) := Tn.put _ _ _
    have c7 : X.cell? ⟨W.heap.size + 1, 0, none⟩ = some (.slice a L.length c) := q2.cell 0
    have HG : Hid (StrP L T Sq W (.returned (.slice a L.length c)) (X.putObj w'.heap.size (.deferred none))) := by
      refine ⟨a, c, rfl, own_weak (own_of_block q3 (fun k hk => tP.block k (own_block_lt q3 k hk).2 (fun (e : k = w'.heap.size) => nD (.inr (.inr (e ▸ hk)))))) (by omega), ((HT0.out.1.mono (fun _ _ h => h.elim)).trans (tX.mono (fun _ _ h => h)) (fun i hi h => ?_)).trans tP (fun i hi (e : i = w'.heap.size) => by omega), HS.out.stab _ _ _ hqX.1 tP (fun b hb (e : b = w'.heap.size) => by have := HRL.out b hb; omega)⟩
      rcases h with h | h | h | h
      · exact h
      · omega
      · omega
      · cases h
    clear q1 q2 q3 q4 tX hqX hC nD tP
    have hKf := HK.out
    rw [hL] at hKf
    gi_wp2
    refine ⟨by simp, .inl ⟨_, _, rfl, run_takeDeferred hD, ?_⟩⟩
    refine ⟨_, results_tmp rfl _ _ _, ?_⟩
    exact HG.out
  case stop =>
    rintro c pre C X hpre hF
    exact hF.elim


end Go.Proofs.Ytjkgjckkglfokaa
