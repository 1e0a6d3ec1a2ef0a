/- List: all that an iterator tells, gathered. -/
import Derived.Test.YtjkgjckkglfokabL02
import Derived.Maps.OwnIn
import Derived.Recover
import Derived.Test.YtjkgjckkglfokabL01
namespace Go.Proofs.Ytjkgjckkglfokab
open Go.RowKit Go.Shelf
set_option linter.unusedVariables false
set_option linter.unusedSimpArgs false
attribute [local go_sem] Oper.semAt_some

def InfoOf (P : Program) (e : TypeId) (z : Value) (size bytes : Nat) : Prop := (P.info? e).map (fun i => (i.zero, i.size, i.bytes)) = some (some z, size, bytes)

theorem InfoOf.parts {P : Program} {e : TypeId} {z : Value} {size bytes : Nat} (h : InfoOf P e z size bytes) : ∃ i, P.info? e = some i ∧ i.zero = some z ∧ i.size = size ∧ i.bytes = bytes := by
  unfold InfoOf at h
  cases hi : P.info? e with
  | none => rw [hi] at h; cases h
  | some i =>
    rw [hi] at h
    simp only [Option.map_some, Option.some.injEq, Prod.mk.injEq] at h
    exact ⟨i, rfl, h.1, h.2.1, h.2.2⟩
theorem infoI : InfoOf Try.prog 3 (.int .i64 0) 1 8 := by unfold InfoOf; kernel_rfl
theorem own_slice {w : World} {base : Nat} {e : TypeId} {size : Nat} {v : Value} {n : Nat} {xs : List Value} (h : w.ownsRow base e size v n xs) : ∃ a cap, v = .slice a n cap := by
  rcases h.2 with ⟨rfl, rfl⟩ | ⟨g, cap, cur, rfl, _⟩
  · exact ⟨_, _, rfl⟩
  · exact ⟨_, _, rfl⟩
theorem own_block_lt {w : World} {base : Nat} {e : TypeId} {size : Nat} {v : Value} {n : Nat} {xs : List Value} (h : w.ownsRow base e size v n xs) : ∀ k, v.ownBlock = some k → base ≤ k ∧ k < w.heap.size := by
  intro k hk
  rcases h.2 with ⟨rfl, rfl⟩ | ⟨g, cap, cur, rfl, hb, hh, _⟩
  · cases hk
  · simp only [Value.ownBlock, Option.some.injEq] at hk
    subst hk
    exact ⟨hb, (Array.getElem?_eq_some_iff.1 hh).1⟩
theorem own_of_block {w w' : World} {base : Nat} {e : TypeId} {size : Nat} {v : Value} {n : Nat} {xs : List Value} (h : w.ownsRow base e size v n xs) (hb : ∀ k, v.ownBlock = some k → w'.heap[k]? = w.heap[k]?) : w'.ownsRow base e size v n xs := by
  refine ⟨h.1, ?_⟩
  rcases h.2 with hn | ⟨g, cap, cur, rfl, hb', hh, r⟩
  · exact .inl hn
  · exact .inr ⟨g, cap, cur, rfl, hb', (hb g rfl).trans hh, r⟩
def ivs (s : List Int) : List Value := s.map (fun x => .int .i64 x)
/-- A list under way, in a row of one's own. -/
def Row1 (N lbx gbx mbx : Nat) (most : Int) : Inv Int := fun s C X => ∃ a c, C = (fun b => b = lbx ∨ b = gbx ∨ (Value.slice a s.length c).ownBlock = some b) ∧ IsC X lbx #[.slice a s.length c] ∧ X.ownsRow N 3 1 (.slice a s.length c) s.length (ivs s) ∧ IsC X gbx #[.bool false] ∧ IsC X mbx #[.int .i64 most] ∧ (s.length : Int) ≤ most ∧ N ≤ X.heap.size
theorem Row1.stb {N lbx gbx mbx : Nat} {most : Int} : Stb (fun b => b = mbx) (Row1 N lbx gbx mbx most) := by
  refine ⟨?_, ?_⟩
  · rintro s C X ⟨a, c, rfl, q1, q2, q3, q4, -⟩ b hb
    rcases hb with (rfl | rfl | hb) | rfl
    · exact q1.lt
    · exact q3.lt
    · exact (own_block_lt q2 b hb).2
    · exact q4.lt
  · rintro s C A X Y ⟨a, c, rfl, q1, q2, q3, q4, q5⟩ ht hA
    exact ⟨a, c, rfl, q1.tn ht (hA _ (.inl (.inl rfl))), own_of_block q2 (fun k hk => ht.block k (own_block_lt q2 k hk).2 (hA k (.inl (.inr (.inr hk))))), q3.tn ht (hA _ (.inl (.inr (.inl rfl)))), q4.tn ht (hA _ (.inr rfl)), q5.1, Nat.le_trans q5.2 ht.size⟩
/-- Too many. -/
def Long1 (gbx mbx : Nat) (most : Int) (n : Nat) (c : Code) : Inv Int := fun s C X => c = .ret ∧ C = (fun b => b = gbx) ∧ IsC X gbx #[.bool true] ∧ most < (n : Int) ∧ IsC X mbx #[.int .i64 most]
theorem Long1.stb {gbx mbx : Nat} {most : Int} {n : Nat} {c : Code} : Stb (fun b => b = mbx) (Long1 gbx mbx most n c) := by
  refine ⟨?_, ?_⟩
  · rintro s C X ⟨-, rfl, q, -, q2⟩ b hb
    rcases hb with rfl | rfl
    · exact q.lt
    · exact q2.lt
  · rintro s C A X Y ⟨q1, rfl, q2, q3, q4⟩ ht hA
    exact ⟨q1, rfl, q2.tn ht (hA _ (.inl rfl)), q3, q4.tn ht (hA _ (.inr rfl))⟩

def List1P (xs : List Int) (T : Nat → Prop) (Sq : World → Prop) (lbx gbx : Nat) (most : Int) (W : World) (e : Ending) (Y : World) : Prop :=
  (∃ v, e = .returned v) ∧ Tn (fun b => T b ∨ b = lbx ∨ b = gbx) W Y ∧ Sq Y ∧ (((xs.length : Int) ≤ most ∧ IsC Y gbx #[.bool false] ∧ ∃ a c, IsC Y lbx #[.slice a xs.length c] ∧ Y.ownsRow W.heap.size 3 1 (.slice a xs.length c) xs.length (ivs xs)) ∨ (most < (xs.length : Int) ∧ IsC Y gbx #[.bool true]))

set_option maxRecDepth 100000 in
set_option maxHeartbeats 2000000 in
theorem list1_any {gf : Nat} {lb : Array Value} {xs : List Int} {R T : Nat → Prop} {Sq : World → Prop} (hs : IsSeq Try.prog gf lb encI xs R T Sq) (eg : ∀ args w, (callFunc gf args).run Try.prog w = .ok (.enter gf args) w)
    (W : World) (hq : Sq W) (sb lbx mbx gbx : Nat) (most : Int) (hsb : IsC W sb #[.func (.func gf) #[] lb]) (h1 : IsC W lbx #[.slice none 0 0]) (h2 : IsC W mbx #[.int .i64 most]) (h3 : IsC W gbx #[.bool false]) (hm : 0 ≤ most)
    (n1 : ¬ R lbx) (n2 : ¬ R gbx) (n3 : ¬ R mbx) (d1 : lbx ≠ gbx) (d2 : lbx ≠ mbx) (d3 : gbx ≠ mbx) (hl : xs.length < 17592186044416) :
    CallsIn Fence.wide 0 Try.prog 28 #[.pointer (some ⟨sb, 0, none⟩), .pointer (some ⟨lbx, 0, none⟩), .pointer (some ⟨mbx, 0, none⟩), .pointer (some ⟨gbx, 0, none⟩)] W (List1P xs T Sq lbx gbx most W) := by
  have a1 : W.cell? ⟨sb, 0, none⟩ = some (.func (.func gf) #[] lb) := hsb.cell 0
  have HS : Hid (IsSeq Try.prog gf lb encI xs R T Sq) := hs
  have HSQ : Hid (Sq W) := hq
  have HB : Hid (IsC W lbx #[.slice none 0 0] ∧ IsC W mbx #[.int .i64 most] ∧ IsC W gbx #[.bool false]) := ⟨h1, h2, h3⟩
  have HN : Hid (¬ R lbx ∧ ¬ R gbx ∧ ¬ R mbx) := ⟨n1, n2, n3⟩
  have b1 := h1.lt
  have b2 := h2.lt
  have b3 := h3.lt
  have hRl : ∀ b, R b → b < W.heap.size := hs.lt _ hq
  have h0 : Row1 W.heap.size lbx gbx mbx most [] (fun b => b = lbx ∨ b = gbx ∨ (Value.slice none 0 0).ownBlock = some b) W := ⟨none, 0, rfl, h1, ⟨by simp [ivs], .inl ⟨rfl, rfl⟩⟩, h3, h2, by simpa using hm, Nat.le_refl _⟩
  clear hs hq hsb h1 h2 h3 n1 n2 n3
  refine callsIn_of_wp_marks Try.func28 rfl trivial ?_ rfl
  simp only [Try.ntmps28, List.size_toArray, List.length_cons, List.length_nil, Nat.reduceAdd, Nat.reduceSub, Array.replicate_succ, Array.replicate_zero, List.push_toArray, List.append_toArray, List.nil_append, List.cons_append]
  gi_wp2_with fail
  refine range_it (gf := gf) (lb := lb) rfl eg (encs := encI) (fun _ => rfl) HS.out HSQ.out (Row1 W.heap.size lbx gbx mbx most) (Long1 gbx mbx most xs.length) (fun b => b = mbx) Row1.stb (fun c => Long1.stb) _ h0 (fun b hb hr => ?_) (fun b (e : b = mbx) ht => HN.out.2.2 (e ▸ HS.out.sub b ht))
    (fun x a' => a' = { tmps := #[.pointer (some ⟨sb, 0, none⟩), .pointer (some ⟨lbx, 0, none⟩), .pointer (some ⟨mbx, 0, none⟩), .pointer (some ⟨gbx, 0, none⟩), .int .i64 x, .func (.func gf) #[] lb, .int .i64 x, undef, undef, undef, undef, undef, undef, undef, undef], defers := [] })
    ?assign ?body ?done ?stop
  · rcases hb with rfl | rfl | hb
    · exact HN.out.1 hr
    · exact HN.out.2.1 hr
    · cases hb
  case assign =>
    intro l2 x X Kc hK
    unfold encI
    gi_wp2
    rfl
  case body =>
    rintro l3 pre x a' C X hpre ⟨a, c, rfl, q1, q2, q3, q4, q5⟩ rfl
    have hlt : pre.length < xs.length := by
      obtain ⟨t, rfl⟩ := hpre
      simp
    have c1 : X.cell? ⟨lbx, 0, none⟩ = some (.slice a pre.length c) := q1.cell 0
    have c2 : X.cell? ⟨mbx, 0, none⟩ = some (.int .i64 most) := q4.cell 0
    have c3 : X.cell? ⟨gbx, 0, none⟩ = some (.bool false) := q3.cell 0
    have f3 := q3.frozen 0
    have l1 := q1.lt
    have l3 := q3.lt
    by_cases hm : (pre.length : Int) = most
    · have hmb : ((pre.length : Int) == most) = true := by simp [hm]
      obtain ⟨X1, hX1⟩ : ∃ X1, X.setCell ⟨gbx, 0, none⟩ (.bool true) = X1 := ⟨_, rfl⟩
      have t1 : Tn (fun b => b = gbx) X X1 := by rw [← hX1]; exact (Tn.refl (fun b => b = gbx) X).set (p := ⟨gbx, 0, none⟩) (.inl rfl) _
      have HG : Hid (RPost (Row1 W.heap.size lbx gbx mbx most) (Long1 gbx mbx most xs.length) (pre ++ [x]) (fun b => b = lbx ∨ b = gbx ∨ (Value.slice a pre.length c).ownBlock = some b) X .ret X1) := by
        refine ⟨fun b => b = gbx, t1.mono (fun _ _ h => .inr (.inl h)), fun b hb => .inl (.inr (.inl hb)), rfl, rfl, ?_, by omega, q4.tn t1 (fun e => d3 e.symm)⟩
        obtain ⟨t, ht⟩ := q3
        exact ⟨t, by rw [← hX1]; simp [World.setCell, Array.getElem?_modify, ht]⟩
      have HX1 : Hid (X.setCell ⟨gbx, 0, none⟩ (.bool true) = X1) := hX1
      clear hX1 t1 hm q1 q2 q3 q4 q5 hpre hlt
      gi_wp2
      rw [HX1.out]
      exact HG.out
    · have hmb : ((pre.length : Int) == most) = false := by simp [hm]
      have HQ : Hid (X.ownsRow W.heap.size 3 1 (.slice a pre.length c) pre.length (ivs pre)) := q2
      obtain ⟨i0, hi0, hz0, hz1, hz2⟩ := infoI.parts
      have HQa : Hid ((X.alloc (.cells #[.int .i64 x] 3)).ownsRow W.heap.size 3 1 (.slice a pre.length c) pre.length (ivs pre)) := own_of_block q2 (fun k hk => Below.heap_alloc _ _ _ (own_block_lt q2 k hk).2)
      have hWX : W.heap.size ≤ X.heap.size := q5.2
      have q50 := q5.1
      have hfin : ∀ Y la' lc', Y.ownsRow W.heap.size 3 1 (.slice la' (pre.length + 1) lc') (pre.length + 1) (ivs pre ++ [.int .i64 x]) → (X.alloc (.cells #[.int .i64 x] 3)).grownBy Y (Value.slice a pre.length c).ownBlock → ((Value.slice la' (pre.length + 1) lc').ownBlock = (Value.slice a pre.length c).ownBlock ∨ (Value.slice la' (pre.length + 1) lc').ownBlock = some (X.alloc (.cells #[.int .i64 x] 3)).heap.size) →
          Y.cell? ⟨lbx, 0, none⟩ = some (.slice a pre.length c) ∧ Y.frozen? ⟨lbx, 0, none⟩ = false ∧ Hid (RPost (Row1 W.heap.size lbx gbx mbx most) (Long1 gbx mbx most xs.length) (pre ++ [x]) (fun b => b = lbx ∨ b = gbx ∨ (Value.slice a pre.length c).ownBlock = some b) X .normal (Y.setCell ⟨lbx, 0, none⟩ (.slice la' (pre.length + 1) lc'))) := by
        intro Y la' lc' r1 r2 r3
        have nb : ∀ k, (Value.slice a pre.length c).ownBlock = some k → W.heap.size ≤ k := fun k hk => (own_block_lt q2 k hk).1
        have kp : ∀ k, k < X.heap.size → (Value.slice a pre.length c).ownBlock ≠ some k → Y.heap[k]? = X.heap[k]? := fun k hk hne => (r2.block k (by simp; omega) (fun e => hne e.symm)).trans (Below.heap_alloc _ _ _ hk)
        have e1 : IsC Y lbx #[.slice a pre.length c] := q1.of_block (kp lbx q1.lt (fun e => by have := nb _ e; omega))
        have e3 : IsC Y gbx #[.bool false] := q3.of_block (kp gbx q3.lt (fun e => by have := nb _ e; omega))
        have e4 : IsC Y mbx #[.int .i64 most] := q4.of_block (kp mbx q4.lt (fun e => by have := nb _ e; omega))
        have tY : Tn (fun b => (Value.slice a pre.length c).ownBlock = some b) X Y := ⟨r2.os, r2.tape, r2.output, Nat.le_trans (by simp) r2.size, kp⟩
        have t2 : Tn (fun b => b = lbx) Y (Y.setCell ⟨lbx, 0, none⟩ (.slice la' (pre.length + 1) lc')) := (Tn.refl (fun b => b = lbx) Y).set (p := ⟨lbx, 0, none⟩) (.inl rfl) _
        have hlen : (pre ++ [x]).length = pre.length + 1 := by simp
        have rb := own_block_lt r1
        refine ⟨e1.cell 0, e1.frozen 0, fun b => b = lbx ∨ b = gbx ∨ (Value.slice la' (pre.length + 1) lc').ownBlock = some b, (tY.mono (fun _ _ h => .inr (.inr h))).trans t2 (fun _ _ h => .inl h), fun b hb => ?_, la', lc', by rw [hlen], ?_, ?_, e3.tn t2 (fun e => d1 e.symm), e4.tn t2 (fun e => d2 e.symm), by rw [hlen]; omega, Nat.le_trans hWX (Nat.le_trans tY.size t2.size)⟩
        · rcases hb with h | h | h
          · exact .inl (.inl h)
          · exact .inl (.inr (.inl h))
          · rcases r3 with r3 | r3
            · exact .inl (.inr (.inr (r3 ▸ h)))
            · rw [h] at r3
              simp at r3
              exact .inr (by omega)
        · obtain ⟨t, ht⟩ := e1
          refine ⟨t, ?_⟩
          rw [hlen]
          simp [World.setCell, Array.getElem?_modify, ht]
        · rw [hlen, show ivs (pre ++ [x]) = ivs pre ++ [.int .i64 x] by simp [ivs]]
          exact own_of_block r1 (fun k hk => t2.block k (rb k hk).2 (fun e => by have := (rb k hk).1; omega))
      have hnews : ∀ (j : Nat) (u : Value), ([.int .i64 x] : List Value)[j]? = some u → (X.alloc (.cells #[.int .i64 x] 3)).cell? ((⟨X.heap.size, 0, none⟩ : Addr).add j) = some u := by
        intro j u hu
        cases j with
        | zero =>
          simp at hu
          subst hu
          exact (isC_new X #[.int .i64 x] 3).cell 0
        | succ j => simp at hu
      clear q1 q2 q3 q4 q5 hpre hm
      have hlx : lbx < X.heap.size + 1 := by omega
      have hgx : gbx < X.heap.size + 1 := by omega
      gi_wp2_with (gi_at_builtin; (with_reducible refine wpListIn_append_own_at _ rfl _ _ 22 rfl W.heap.size 3 i0 (.int .i64 0) 1 8 Try.underlying22 hi0 hz0 hz1 hz2 rfl (by decide) (.slice a pre.length c) pre.length (ivs pre) ?p1 ?p2 ⟨X.heap.size, 0, none⟩ 1 1 [.int .i64 x] ?p3 ?p4 ?p5 ?p6 ?p7 ?p8 ?p9 ?p10); (case p1 => rfl); (case p2 => exact HQa.out); (case p3 => rfl); (case p4 => rfl); (case p5 => exact hnews); (case p6 => (intro u hu; simp at hu; subst hu; rfl)); (case p7 => (unfold maxLen; omega)); (case p8 => omega); (case p9 => (simp; omega)); intro v' Y q1 q2 q3 q4; obtain ⟨la', lc', rfl⟩ := own_slice q1; obtain ⟨s1, s2, s4⟩ := hfin Y la' lc' q1 q2 q4; clear q1 q2 q3 q4 hfin)
      exact s4.out
  case done =>
    rintro C X ⟨a, c, rfl, q1, q2, q3, q4, q5, q6⟩ tX hqX hC hD nD
    have tP : Tn (fun k => k = W.heap.size) X (X.putObj W.heap.size (.deferred none)) := Tn.put _ _ _
    have HG : Hid (List1P xs T Sq lbx gbx most W (.returned (.tuple #[])) (X.putObj W.heap.size (.deferred none))) := by
      refine ⟨⟨_, rfl⟩, (tX.mono (fun k _ h => ?_)).trans tP (fun i hi (e : i = W.heap.size) => by omega), HS.out.stab _ _ _ hqX tP (fun b hb (e : b = W.heap.size) => by have := hRl b hb; omega), .inl ⟨q5, q3.tn tP (by omega), a, c, q1.tn tP (by omega), own_of_block q2 (fun k hk => tP.block k (own_block_lt q2 k hk).2 (fun (e : k = W.heap.size) => nD (.inr (.inr (e ▸ hk)))))⟩⟩
      rcases h with h | h | h | h
      · exact .inl h
      · exact .inr (.inl h)
      · exact .inr (.inr h)
      · cases h
    clear q1 q2 q3 q4 q5 q6 tX hqX hC nD tP
    gi_wp2
    refine ⟨by simp, .inl ⟨_, _, rfl, run_takeDeferred hD, ?_⟩⟩
    exact ⟨_, results_none rfl _ _ _, HG.out⟩
  case stop =>
    rintro c pre C X hpre ⟨rfl, rfl, q1, q2, q3⟩ tX hqX hC hD nD
    have tP : Tn (fun k => k = W.heap.size) X (X.putObj W.heap.size (.deferred none)) := Tn.put _ _ _
    have HG : Hid (List1P xs T Sq lbx gbx most W (.returned (.tuple #[])) (X.putObj W.heap.size (.deferred none))) := by
      refine ⟨⟨_, rfl⟩, (tX.mono (fun k _ h => ?_)).trans tP (fun i hi (e : i = W.heap.size) => by omega), HS.out.stab _ _ _ hqX tP (fun b hb (e : b = W.heap.size) => by have := hRl b hb; omega), .inr ⟨q2, q1.tn tP (by omega)⟩⟩
      rcases h with h | h | h | h
      · exact .inl h
      · exact .inr (.inl h)
      · exact .inr (.inr h)
      · cases h
    clear q1 q2 q3 tX hqX hC nD tP
    gi_wp2
    refine ⟨by simp, .inl ⟨_, _, rfl, run_takeDeferred hD, ?_⟩⟩
    exact ⟨_, results_none rfl _ _ _, HG.out⟩

end Go.Proofs.Ytjkgjckkglfokab

/- runs: a call whose panic would be caught. -/
namespace Go.Proofs.Ytjkgjckkglfokab
open Go.RowKit Go.Shelf
set_option linter.unusedVariables false
set_option linter.unusedSimpArgs false

theorem rec_idle (w : World) : CallsD Try.prog 49 #[] .returning w fun e u' w' => e = .returned (.tuple #[]) ∧ u' = .returning ∧ w' = w := by
  refine callsD_of_wpS Try.func49 rfl fun c₀ cs hu => ?_
  first
    | apply wpS_region
    | (apply wpS_seq; apply wpS_region)
  simp [wpOpsS, go_sem, recoverD, hu, Try.ntmps49]
  cases c₀
  simp_all [bodyPostS, results, Try.results49]

set_option maxRecDepth 100000 in
set_option maxHeartbeats 1000000 in
theorem runs_any (W : World) (mf : Nat) (ml : Array Value) (Q : World → Prop) (em : ∀ args w, (callFunc mf args).run Try.prog w = .ok (.enter mf args) w) (hc : Calls Try.prog mf ml W fun e Y => (∃ v, e = .returned v) ∧ Q Y) :
    Calls Try.prog 27 #[.func (.func mf) #[] ml] W fun e Y => e = .returned (.bool true) ∧ Q Y := by
  go_enter_defers Try.func27, Try.ntmps27
  go_wp2_with fail
  refine hc.mono ?_
  rintro e Y ⟨⟨v, rfl⟩, hq⟩
  have HQ : Hid (Q Y) := hq
  clear hq hc
  go_wp2
  refine leaves_cons (f := 49) (args := #[]) (by simp) (by simp [go_sem]) ?_
  refine (rec_idle _).mono ?_
  rintro e u' w6 ⟨rfl, rfl, rfl⟩
  exact ⟨_, results_tmp rfl _ _ _, rfl, HQ.out⟩

/-- What List answers: all of it, or that it is too long. -/
def ListP (xs : List Int) (T : Nat → Prop) (Sq : World → Prop) (most : Int) (W : World) (e : Ending) (Y : World) : Prop :=
  Tn T W Y ∧ Sq Y ∧ (((xs.length : Int) ≤ most ∧ ∃ a c, e = .returned (.tuple #[.slice a xs.length c, .int .i64 0]) ∧ Y.ownsRow W.heap.size 3 1 (.slice a xs.length c) xs.length (ivs xs)) ∨ (most < (xs.length : Int) ∧ e = .returned (.tuple #[.slice none 0 0, .int .i64 2])))

set_option maxRecDepth 100000 in
set_option maxHeartbeats 2000000 in
theorem list_any {gf : Nat} {lb : Array Value} {xs : List Int} {R T : Nat → Prop} {Sq : World → Prop} (hs : IsSeq Try.prog gf lb encI xs R T Sq) (eg : ∀ args w, (callFunc gf args).run Try.prog w = .ok (.enter gf args) w)
    (W : World) (hq : Sq W) (most : Int) (hm : 0 ≤ most) (hl : xs.length < 17592186044416) : Calls Try.prog 12 #[.func (.func gf) #[] lb, .int .i64 most] W (ListP xs T Sq most W) := by
  have hq1 : ∀ w, (binOp .eql 25 (.func (.func gf) #[] lb) .nilFunc).run Try.prog w = .ok (.bool false) w := fun _ => by kernel_rfl
  have hmf : ∀ (fn : Fn) (first cap : Array Value) (w : World), (Instr.makeFunc fn first cap).run Try.prog w = .ok (.func fn first cap) w := fun _ _ _ _ => rfl
  obtain ⟨W0, hW0⟩ : ∃ W0, ((((W.alloc (.cells #[.func (.func gf) #[] lb] 25)).alloc (.cells #[.int .i64 most] 3)).alloc (.cells #[.slice none 0 0] 22)).alloc (.cells #[.bool false] 4)) = W0 := ⟨_, rfl⟩
  have t0 : Tn (fun _ => False) W W0 := by rw [← hW0]; exact ((((Tn.refl _ _).alloc _).alloc _).alloc _).alloc _
  have hy0 : IsC W0 W.heap.size #[.func (.func gf) #[] lb] ∧ IsC W0 (W.heap.size + 1) #[.int .i64 most] ∧ IsC W0 (W.heap.size + 2) #[.slice none 0 0] ∧ IsC W0 (W.heap.size + 3) #[.bool false] := by
    have h1 := isC_new W #[.func (.func gf) #[] lb] 25
    have h2 := isC_new (W.alloc (.cells #[.func (.func gf) #[] lb] 25)) #[.int .i64 most] 3
    have h3 := isC_new ((W.alloc (.cells #[.func (.func gf) #[] lb] 25)).alloc (.cells #[.int .i64 most] 3)) #[.slice none 0 0] 22
    have h4 := isC_new (((W.alloc (.cells #[.func (.func gf) #[] lb] 25)).alloc (.cells #[.int .i64 most] 3)).alloc (.cells #[.slice none 0 0] 22)) #[.bool false] 4
    rw [← hW0]
    have n := fun (w : World) (o : Obj) => (Tn.refl (fun _ => False) w).alloc o
    refine ⟨((h1.tn (n _ _) id).tn (n _ _) id).tn (n _ _) id, ?_, ?_, ?_⟩
    · simpa using (h2.tn (n _ _) id).tn (n _ _) id
    · simpa using h3.tn (n _ _) id
    · simpa using h4
  have hRl : ∀ b, R b → b < W.heap.size := hs.lt _ hq
  have hl1 := list1_any hs eg W0 (hs.stab _ _ _ hq t0 (fun _ _ h => h)) W.heap.size (W.heap.size + 2) (W.heap.size + 1) (W.heap.size + 3) most hy0.1 hy0.2.2.1 hy0.2.1 hy0.2.2.2 hm (fun h => by have := hRl _ h; omega) (fun h => by have := hRl _ h; omega) (fun h => by have := hRl _ h; omega) (by omega) (by omega) (by omega) hl
  have hrun := runs_any W0 28 #[.pointer (some ⟨W.heap.size, 0, none⟩), .pointer (some ⟨W.heap.size + 2, 0, none⟩), .pointer (some ⟨W.heap.size + 1, 0, none⟩), .pointer (some ⟨W.heap.size + 3, 0, none⟩)] (fun Y => Tn (fun b => T b ∨ b = W.heap.size + 2 ∨ b = W.heap.size + 3) W0 Y ∧ Sq Y ∧ (((xs.length : Int) ≤ most ∧ IsC Y (W.heap.size + 3) #[.bool false] ∧ ∃ a c, IsC Y (W.heap.size + 2) #[.slice a xs.length c] ∧ Y.ownsRow W0.heap.size 3 1 (.slice a xs.length c) xs.length (ivs xs)) ∨ (most < (xs.length : Int) ∧ IsC Y (W.heap.size + 3) #[.bool true]))) (enters_of Try.func28 (by kernel_rfl) rfl) ((callsIn_wide (n := 0)).1 hl1)
  have HT0 : Hid (Tn (fun _ => False) W W0) := t0
  rw [← hW0] at hrun
  have HW0 : Hid (((((W.alloc (.cells #[.func (.func gf) #[] lb] 25)).alloc (.cells #[.int .i64 most] 3)).alloc (.cells #[.slice none 0 0] 22)).alloc (.cells #[.bool false] 4)) = W0) := hW0
  have hmb : ¬ most < 0 := by omega
  clear hl1 t0 hy0 hRl hs hq hW0
  go_enter Try.func12, Try.ntmps12
  go_wp2_with fail
  refine hrun.mono ?_
  rintro e Y ⟨rfl, h1, h2, h3⟩
  rw [HW0.out] at h1
  have HTY : Hid (Tn T W Y) := (HT0.out.mono (B := T) (fun _ _ h => h.elim)).trans h1 (fun i hi h => h.elim id (fun h => by omega))
  have HSY : Hid (Sq Y) := h2
  have hn1 : ∀ b w, (Op.unary UnOp.not (.bool b)).run Try.prog w = .ok (.bool (!b)) w := fun b _ => by cases b <;> kernel_rfl
  clear hrun h1 h2
  rcases h3 with ⟨g1, g2, a, c, g3, g4⟩ | ⟨g1, g2⟩
  · have c1 : Y.cell? ⟨W.heap.size + 3, 0, none⟩ = some (.bool false) := g2.cell 0
    have c2 : Y.cell? ⟨W.heap.size + 2, 0, none⟩ = some (.slice a xs.length c) := g3.cell 0
    have HO : Hid (Y.ownsRow W.heap.size 3 1 (.slice a xs.length c) xs.length (ivs xs)) := by
      rw [HW0.out] at g4
      refine ⟨g4.1, ?_⟩
      rcases g4.2 with hn | ⟨g, cap, cur, e, hb', r⟩
      · exact .inl hn
      · exact .inr ⟨g, cap, cur, e, Nat.le_trans HT0.out.size hb', r⟩
    clear g2 g3 g4
    go_wp2
    go_ret2
    exact ⟨HTY.out, HSY.out, .inl ⟨g1, a, c, rfl, HO.out⟩⟩
  · have c1 : Y.cell? ⟨W.heap.size + 3, 0, none⟩ = some (.bool true) := g2.cell 0
    clear g2
    go_wp2
    go_ret2
    exact ⟨HTY.out, HSY.out, .inr ⟨g1, rfl⟩⟩

end Go.Proofs.Ytjkgjckkglfokab

/- The functions that the law WalkLaws hands in. -/
namespace Go.Proofs.Ytjkgjckkglfokab
open Go.RowKit Go.Shelf
set_option linter.unusedVariables false
set_option linter.unusedSimpArgs false
attribute [local go_sem] Oper.semAt_some

def xr (s x : Int) : Int := bits .xor .i64 x s
set_option maxRecDepth 100000 in
set_option maxHeartbeats 1000000 in
theorem xora_fn {kb : Nat} {s : Int} : IsFn Try.prog 8 #[.pointer (some ⟨kb, 0, none⟩)] (fun x => .int .i64 (xr s x)) (fun b => b = kb) (fun W => IsC W kb #[.int .i64 s]) := by
  refine ⟨enters_of Try.func8 (by kernel_rfl) rfl, fun W h b hb => hb ▸ h.lt, isC_stab, fun W x h => ?_⟩
  have c1 : W.cell? ⟨kb, 0, none⟩ = some (.int .i64 s) := h.cell 0
  have hl := h.lt
  clear h
  simp only [List.append_toArray, List.cons_append, List.nil_append]
  go_enter Try.func8, Try.ntmps8
  go_wp2
  go_ret
  exact ⟨rfl, Below.refl _ _⟩
set_option maxRecDepth 100000 in
set_option maxHeartbeats 1000000 in
theorem xorb_fn {kb : Nat} {s : Int} : IsFn Try.prog 14 #[.pointer (some ⟨kb, 0, none⟩)] (fun x => .int .i64 (xr s x)) (fun b => b = kb) (fun W => IsC W kb #[.int .i64 s]) := by
  refine ⟨enters_of Try.func14 (by kernel_rfl) rfl, fun W h b hb => hb ▸ h.lt, isC_stab, fun W x h => ?_⟩
  have c1 : W.cell? ⟨kb, 0, none⟩ = some (.int .i64 s) := h.cell 0
  have hl := h.lt
  clear h
  simp only [List.append_toArray, List.cons_append, List.nil_append]
  go_enter Try.func14, Try.ntmps14
  go_wp2
  go_ret
  exact ⟨rfl, Below.refl _ _⟩
set_option maxRecDepth 100000 in
set_option maxHeartbeats 1000000 in
theorem xor2_fn {ka kb : Nat} {s t : Int} : IsFn Try.prog 15 #[.pointer (some ⟨ka, 0, none⟩), .pointer (some ⟨kb, 0, none⟩)] (fun x => .int .i64 (xr t (xr s x))) (fun b => b = ka ∨ b = kb) (fun W => IsC W ka #[.int .i64 s] ∧ IsC W kb #[.int .i64 t]) := by
  refine ⟨enters_of Try.func15 (by kernel_rfl) rfl, fun W h b hb => hb.elim (fun e => e ▸ h.1.lt) (fun e => e ▸ h.2.lt), fun _ _ _ h ht hA => ⟨h.1.tn ht (hA _ (.inl rfl)), h.2.tn ht (hA _ (.inr rfl))⟩, fun W x h => ?_⟩
  have c1 : W.cell? ⟨ka, 0, none⟩ = some (.int .i64 s) := h.1.cell 0
  have c2 : W.cell? ⟨kb, 0, none⟩ = some (.int .i64 t) := h.2.cell 0
  have hl := h.1.lt
  have hl2 := h.2.lt
  clear h
  simp only [List.append_toArray, List.cons_append, List.nil_append]
  go_enter Try.func15, Try.ntmps15
  go_wp2
  go_ret
  exact ⟨rfl, Below.refl _ _⟩
set_option maxRecDepth 100000 in
set_option maxHeartbeats 1000000 in
theorem odd_fn {kb : Nat} {s : Int} : IsFn Try.prog 9 #[.pointer (some ⟨kb, 0, none⟩)] (fun x => .bool (dvd0 s x)) (fun b => b = kb) (fun W => IsC W kb #[.int .i64 s]) := by
  refine ⟨enters_of Try.func9 (by kernel_rfl) rfl, fun W h b hb => hb ▸ h.lt, isC_stab, fun W x h => ?_⟩
  have c1 : W.cell? ⟨kb, 0, none⟩ = some (.int .i64 s) := h.cell 0
  have hl := h.lt
  have hd := divides_any W s x
  clear h
  simp only [List.append_toArray, List.cons_append, List.nil_append]
  go_enter Try.func9, Try.ntmps9
  go_wp2_with fail
  refine hd.mono ?_
  rintro e w' ⟨rfl, rfl⟩
  go_wp2
  go_ret
  exact ⟨rfl, Below.refl _ _⟩
set_option maxRecDepth 100000 in
set_option maxHeartbeats 1000000 in
theorem low_fn {kb : Nat} {s : Int} : IsFn Try.prog 11 #[.pointer (some ⟨kb, 0, none⟩)] (fun x => .bool (decide (x < s))) (fun b => b = kb) (fun W => IsC W kb #[.int .i64 s]) := by
  refine ⟨enters_of Try.func11 (by kernel_rfl) rfl, fun W h b hb => hb ▸ h.lt, isC_stab, fun W x h => ?_⟩
  have c1 : W.cell? ⟨kb, 0, none⟩ = some (.int .i64 s) := h.cell 0
  have hl := h.lt
  clear h
  simp only [List.append_toArray, List.cons_append, List.nil_append]
  go_enter Try.func11, Try.ntmps11
  go_wp2
  go_ret
  exact ⟨rfl, Below.refl _ _⟩
set_option maxRecDepth 100000 in
set_option maxHeartbeats 1000000 in
theorem both_fn {ka kb oa ob : Nat} {s t : Int} : IsFn Try.prog 17 #[.pointer (some ⟨oa, 0, none⟩), .pointer (some ⟨ob, 0, none⟩)] (fun x => .bool (dvd0 s x && decide (x < t))) (fun b => b = ka ∨ b = kb ∨ b = oa ∨ b = ob) (fun W => IsC W ka #[.int .i64 s] ∧ IsC W kb #[.int .i64 t] ∧ IsC W oa #[.func (.func 9) #[] #[.pointer (some ⟨ka, 0, none⟩)]] ∧ IsC W ob #[.func (.func 11) #[] #[.pointer (some ⟨kb, 0, none⟩)]]) := by
  refine ⟨enters_of Try.func17 (by kernel_rfl) rfl, fun W h b hb => ?_, fun _ _ _ h ht hA => ⟨h.1.tn ht (hA _ (.inl rfl)), h.2.1.tn ht (hA _ (.inr (.inl rfl))), h.2.2.1.tn ht (hA _ (.inr (.inr (.inl rfl)))), h.2.2.2.tn ht (hA _ (.inr (.inr (.inr rfl))))⟩, fun W x h => ?_⟩
  · rcases hb with rfl | rfl | rfl | rfl
    · exact h.1.lt
    · exact h.2.1.lt
    · exact h.2.2.1.lt
    · exact h.2.2.2.lt
  have c1 : W.cell? ⟨oa, 0, none⟩ = some (.func (.func 9) #[] #[.pointer (some ⟨ka, 0, none⟩)]) := h.2.2.1.cell 0
  have c2 : W.cell? ⟨ob, 0, none⟩ = some (.func (.func 11) #[] #[.pointer (some ⟨kb, 0, none⟩)]) := h.2.2.2.cell 0
  have hl := h.2.2.1.lt
  have hl2 := h.2.2.2.lt
  have h1 := (odd_fn (kb := ka) (s := s)).call W x h.1
  have HK : Hid (IsC W kb #[.int .i64 t] ∧ IsC W ob #[.func (.func 11) #[] #[.pointer (some ⟨kb, 0, none⟩)]]) := ⟨h.2.1, h.2.2.2⟩
  have e9 := (odd_fn (kb := ka) (s := s)).ent
  have e11 := (low_fn (kb := kb) (s := t)).ent
  clear h
  simp only [List.append_toArray, List.cons_append, List.nil_append] at h1 ⊢
  cases hd : dvd0 s x with
  | true =>
    rw [hd] at h1
    go_enter Try.func17, Try.ntmps17
    go_wp2_with fail
    refine h1.mono ?_
    rintro e w1 ⟨rfl, hb1⟩
    have t1 : Tn (fun _ => False) W w1 := Tn.of_below hb1 (Nat.le_refl _)
    have d2 : w1.cell? ⟨ob, 0, none⟩ = some (.func (.func 11) #[] #[.pointer (some ⟨kb, 0, none⟩)]) := (HK.out.2.tn t1 id).cell 0
    have h2 := (low_fn (kb := kb) (s := t)).call w1 x (HK.out.1.tn t1 id)
    simp only [List.append_toArray, List.cons_append, List.nil_append] at h2
    have HB : Hid (Below W.heap.size W w1) := hb1
    have hl3 : ob < w1.heap.size := Nat.lt_of_lt_of_le hl2 t1.size
    clear t1 hb1 c2 h1
    go_wp2_with fail
    refine h2.mono ?_
    rintro e w2 ⟨rfl, hb2⟩
    have HB2 : Hid (Below W.heap.size W w2) := HB.out.trans (hb2.mono HB.out.size)
    clear hb2 h2
    go_wp2
    go_ret
    exact ⟨by simp, HB2.out⟩
  | false =>
    rw [hd] at h1
    go_enter Try.func17, Try.ntmps17
    go_wp2_with fail
    refine h1.mono ?_
    rintro e w1 ⟨rfl, hb1⟩
    have HB : Hid (Below W.heap.size W w1) := hb1
    clear hb1 h1 c2
    go_wp2
    go_ret
    exact ⟨by simp, HB.out⟩

end Go.Proofs.Ytjkgjckkglfokab

/- The lists that the law WalkLaws makes. -/
namespace Go.Proofs.Ytjkgjckkglfokab
open Go.RowKit Go.Shelf
set_option linter.unusedVariables false
set_option linter.unusedSimpArgs false
attribute [local go_sem] Oper.semAt_some

set_option maxRecDepth 100000 in
set_option maxHeartbeats 2000000 in
theorem one_seq {xb ab : Nat} {x a : Int} : IsSeq Try.prog 7 #[.pointer (some ⟨xb, 0, none⟩), .pointer (some ⟨ab, 0, none⟩)] encI [xr a x] (fun b => b = xb ∨ b = ab) (fun _ => False) (fun W => IsC W xb #[.int .i64 x] ∧ IsC W ab #[.int .i64 a]) := by
  refine ⟨fun b hb => hb.elim, fun W h b hb => hb.elim (fun e => e ▸ h.1.lt) (fun e => e ▸ h.2.lt), fun _ _ _ h ht hA => ⟨h.1.tn ht (hA _ (.inl rfl)), h.2.tn ht (hA _ (.inr rfl))⟩, ?_⟩
  intro W l J Jx C0 D hq stJ stJx hY h0 hd hdT
  have c1 : W.cell? ⟨xb, 0, none⟩ = some (.int .i64 x) := hq.1.cell 0
  have c2 : W.cell? ⟨ab, 0, none⟩ = some (.int .i64 a) := hq.2.cell 0
  have hX := hY [] (xr a x) C0 W (List.prefix_refl _) h0
  have HQ : Hid ((IsC W xb #[.int .i64 x] ∧ IsC W ab #[.int .i64 a]) ∧ ∀ b, C0 b → ¬ (b = xb ∨ b = ab)) := ⟨hq, hd⟩
  have hro : Fence.wide.round = none := rfl
  unfold encI at hX
  obtain ⟨fn, tmps, assign, body, hy2, hR⟩ := hX
  clear hdT hY hd stJ stJx h0 hq
  unfold xr at hy2
  refine callsIn_of_wp Try.func7 rfl trivial ?_ rfl
  simp only [Try.ntmps7, List.size_toArray, List.length_cons, List.length_nil, Nat.reduceAdd, Nat.reduceSub, Array.replicate_succ, Array.replicate_zero, List.push_toArray, List.append_toArray, List.nil_append, List.cons_append]
  gi_wp2_with fail
  refine ⟨rfl, RoundIn.mono (F := Fence.wide) hR ?_⟩
  rintro e Y ⟨C', tY, hC', hJ2⟩
  obtain ⟨bv, rfl, hJ3⟩ := yes_no hJ2
  have HG : Hid (Tn (fun b => False ∨ C0 b) W Y ∧ (IsC Y xb #[.int .i64 x] ∧ IsC Y ab #[.int .i64 a]) ∧ ∃ C, (∀ b, C b → C0 b ∨ W.heap.size ≤ b) ∧ (J [xr a x] C Y ∨ ∃ pre, pre <+: [xr a x] ∧ Jx pre C Y)) := by
    refine ⟨tY.mono (fun _ _ h => .inr h), ⟨HQ.out.1.1.tn tY (fun h => HQ.out.2 _ h (.inl rfl)), HQ.out.1.2.tn tY (fun h => HQ.out.2 _ h (.inr rfl))⟩, C', hC', ?_⟩
    cases bv with
    | true => exact .inl (hJ3.1 rfl)
    | false => exact .inr ⟨_, List.prefix_refl _, hJ3.2 rfl⟩
  clear hJ2 hJ3 tY hC' hR
  gi_wp2
  go_end0
  exact ⟨⟨_, rfl⟩, HG.out⟩

set_option maxRecDepth 100000 in
set_option maxHeartbeats 2000000 in
theorem one_flat {ab : Nat} {a : Int} : IsFlat Try.prog 6 #[.pointer (some ⟨ab, 0, none⟩)] (fun x => [xr a x]) (fun b => b = ab) (fun W => IsC W ab #[.int .i64 a]) := by
  refine ⟨enters_of Try.func6 (by kernel_rfl) rfl, fun _ h b hb => hb ▸ h.lt, isC_stab, fun W x h => ?_⟩
  have hmf : ∀ (fn : Fn) (first cap : Array Value) (w : World), (Instr.makeFunc fn first cap).run Try.prog w = .ok (.func fn first cap) w := fun _ _ _ _ => rfl
  have HB : Hid (Below W.heap.size W (W.alloc (.cells #[.int .i64 x] 3))) := (Below.refl _ _).alloc (Nat.le_refl _) _
  have HC : Hid (IsC (W.alloc (.cells #[.int .i64 x] 3)) W.heap.size #[.int .i64 x] ∧ IsC (W.alloc (.cells #[.int .i64 x] 3)) ab #[.int .i64 a] ∧ ab < W.heap.size) := ⟨isC_new _ _ _, h.tn ((Tn.refl (fun _ => False) _).alloc _) id, h.lt⟩
  clear h
  simp only [List.append_toArray, List.cons_append, List.nil_append]
  go_enter Try.func6, Try.ntmps6
  go_wp2
  go_ret
  refine ⟨_, rfl, HB.out, fun l J Jx C0 D h1 h2 hY h3 h4 h5 => ?_⟩
  refine (tell_any (one_seq (xb := W.heap.size) (ab := ab) (x := x) (a := a)) (enters_of Try.func7 (by kernel_rfl) rfl) _ l J Jx C0 D ⟨HC.out.1, HC.out.2.1⟩ h1 h2 hY h3 (fun b hb e => by
    rcases e with e | e
    · have := h4 b (.inl hb); omega
    · exact h5 b hb e) (fun _ _ h => h)).mono ?_
  rintro e Y ⟨bv, q1, q2, -, C, q3, q4⟩
  exact ⟨bv, q1, q2.mono (fun _ _ h => h.elim False.elim .inr), C, q3, q4⟩

/-- What the law's counted list wants. -/
def Cq (lb nb cb : Nat) (la : Option Addr) (n cap : Nat) (K : Nat → Prop) (xs : List Int) (W : World) : Prop := IsC W lb #[.slice la n cap] ∧ IsC W nb #[.pointer (some ⟨cb, 0, none⟩)] ∧ (∃ k, IsC W cb #[.int .i64 k]) ∧ NumsAt W K la xs
/-- What the law holds all along. -/
structure St (N cb : Nat) (la : Option Addr) (n cap : Nat) (K : Nat → Prop) (xs : List Int) (a b : Int) (X : World) : Prop where
  cb2 : N + 2 ≤ cb
  kn : ∀ k, K k → k < N
  cq : Cq (cb + 1) (cb + 2) cb la n cap K xs X
  ea : IsC X N #[.int .i64 a]
  eb : IsC X (N + 1) #[.int .i64 b]
  oa : IsC X (cb + 3) #[.func (.func 9) #[] #[.pointer (some ⟨N, 0, none⟩)]]
  ob : IsC X (cb + 4) #[.func (.func 11) #[] #[.pointer (some ⟨N + 1, 0, none⟩)]]
theorem St.tn {N cb n cap : Nat} {la : Option Addr} {K : Nat → Prop} {xs : List Int} {a b : Int} {X Y : World} (h : St N cb la n cap K xs a b X) (t : Tn (fun b => b = cb) X Y) (hk : ∃ k, IsC Y cb #[.int .i64 k]) : St N cb la n cap K xs a b Y := by
  have h2 := h.cb2
  exact ⟨h2, h.kn, ⟨h.cq.1.tn t (by omega), h.cq.2.1.tn t (by omega), hk, h.cq.2.2.2.tn t (fun k hk e => by have := h.kn k hk; omega)⟩, h.ea.tn t (by omega), h.eb.tn t (by omega), h.oa.tn t (by omega), h.ob.tn t (by omega)⟩
theorem St.no {N cb n cap : Nat} {la : Option Addr} {K : Nat → Prop} {xs : List Int} {a b : Int} {X Y : World} (h : St N cb la n cap K xs a b X) (t : Tn (fun _ => False) X Y) : St N cb la n cap K xs a b Y :=
  h.tn (t.mono (fun _ _ h => h.elim)) (by obtain ⟨k, hk⟩ := h.cq.2.2.1; exact ⟨k, hk.tn t id⟩)
/-- The list's blocks, and those of the law. -/
def Cr (cb : Nat) (la : Option Addr) (K : Nat → Prop) (xs : List Int) : Nat → Prop := fun b => b = cb + 1 ∨ b = cb + 2 ∨ b = cb ∨ ∃ g o, la = some ⟨g, o, none⟩ ∧ K g ∧ xs ≠ [] ∧ b = g
theorem Cr.of {N cb n cap : Nat} {la : Option Addr} {K : Nat → Prop} {xs : List Int} {a b : Int} {X : World} (h : St N cb la n cap K xs a b X) {k : Nat} (hk : Cr cb la K xs k) : k < N ∨ (cb ≤ k ∧ k ≤ cb + 2) := by
  rcases hk with rfl | rfl | rfl | ⟨g, o, -, h1, -, rfl⟩
  · exact .inr ⟨by omega, by omega⟩
  · exact .inr ⟨by omega, by omega⟩
  · exact .inr ⟨by omega, by omega⟩
  · exact .inl (h.kn _ h1)
theorem cnt_seq {N cb n cap : Nat} {la : Option Addr} {K : Nat → Prop} {xs : List Int} {a b : Int} {X : World} (h : St N cb la n cap K xs a b X) (hn : xs.length = n) (hl : n < 4611686018427387904) :
    IsSeq Try.prog 26 #[.pointer (some ⟨cb + 1, 0, none⟩), .pointer (some ⟨cb + 2, 0, none⟩)] encI xs (Cr cb la K xs) (fun b => b = cb) (Cq (cb + 1) (cb + 2) cb la n cap K xs) := by
  subst hn
  exact counted_seq hl (fun e => by have := h.kn _ e; have := h.cb2; omega) (by omega) (by omega)

/-- What a list's call leaves. -/
def LsP (N cb : Nat) (la : Option Addr) (n cap : Nat) (K : Nat → Prop) (xs : List Int) (a b : Int) (ys : List Int) (X : World) (e : Ending) (Y : World) : Prop :=
  ∃ v c, e = .returned (.tuple #[.slice v ys.length c, .int .i64 0]) ∧ ys.length ≤ c ∧ NumsAt Y (fun b => b ≠ cb) v ys ∧ Tn (fun b => b = cb) X Y ∧ St N cb la n cap K xs a b Y
theorem list_of {N cb n cap : Nat} {la : Option Addr} {K : Nat → Prop} {xs : List Int} {a b : Int} {X X2 : World} (h : St N cb la n cap K xs a b X) (t : Tn (fun _ => False) X X2) {gf : Nat} {lb : Array Value} {ys : List Int} {R : Nat → Prop} {Sq : World → Prop} (hs : IsSeq Try.prog gf lb encI ys R (fun b => b = cb) Sq) (eg : ∀ args w, (callFunc gf args).run Try.prog w = .ok (.enter gf args) w)
    (hq : Sq X2) (hk : ∀ Y, Sq Y → ∃ k, IsC Y cb #[.int .i64 k]) (hy : ys.length ≤ n) (hl : n < 17592186044416) : Calls Try.prog 12 #[.func (.func gf) #[] lb, .int .i64 (n : Int)] X2 (LsP N cb la n cap K xs a b ys X) := by
  refine (list_any hs eg X2 hq (n : Int) (by omega) (by omega)).mono ?_
  rintro e Y ⟨tY, qY, h1 | h1⟩
  · obtain ⟨-, v, c, rfl, ho⟩ := h1
    have tt : Tn (fun b => b = cb) X Y := (t.mono (fun _ _ h => h.elim)).trans tY (fun _ _ h => h)
    have hcb : cb < X2.heap.size := by
      obtain ⟨k, hk⟩ := h.cq.2.2.1
      exact Nat.lt_of_lt_of_le hk.lt t.size
    rcases ho.2 with ⟨e1, e2⟩ | ⟨g, c', cur, e1, hg, hh, hc, -, hsz, hcs⟩
    · have : ys = [] := List.length_eq_zero_iff.1 e2
      subst this
      cases e1
      exact ⟨none, 0, rfl, Nat.le_refl _, fun i x hx => by simp at hx, tt, h.tn tt (hk Y qY)⟩
    · cases e1
      refine ⟨_, _, rfl, hc, fun i x hx => ⟨g, 0, rfl, by show g ≠ cb; omega, (Array.getElem?_eq_some_iff.1 hh).1, ?_⟩, tt, h.tn tt (hk Y qY)⟩
      have hi := (List.getElem?_eq_some_iff.1 hx).1
      rw [Nat.zero_add]
      simp only [World.cell?, hh]
      have := congrArg (fun l => l[i]?) hcs
      simp only [Nat.mul_one, ivs, List.getElem?_map, hx, Option.map_some, List.getElem?_take, hi, if_true] at this
      simpa using this
  · have := h1.1
    omega

end Go.Proofs.Ytjkgjckkglfokab

/- The six lists of the law WalkLaws. -/
namespace Go.Proofs.Ytjkgjckkglfokab
open Go.RowKit Go.Shelf
set_option linter.unusedVariables false
set_option linter.unusedSimpArgs false
attribute [local go_sem] Oper.semAt_some

theorem two_new {X X' : World} {s1 s2 : Array Value} {t1 t2 : TypeId} (h : (X.alloc (.cells s1 t1)).alloc (.cells s2 t2) = X') : Tn (fun _ => False) X X' ∧ IsC X' X.heap.size s1 ∧ IsC X' (X.heap.size + 1) s2 ∧ X'.heap.size = X.heap.size + 2 := by
  have nn := fun (w : World) (o : Obj) => (Tn.refl (fun _ => False) w).alloc o
  refine ⟨by rw [← h]; exact (nn _ _).alloc _, by rw [← h]; exact (isC_new _ _ _).tn (nn _ _) id, ?_, by rw [← h]; simp⟩
  have := isC_new (X.alloc (.cells s1 t1)) s2 t2
  rw [h] at this
  simpa using this
theorem flat_one (f : Int → Int) (xs : List Int) : (xs.flatMap fun x => [f x]) = xs.map f := by
  induction xs with
  | nil => rfl
  | cons x r ih => rw [List.flatMap_cons, ih]; rfl
theorem em26 : ∀ args w, (callFunc 26 args).run Try.prog w = .ok (.enter 26 args) w := enters_of Try.func26 (by kernel_rfl) rfl
theorem em29 : ∀ args w, (callFunc 29 args).run Try.prog w = .ok (.enter 29 args) w := enters_of Try.func29 (by kernel_rfl) rfl
theorem em30 : ∀ args w, (callFunc 30 args).run Try.prog w = .ok (.enter 30 args) w := enters_of Try.func30 (by kernel_rfl) rfl
theorem em31 : ∀ args w, (callFunc 31 args).run Try.prog w = .ok (.enter 31 args) w := enters_of Try.func31 (by kernel_rfl) rfl

section
variable {N cb n cap : Nat} {la : Option Addr} {K : Nat → Prop} {xs : List Int} {a b : Int} {X X1 X2 : World}

theorem ls_map2 (h : St N cb la n cap K xs a b X) (hn : xs.length = n) (hl : n < 17592186044416)
    (e1 : (X.alloc (.cells #[.func (.func 26) #[] #[.pointer (some ⟨cb + 1, 0, none⟩), .pointer (some ⟨cb + 2, 0, none⟩)]] 25)).alloc (.cells #[.func (.func 8) #[] #[.pointer (some ⟨N, 0, none⟩)]] 30) = X1)
    (e2 : (X1.alloc (.cells #[.func (.func 29) #[] #[.pointer (some ⟨X.heap.size, 0, none⟩), .pointer (some ⟨X.heap.size + 1, 0, none⟩)]] 25)).alloc (.cells #[.func (.func 14) #[] #[.pointer (some ⟨N + 1, 0, none⟩)]] 30) = X2) :
    Calls Try.prog 12 #[.func (.func 29) #[] #[.pointer (some ⟨X1.heap.size, 0, none⟩), .pointer (some ⟨X1.heap.size + 1, 0, none⟩)], .int .i64 (n : Int)] X2 (LsP N cb la n cap K xs a b ((xs.map (xr a)).map (xr b)) X) := by
  obtain ⟨t1, y1, y2, z1⟩ := two_new e1
  obtain ⟨t2, y3, y4, z2⟩ := two_new e2
  have hc2 := h.cb2
  have hsz := h.ob.lt
  have hR := fun k (hk : Cr cb la K xs k) => Cr.of h hk
  have t12 : Tn (fun _ => False) X X2 := t1.trans t2 (fun _ _ h => h)
  have m1 := map_seq (cnt_seq h hn (by omega)) em26 (sb := X.heap.size) (mb := X.heap.size + 1) (xora_fn (kb := N) (s := a)) (fun e => by have := hR _ e; omega) (fun e => by have := hR _ e; omega) (fun k hk e => by have := hR _ e; omega)
  have m2 := map_seq m1 em29 (sb := X1.heap.size) (mb := X1.heap.size + 1) (xorb_fn (kb := N + 1) (s := b)) (fun e => by rcases e with e | e | e | e; have := hR _ e; all_goals omega) (fun e => by rcases e with e | e | e | e; have := hR _ e; all_goals omega) (fun k hk e => by rcases e with e | e | e | e; have := hR _ e; all_goals omega)
  have h2 := h.no t12
  refine list_of h t12 m2 em29 ⟨⟨h2.cq, y1.tn t2 id, y2.tn t2 id, h2.ea⟩, y3, y4, h2.eb⟩ (fun Y q => q.1.1.2.2.1) (by simp [hn]) hl

theorem ls_map (h : St N cb la n cap K xs a b X) (hn : xs.length = n) (hl : n < 17592186044416)
    (e1 : (X.alloc (.cells #[.func (.func 26) #[] #[.pointer (some ⟨cb + 1, 0, none⟩), .pointer (some ⟨cb + 2, 0, none⟩)]] 25)).alloc (.cells #[.func (.func 8) #[] #[.pointer (some ⟨N, 0, none⟩)]] 30) = X1) :
    Calls Try.prog 12 #[.func (.func 29) #[] #[.pointer (some ⟨X.heap.size, 0, none⟩), .pointer (some ⟨X.heap.size + 1, 0, none⟩)], .int .i64 (n : Int)] X1 (LsP N cb la n cap K xs a b (xs.map (xr a)) X) := by
  obtain ⟨t1, y1, y2, z1⟩ := two_new e1
  have hc2 := h.cb2
  have hsz := h.ob.lt
  have hR := fun k (hk : Cr cb la K xs k) => Cr.of h hk
  have m1 := map_seq (cnt_seq h hn (by omega)) em26 (sb := X.heap.size) (mb := X.heap.size + 1) (xora_fn (kb := N) (s := a)) (fun e => by have := hR _ e; omega) (fun e => by have := hR _ e; omega) (fun k hk e => by have := hR _ e; omega)
  have h2 := h.no t1
  exact list_of h t1 m1 em29 ⟨h2.cq, y1, y2, h2.ea⟩ (fun Y q => q.1.2.2.1) (by simp [hn]) hl

theorem ls_mapb (h : St N cb la n cap K xs a b X) (hn : xs.length = n) (hl : n < 17592186044416)
    (e1 : (X.alloc (.cells #[.func (.func 26) #[] #[.pointer (some ⟨cb + 1, 0, none⟩), .pointer (some ⟨cb + 2, 0, none⟩)]] 25)).alloc (.cells #[.func (.func 15) #[] #[.pointer (some ⟨N, 0, none⟩), .pointer (some ⟨N + 1, 0, none⟩)]] 30) = X1) :
    Calls Try.prog 12 #[.func (.func 29) #[] #[.pointer (some ⟨X.heap.size, 0, none⟩), .pointer (some ⟨X.heap.size + 1, 0, none⟩)], .int .i64 (n : Int)] X1 (LsP N cb la n cap K xs a b (xs.map fun x => xr b (xr a x)) X) := by
  obtain ⟨t1, y1, y2, z1⟩ := two_new e1
  have hc2 := h.cb2
  have hsz := h.ob.lt
  have hR := fun k (hk : Cr cb la K xs k) => Cr.of h hk
  have m1 := map_seq (cnt_seq h hn (by omega)) em26 (sb := X.heap.size) (mb := X.heap.size + 1) (xor2_fn (ka := N) (kb := N + 1) (s := a) (t := b)) (fun e => by have := hR _ e; omega) (fun e => by have := hR _ e; omega) (fun k hk e => by have := hR _ e; omega)
  have h2 := h.no t1
  exact list_of h t1 m1 em29 ⟨h2.cq, y1, y2, h2.ea, h2.eb⟩ (fun Y q => q.1.2.2.1) (by simp [hn]) hl

theorem ls_only2 (h : St N cb la n cap K xs a b X) (hn : xs.length = n) (hl : n < 17592186044416)
    (e1 : (X.alloc (.cells #[.func (.func 26) #[] #[.pointer (some ⟨cb + 1, 0, none⟩), .pointer (some ⟨cb + 2, 0, none⟩)]] 25)).alloc (.cells #[.func (.func 9) #[] #[.pointer (some ⟨N, 0, none⟩)]] 28) = X1)
    (e2 : (X1.alloc (.cells #[.func (.func 30) #[] #[.pointer (some ⟨X.heap.size, 0, none⟩), .pointer (some ⟨X.heap.size + 1, 0, none⟩)]] 25)).alloc (.cells #[.func (.func 11) #[] #[.pointer (some ⟨N + 1, 0, none⟩)]] 28) = X2) :
    Calls Try.prog 12 #[.func (.func 30) #[] #[.pointer (some ⟨X1.heap.size, 0, none⟩), .pointer (some ⟨X1.heap.size + 1, 0, none⟩)], .int .i64 (n : Int)] X2 (LsP N cb la n cap K xs a b ((xs.filter (dvd0 a)).filter (fun x => decide (x < b))) X) := by
  obtain ⟨t1, y1, y2, z1⟩ := two_new e1
  obtain ⟨t2, y3, y4, z2⟩ := two_new e2
  have hc2 := h.cb2
  have hsz := h.ob.lt
  have hR := fun k (hk : Cr cb la K xs k) => Cr.of h hk
  have t12 : Tn (fun _ => False) X X2 := t1.trans t2 (fun _ _ h => h)
  have m1 := only_seq (cnt_seq h hn (by omega)) em26 (sb := X.heap.size) (mb := X.heap.size + 1) (odd_fn (kb := N) (s := a)) (fun e => by have := hR _ e; omega) (fun e => by have := hR _ e; omega) (fun k hk e => by have := hR _ e; omega)
  have m2 := only_seq m1 em30 (sb := X1.heap.size) (mb := X1.heap.size + 1) (low_fn (kb := N + 1) (s := b)) (fun e => by rcases e with e | e | e | e; have := hR _ e; all_goals omega) (fun e => by rcases e with e | e | e | e; have := hR _ e; all_goals omega) (fun k hk e => by rcases e with e | e | e | e; have := hR _ e; all_goals omega)
  have h2 := h.no t12
  refine list_of h t12 m2 em30 ⟨⟨h2.cq, y1.tn t2 id, y2.tn t2 id, h2.ea⟩, y3, y4, h2.eb⟩ (fun Y q => q.1.1.2.2.1) ?_ hl
  exact Nat.le_trans (List.length_filter_le _ _) (Nat.le_trans (List.length_filter_le _ _) (by omega))

theorem ls_only (h : St N cb la n cap K xs a b X) (hn : xs.length = n) (hl : n < 17592186044416)
    (e1 : (X.alloc (.cells #[.func (.func 26) #[] #[.pointer (some ⟨cb + 1, 0, none⟩), .pointer (some ⟨cb + 2, 0, none⟩)]] 25)).alloc (.cells #[.func (.func 17) #[] #[.pointer (some ⟨cb + 3, 0, none⟩), .pointer (some ⟨cb + 4, 0, none⟩)]] 28) = X1) :
    Calls Try.prog 12 #[.func (.func 30) #[] #[.pointer (some ⟨X.heap.size, 0, none⟩), .pointer (some ⟨X.heap.size + 1, 0, none⟩)], .int .i64 (n : Int)] X1 (LsP N cb la n cap K xs a b (xs.filter fun x => dvd0 a x && decide (x < b)) X) := by
  obtain ⟨t1, y1, y2, z1⟩ := two_new e1
  have hc2 := h.cb2
  have hsz := h.ob.lt
  have hR := fun k (hk : Cr cb la K xs k) => Cr.of h hk
  have m1 := only_seq (cnt_seq h hn (by omega)) em26 (sb := X.heap.size) (mb := X.heap.size + 1) (both_fn (ka := N) (kb := N + 1) (oa := cb + 3) (ob := cb + 4) (s := a) (t := b)) (fun e => by have := hR _ e; omega) (fun e => by have := hR _ e; omega) (fun k hk e => by have := hR _ e; omega)
  have h2 := h.no t1
  exact list_of h t1 m1 em30 ⟨h2.cq, y1, y2, h2.ea, h2.eb, h2.oa, h2.ob⟩ (fun Y q => q.1.2.2.1) (Nat.le_trans (List.length_filter_le _ _) (by omega)) hl

theorem ls_flat (h : St N cb la n cap K xs a b X) (hn : xs.length = n) (hl : n < 17592186044416)
    (e1 : (X.alloc (.cells #[.func (.func 26) #[] #[.pointer (some ⟨cb + 1, 0, none⟩), .pointer (some ⟨cb + 2, 0, none⟩)]] 25)).alloc (.cells #[.func (.func 6) #[] #[.pointer (some ⟨N, 0, none⟩)]] 29) = X1) :
    Calls Try.prog 12 #[.func (.func 31) #[] #[.pointer (some ⟨X.heap.size, 0, none⟩), .pointer (some ⟨X.heap.size + 1, 0, none⟩)], .int .i64 (n : Int)] X1 (LsP N cb la n cap K xs a b (xs.flatMap fun x => [xr a x]) X) := by
  obtain ⟨t1, y1, y2, z1⟩ := two_new e1
  have hc2 := h.cb2
  have hsz := h.ob.lt
  have hR := fun k (hk : Cr cb la K xs k) => Cr.of h hk
  have m1 := flat_seq (cnt_seq h hn (by omega)) em26 (sb := X.heap.size) (mb := X.heap.size + 1) (one_flat (ab := N) (a := a)) (fun e => by have := hR _ e; omega) (fun e => by have := hR _ e; omega) (fun k hk e => by have := hR _ e; omega)
  have h2 := h.no t1
  exact list_of h t1 m1 em31 ⟨h2.cq, y1, y2, h2.ea⟩ (fun Y q => q.1.2.2.1) (by rw [flat_one]; simp [hn]) hl

end
end Go.Proofs.Ytjkgjckkglfokab
