/- List: all that an iterator tells, gathered. -/
import Derived.Test.YtjkgjckkglfokaaTell
import Derived.Test.YtjkgjckkglfokaaCnt
import Derived.Maps.OwnIn
namespace Go.Proofs.Ytjkgjckkglfokaa
open Go.RowKit Go.Shelf
set_option linter.unusedVariables false
attribute [local go_sem] Oper.semAt_some

def InfoOf (P : Program) (e : TypeId) (z : Value) (size bytes : Nat) : Prop := (P.info? e).map (fun i => (i.zero, i.size, i.bytes)) = some (some z, size, bytes)

theorem InfoOf.parts {P : Program} {e : TypeId} {z : Value} {size bytes : Nat} (h : InfoOf P e z size bytes) : ∃ i, P.info? e = some i ∧ i.zero = some z ∧ i.size = size ∧ i.bytes = bytes := by
  unfold InfoOf at h
  cases hi : P.info? e with
  | none => rw [hi] at h; cases h
  | some i =>
    rw [hi] at h
    simp only [Option.map_some, Option.some.injEq, Prod.mk.injEq] at h
    exact ⟨i, rfl, h.1, h.2.1, h.2.2⟩
theorem infoI : InfoOf Try.prog 3 (.int .i64 0) 1 8 := by unfold InfoOf; kernel_rfl
theorem own_slice {w : World} {base : Nat} {e : TypeId} {size : Nat} {v : Value} {n : Nat} {xs : List Value} (h : w.ownsRow base e size v n xs) : ∃ a cap, v = .slice a n cap := by
  rcases h.2 with ⟨rfl, rfl⟩ | ⟨g, cap, cur, rfl, _⟩
  · exact ⟨_, _, rfl⟩
  · exact ⟨_, _, rfl⟩
theorem own_block_lt {w : World} {base : Nat} {e : TypeId} {size : Nat} {v : Value} {n : Nat} {xs : List Value} (h : w.ownsRow base e size v n xs) : ∀ k, v.ownBlock = some k → base ≤ k ∧ k < w.heap.size := by
  intro k hk
  rcases h.2 with ⟨rfl, rfl⟩ | ⟨g, cap, cur, rfl, hb, hh, _⟩
  · cases hk
  · simp only [Value.ownBlock, Option.some.injEq] at hk
    subst hk
    exact ⟨hb, (Array.getElem?_eq_some_iff.1 hh).1⟩
theorem own_of_block {w w' : World} {base : Nat} {e : TypeId} {size : Nat} {v : Value} {n : Nat} {xs : List Value} (h : w.ownsRow base e size v n xs) (hb : ∀ k, v.ownBlock = some k → w'.heap[k]? = w.heap[k]?) : w'.ownsRow base e size v n xs := by
  refine ⟨h.1, ?_⟩
  rcases h.2 with hn | ⟨g, cap, cur, rfl, hb', hh, r⟩
  · exact .inl hn
  · exact .inr ⟨g, cap, cur, rfl, hb', (hb g rfl).trans hh, r⟩
def ivs (s : List Int) : List Value := s.map (fun x => .int .i64 x)
/-- A list under way, in a row of one's own. -/
def Row1 (N lbx gbx mbx : Nat) (most : Int) : Inv Int := fun s C X => ∃ a c, C = (fun b => b = lbx ∨ b = gbx ∨ (Value.slice a s.length c).ownBlock = some b) ∧ IsC X lbx #[.slice a s.length c] ∧ X.ownsRow N 3 1 (.slice a s.length c) s.length (ivs s) ∧ IsC X gbx #[.bool false] ∧ IsC X mbx #[.int .i64 most] ∧ (s.length : Int) ≤ most ∧ N ≤ X.heap.size
theorem Row1.stb {N lbx gbx mbx : Nat} {most : Int} : Stb (fun b => b = mbx) (Row1 N lbx gbx mbx most) := by
  refine ⟨?_, ?_⟩
  · rintro s C X ⟨a, c, rfl, q1, q2, q3, q4, -⟩ b hb
    rcases hb with (rfl | rfl | hb) | rfl
    · exact q1.lt
    · exact q3.lt
    · exact (own_block_lt q2 b hb).2
    · exact q4.lt
  · rintro s C A X Y ⟨a, c, rfl, q1, q2, q3, q4, q5⟩ ht hA
    exact ⟨a, c, rfl, q1.tn ht (hA _ (.inl (.inl rfl))), own_of_block q2 (fun k hk => ht.block k (own_block_lt q2 k hk).2 (hA k (.inl (.inr (.inr hk))))), q3.tn ht (hA _ (.inl (.inr (.inl rfl)))), q4.tn ht (hA _ (.inr rfl)), q5.1, Nat.le_trans q5.2 ht.size⟩
/-- Too many. -/
def Long1 (gbx mbx : Nat) (most : Int) (n : Nat) (c : Code) : Inv Int := fun s C X => c = .ret ∧ C = (fun b => b = gbx) ∧ IsC X gbx #[.bool true] ∧ most < (n : Int) ∧ IsC X mbx #[.int .i64 most]
theorem Long1.stb {gbx mbx : Nat} {most : Int} {n : Nat} {c : Code} : Stb (fun b => b = mbx) (Long1 gbx mbx most n c) := by
  refine ⟨?_, ?_⟩
  · rintro s C X ⟨-, rfl, q, -, q2⟩ b hb
    rcases hb with rfl | rfl
    · exact q.lt
    · exact q2.lt
  · rintro s C A X Y ⟨q1, rfl, q2, q3, q4⟩ ht hA
    exact ⟨q1, rfl, q2.tn ht (hA _ (.inl rfl)), q3, q4.tn ht (hA _ (.inr rfl))⟩

def List1P (xs : List Int) (T : Nat → Prop) (Sq : World → Prop) (lbx gbx : Nat) (most : Int) (W : World) (e : Ending) (Y : World) : Prop :=
  (∃ v, e = .returned v) ∧ Tn (fun b => T b ∨ b = lbx ∨ b = gbx) W Y ∧ Sq Y ∧ (((xs.length : Int) ≤ most ∧ IsC Y gbx #[.bool false] ∧ ∃ a c, IsC Y lbx #[.slice a xs.length c] ∧ Y.ownsRow W.heap.size 3 1 (.slice a xs.length c) xs.length (ivs xs)) ∨ (most < (xs.length : Int) ∧ IsC Y gbx #[.bool true]))

set_option maxRecDepth 100000 in
set_option maxHeartbeats 2000000 in
theorem list1_any {gf : Nat} {lb : Array Value} {xs : List Int} {R T : Nat → Prop} {Sq : World → Prop} (hs : IsSeq Try.prog gf lb encI xs R T Sq) (eg : ∀ args w, (callFunc gf args).run Try.prog w = .ok (.enter gf args) w)
    (W : World) (hq : Sq W) (sb lbx mbx gbx : Nat) (most : Int) (hsb : IsC W sb #[.func (.func gf) #[] lb]) (h1 : IsC W lbx #[.slice none 0 0]) (h2 : IsC W mbx #[.int .i64 most]) (h3 : IsC W gbx #[.bool false]) (hm : 0 ≤ most)
    (n1 : ¬ R lbx) (n2 : ¬ R gbx) (n3 : ¬ R mbx) (d1 : lbx ≠ gbx) (d2 : lbx ≠ mbx) (d3 : gbx ≠ mbx) (hl : xs.length < 1099511627776) :
    CallsIn Fence.wide 0 Try.prog 52 #[.pointer (some ⟨sb, 0, none⟩), .pointer (some ⟨lbx, 0, none⟩), .pointer (some ⟨mbx, 0, none⟩), .pointer (some ⟨gbx, 0, none⟩)] W (List1P xs T Sq lbx gbx most W) := by
  have a1 : W.cell? ⟨sb, 0, none⟩ = some (.func (.func gf) #[] lb) := hsb.cell 0
  have HS : Hid (IsSeq Try.prog gf lb encI xs R T Sq) := hs
  have HSQ : Hid (Sq W) := hq
  have HB : Hid (IsC W lbx #[.slice none 0 0] ∧ IsC W mbx #[.int .i64 most] ∧ IsC W gbx #[.bool false]) := ⟨h1, h2, h3⟩
  have HN : Hid (¬ R lbx ∧ ¬ R gbx ∧ ¬ R mbx) := ⟨n1, n2, n3⟩
  have b1 := h1.lt
  have b2 := h2.lt
  have b3 := h3.lt
  have hRl : ∀ b, R b → b < W.heap.size := hs.lt _ hq
  have h0 : Row1 W.heap.size lbx gbx mbx most [] (fun b => b = lbx ∨ b = gbx ∨ (Value.slice none 0 0).ownBlock = some b) W := ⟨none, 0, rfl, h1, ⟨by simp [ivs], .inl ⟨rfl, rfl⟩⟩, h3, h2, by simpa using hm, Nat.le_refl _⟩
  clear hs hq hsb h1 h2 h3 n1 n2 n3
  refine callsIn_of_wp_marks Try.func52 rfl trivial ?_ rfl
  simp only [Try.ntmps52, List.size_toArray, List.length_cons, List.length_nil, Nat.reduceAdd, Nat.reduceSub, Array.replicate_succ, Array.replicate_zero, List.push_toArray, List.append_toArray, List.nil_append, List.cons_append]
  gi_wp2_with fail
  refine range_it (gf := gf) (lb := lb) rfl eg (encs := encI) (fun _ => rfl) HS.out HSQ.out (Row1 W.heap.size lbx gbx mbx most) (Long1 gbx mbx most xs.length) (fun b => b = mbx) Row1.stb (fun c => Long1.stb) _ h0 (fun b hb hr => ?_) (fun b (e : b = mbx) ht => HN.out.2.2 (e ▸ HS.out.sub b ht))
    (fun x a' => a' = { tmps := #[.pointer (some ⟨sb, 0, none⟩), .pointer (some ⟨lbx, 0, none⟩), .pointer (some ⟨mbx, 0, none⟩), .pointer (some ⟨gbx, 0, none⟩), .int .i64 x, .func (.func gf) #[] lb, .int .i64 x, undef, undef, undef, undef, undef, undef, undef, undef], defers := [] })
    ?assign ?body ?done ?stop
  · rcases hb with rfl | rfl | hb
    · exact HN.out.1 hr
    · exact HN.out.2.1 hr
    · cases hb
  case assign =>
    intro l2 x X Kc hK
    unfold encI
    gi_wp2
    rfl
  case body =>
    rintro l3 pre x a' C X hpre ⟨a, c, rfl, q1, q2, q3, q4, q5⟩ rfl
    have hlt : pre.length < xs.length := by
      obtain ⟨t, rfl⟩ := hpre
      simp
    have c1 : X.cell? ⟨lbx, 0, none⟩ = some (.slice a pre.length c) := q1.cell 0
    have c2 : X.cell? ⟨mbx, 0, none⟩ = some (.int .i64 most) := q4.cell 0
    have c3 : X.cell? ⟨gbx, 0, none⟩ = some (.bool false) := q3.cell 0
    have f3 := q3.frozen 0
    have l1 := q1.lt
    have l3 := q3.lt
    by_cases hm : (pre.length : Int) = most
    · have hmb : ((pre.length : Int) == most) = true := by simp [hm]
      obtain ⟨X1, hX1⟩ : ∃ X1, X.setCell ⟨gbx, 0, none⟩ (.bool true) = X1 := ⟨_, rfl⟩
      have t1 : Tn (fun b => b = gbx) X X1 := by rw [← hX1]; exact (Tn.refl (fun b => b = gbx) X).set (p := ⟨gbx, 0, none⟩) (.inl rfl) _
      have HG : Hid (RPost (Row1 W.heap.size lbx gbx mbx most) (Long1 gbx mbx most xs.length) (pre ++ [x]) (fun b => b = lbx ∨ b = gbx ∨ (Value.slice a pre.length c).ownBlock = some b) X .ret X1) := by
        refine ⟨fun b => b = gbx, t1.mono (fun _ _ h => .inr (.inl h)), fun b hb => .inl (.inr (.inl hb)), rfl, rfl, ?_, by omega, q4.tn t1 (fun e => d3 e.symm)⟩
        obtain ⟨t, ht⟩ := q3
        exact ⟨t, by rw [← hX1]; simp [World.setCell, Array.getElem?_modify, ht]⟩
      have HX1 : Hid (X.setCell ⟨gbx, 0, none⟩ (.bool true) = X1) := hX1
      clear hX1 t1 hm q1 q2 q3 q4 q5 hpre hlt
      gi_wp2
      rw [HX1.out]
      exact HG.out
    · have hmb : ((pre.length : Int) == most) = false := by simp [hm]
      have HQ : Hid (X.ownsRow W.heap.size 3 1 (.slice a pre.length c) pre.length (ivs pre)) := q2
      obtain ⟨i0, hi0, hz0, hz1, hz2⟩ := infoI.parts
      have HQa : Hid ((X.alloc (.cells #[.int .i64 x] 3)).ownsRow W.heap.size 3 1 (.slice a pre.length c) pre.length (ivs pre)) := own_of_block q2 (fun k hk => Below.heap_alloc _ _ _ (own_block_lt q2 k hk).2)
      have hWX : W.heap.size ≤ X.heap.size := q5.2
      have q50 := q5.1
      have hfin : ∀ Y la' lc', Y.ownsRow W.heap.size 3 1 (.slice la' (pre.length + 1) lc') (pre.length + 1) (ivs pre ++ [.int .i64 x]) → (X.alloc (.cells #[.int .i64 x] 3)).grownBy Y (Value.slice a pre.length c).ownBlock → ((Value.slice la' (pre.length + 1) lc').ownBlock = (Value.slice a pre.length c).ownBlock ∨ (Value.slice la' (pre.length + 1) lc').ownBlock = some (X.alloc (.cells #[.int .i64 x] 3)).heap.size) →
          Y.cell? ⟨lbx, 0, none⟩ = some (.slice a pre.length c) ∧ Y.frozen? ⟨lbx, 0, none⟩ = false ∧ Hid (RPost (Row1 W.heap.size lbx gbx mbx most) (Long1 gbx mbx most xs.length) (pre ++ [x]) (fun b => b = lbx ∨ b = gbx ∨ (Value.slice a pre.length c).ownBlock = some b) X .normal (Y.setCell ⟨lbx, 0, none⟩ (.slice la' (pre.length + 1) lc'))) := by
        intro Y la' lc' r1 r2 r3
        have nb : ∀ k, (Value.slice a pre.length c).ownBlock = some k → W.heap.size ≤ k := fun k hk => (own_block_lt q2 k hk).1
        have kp : ∀ k, k < X.heap.size → (Value.slice a pre.length c).ownBlock ≠ some k → Y.heap[k]? = X.heap[k]? := fun k hk hne => (r2.block k (by simp; omega) (fun e => hne e.symm)).trans (Below.heap_alloc _ _ _ hk)
        have e1 : IsC Y lbx #[.slice a pre.length c] := q1.of_block (kp lbx q1.lt (fun e => by have := nb _ e; omega))
        have e3 : IsC Y gbx #[.bool false] := q3.of_block (kp gbx q3.lt (fun e => by have := nb _ e; omega))
        have e4 : IsC Y mbx #[.int .i64 most] := q4.of_block (kp mbx q4.lt (fun e => by have := nb _ e; omega))
        have tY : Tn (fun b => (Value.slice a pre.length c).ownBlock = some b) X Y := ⟨r2.os, r2.tape, r2.output, Nat.le_trans (by simp) r2.size, kp⟩
        have t2 : Tn (fun b => b = lbx) Y (Y.setCell ⟨lbx, 0, none⟩ (.slice la' (pre.length + 1) lc')) := (Tn.refl (fun b => b = lbx) Y).set (p := ⟨lbx, 0, none⟩) (.inl rfl) _
        have hlen : (pre ++ [x]).length = pre.length + 1 := by simp
        have rb := own_block_lt r1
        refine ⟨e1.cell 0, e1.frozen 0, fun b => b = lbx ∨ b = gbx ∨ (Value.slice la' (pre.length + 1) lc').ownBlock = some b, (tY.mono (fun _ _ h => .inr (.inr h))).trans t2 (fun _ _ h => .inl h), fun b hb => ?_, la', lc', by rw [hlen], ?_, ?_, e3.tn t2 (fun e => d1 e.symm), e4.tn t2 (fun e => d2 e.symm), by rw [hlen]; omega, Nat.le_trans hWX (Nat.le_trans tY.size t2.size)⟩
        · rcases hb with h | h | h
          · exact .inl (.inl h)
          · exact .inl (.inr (.inl h))
          · rcases r3 with r3 | r3
            · exact .inl (.inr (.inr (r3 ▸ h)))
            · rw [h] at r3
              simp at r3
              exact .inr (by omega)
        · obtain ⟨t, ht⟩ := e1
          refine ⟨t, ?_⟩
          rw [hlen]
          simp [World.setCell, Array.getElem?_modify, ht]
        · rw [hlen, show ivs (pre ++ [x]) = ivs pre ++ [.int .i64 x] by simp [ivs]]
          exact own_of_block r1 (fun k hk => t2.block k (rb k hk).2 (fun e => by have := (rb k hk).1; omega))
      have hnews : ∀ (j : Nat) (u : Value), ([.int .i64 x] : List Value)[j]? = some u → (X.alloc (.cells #[.int .i64 x] 3)).cell? ((⟨X.heap.size, 0, none⟩ : Addr).add j) = some u := by
        intro j u hu
        cases j with
        | zero =>
          simp at hu
          subst hu
          exact (isC_new X #[.int .i64 x] 3).cell 0
        | succ j => simp at hu
      clear q1 q2 q3 q4 q5 hpre hm
      have hlx : lbx < X.heap.size + 1 := by omega
      have hgx : gbx < X.heap.size + 1 := by omega
      gi_wp2_with (gi_at_builtin; (with_reducible refine wpListIn_append_own_at _ rfl _ _ 47 rfl W.heap.size 3 i0 (.int .i64 0) 1 8 Try.underlying47 hi0 hz0 hz1 hz2 rfl (by decide) (.slice a pre.length c) pre.length (ivs pre) ?p1 ?p2 ⟨X.heap.size, 0, none⟩ 1 1 [.int .i64 x] ?p3 ?p4 ?p5 ?p6 ?p7 ?p8 ?p9 ?p10); (case p1 => rfl); (case p2 => exact HQa.out); (case p3 => rfl); (case p4 => rfl); (case p5 => exact hnews); (case p6 => (intro u hu; simp at hu; subst hu; rfl)); (case p7 => (unfold maxLen; omega)); (case p8 => omega); (case p9 => (simp; omega)); intro v' Y q1 q2 q3 q4; obtain ⟨la', lc', rfl⟩ := own_slice q1; obtain ⟨s1, s2, s4⟩ := hfin Y la' lc' q1 q2 q4; clear q1 q2 q3 q4 hfin)
      exact s4.out
  case done =>
    rintro C X ⟨a, c, rfl, q1, q2, q3, q4, q5, q6⟩ tX hqX hC hD nD
    have tP : Tn (fun k => k = W.heap.size) X (X.putObj W.heap.size (.deferred none)) := Tn.put _ _ _
    have HG : Hid (List1P xs T Sq lbx gbx most W (.returned (.tuple #[])) (X.putObj W.heap.size (.deferred none))) := by
      refine ⟨⟨_, rfl⟩, (tX.mono (fun k _ h => ?_)).trans tP (fun i hi (e : i = W.heap.size) => by omega), HS.out.stab _ _ _ hqX tP (fun b hb (e : b = W.heap.size) => by have := hRl b hb; omega), .inl ⟨q5, q3.tn tP (by omega), a, c, q1.tn tP (by omega), own_of_block q2 (fun k hk => tP.block k (own_block_lt q2 k hk).2 (fun (e : k = W.heap.size) => nD (.inr (.inr (e ▸ hk)))))⟩⟩
      rcases h with h | h | h | h
      · exact .inl h
      · exact .inr (.inl h)
      · exact .inr (.inr h)
      · cases h
    clear q1 q2 q3 q4 q5 q6 tX hqX hC nD tP
    gi_wp2
    refine ⟨by simp, .inl ⟨_, _, rfl, run_takeDeferred hD, ?_⟩⟩
    exact ⟨_, results_none rfl _ _ _, HG.out⟩
  case stop =>
    rintro c pre C X hpre ⟨rfl, rfl, q1, q2, q3⟩ tX hqX hC hD nD
    have tP : Tn (fun k => k = W.heap.size) X (X.putObj W.heap.size (.deferred none)) := Tn.put _ _ _
    have HG : Hid (List1P xs T Sq lbx gbx most W (.returned (.tuple #[])) (X.putObj W.heap.size (.deferred none))) := by
      refine ⟨⟨_, rfl⟩, (tX.mono (fun k _ h => ?_)).trans tP (fun i hi (e : i = W.heap.size) => by omega), HS.out.stab _ _ _ hqX tP (fun b hb (e : b = W.heap.size) => by have := hRl b hb; omega), .inr ⟨q2, q1.tn tP (by omega)⟩⟩
      rcases h with h | h | h | h
      · exact .inl h
      · exact .inr (.inl h)
      · exact .inr (.inr h)
      · cases h
    clear q1 q2 q3 tX hqX hC nD tP
    gi_wp2
    refine ⟨by simp, .inl ⟨_, _, rfl, run_takeDeferred hD, ?_⟩⟩
    exact ⟨_, results_none rfl _ _ _, HG.out⟩

end Go.Proofs.Ytjkgjckkglfokaa
