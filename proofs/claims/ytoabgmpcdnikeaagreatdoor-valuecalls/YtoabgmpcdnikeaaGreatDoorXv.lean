/- Every Call: the law's body. Printed by tools/gen16_law4.py. -/
import Derived.Test.YtoabgmpcdnikeaaGreatDoorXu
import Derived.Test.YtoabgmpcdnikeaaGreatDoorXw
import Derived.Test.YtoabgmpcdnikeaaGreatDoorXc
import Derived.Deep.RegionLaw
import Derived.Deep.DeepCutAuto
import Derived.OwnWalk
namespace Go.Proofs.YtoabgmpcdnikeaaGreatDoor
open Go.RowKit
set_option linter.unusedVariables false
attribute [local go_sem] Bel.cell Bel.fz

abbrev bhV : Vl := ⟨0, false, 0, false, ⟨#[98, 101, 104, 105, 110, 100]⟩, []⟩
theorem CpSt.more {w wr : World} {A : List Vl} {D : List Cp} {va : Option Addr} {vc : Nat} (h : CpSt w wr A D va vc) (hl : D.length ≤ A.length) (x : Vl) : CpSt w wr (A ++ [x]) D va vc := ⟨h.own, h.bel, by rw [h.map, List.take_append_of_le_length hl], h.ss, h.far⟩
/-- What is known of values whose texts lie somewhere else. -/
structure Sm (v : Vl) : Prop where
  len : v.L.length ≤ 4611686018427387904
  n0 : -9223372036854775808 ≤ v.n
  n1 : v.n ≤ 9223372036854775807
  ts : v.t.size ≤ 281474976710656
  ls : ∀ s ∈ v.L, s.size ≤ 281474976710656
theorem VOk.sm {w : World} {v : Vl} {a : Option Addr} (h : VOk w v a) : Sm v := ⟨h.len, h.n0, h.n1, h.ts, h.ls⟩
theorem Sm.ok {w : World} {v : Vl} {a : Option Addr} (h : Sm v) (hs : SsAt w a v.L) : VOk w v a := ⟨hs, h.len, h.n0, h.n1, h.ts, h.ls⟩
theorem bh_sm : Sm bhV := ⟨by simp, by show (-9223372036854775808 : Int) ≤ 0; decide, by show (0 : Int) ≤ 9223372036854775807; decide, by show (⟨#[98, 101, 104, 105, 110, 100]⟩ : ByteArray).size ≤ _; decide, fun s hs => by simp at hs⟩
theorem CpSt.at_ {w wr : World} {A : List Vl} {D : List Cp} {va : Option Addr} {vc : Nat} (h : CpSt w wr A D va vc) (hl : D.length = A.length) (hs : ∀ v ∈ A, Sm v) : AsAt wr va A := by
  intro i v hv
  have hlt : i < D.length := by rw [hl]; exact (List.getElem?_eq_some_iff.1 hv).1
  obtain ⟨p, hp⟩ : ∃ p, D[i]? = some p := ⟨_, List.getElem?_eq_getElem hlt⟩
  have hpv : p.1 = v := by
    have h1 := congrArg (fun l => l[i]?) h.map
    simp only [List.getElem?_map, hp, Option.map_some] at h1
    rw [hl, List.take_length, hv] at h1
    exact Option.some.inj h1
  obtain ⟨v', a, c⟩ := p
  simp only at hpv
  subst hpv
  obtain ⟨_, _, hrow⟩ := row_cell h.own
  have hmem : ((v', a, c) : Cp) ∈ D := List.mem_of_getElem? hp
  have cell : ∀ k u, k < 6 → (vcl v' a c)[k]? = some u → ∃ g, va = some ⟨g, 0, none⟩ ∧ g < wr.heap.size ∧ wr.cell? ⟨g, 0 + i * 6 + k, none⟩ = some u := fun k u hk hu => by
    obtain ⟨g, e, _, hg, hc⟩ := hrow (i * 6 + k) u ((flatC_get D i _ k hp hk).trans hu)
    exact ⟨g, e, hg, by rw [Nat.zero_add]; exact hc⟩
  obtain ⟨g, rfl, hg, c0⟩ := cell 0 _ (by omega) rfl
  have get : ∀ k u, k < 6 → (vcl v' a c)[k]? = some u → wr.cell? ⟨g, 0 + i * 6 + k, none⟩ = some u := fun k u hk hu => by
    obtain ⟨g', e, _, hc⟩ := cell k u hk hu
    injection e with e
    injection e with e
    subst e
    exact hc
  exact ⟨a, c, g, 0, rfl, hg, c0, get 1 _ (by omega) rfl, get 2 _ (by omega) rfl, get 3 _ (by omega) rfl, get 4 _ (by omega) rfl, get 5 _ (by omega) rfl, (hs _ (List.mem_of_getElem? hv)).ok (h.ss _ hmem)⟩
theorem hid2 {A B : Prop} (a : A) (b : B) : Hid (A ∧ B) := ⟨a, b⟩
theorem zd1b {W wA : World} {cs : Array Value} (hbA : Below (W.alloc (.cells cs 24)).drew.heap.size (W.alloc (.cells cs 24)).drew wA) : IsCells wA W.heap.size cs :=
  IsCells.of_block (IsCells.of_block (w' := (W.alloc (.cells cs 24)).drew) (isCells_new W cs 24) rfl) (hbA.block _ (by simp))
theorem call20 (w : World) (ys : Array Value) : (callFunc 20 ys).run Tryz.prog w = .ok (.enter 20 ys) w := by
  go_simp
theorem Calls.bel_first2 {P : Program} {f : FuncId} {args : Array Value} {W : World} {v : Value}
    (h : Calls P f args W fun e w' => e = .returned v ∧ Below W.heap.size W w') : Calls P f args W fun e w'' => e = .returned v ∧ ∃ u' : Bel W, w'' = u'.w :=
  h.mono fun _ w' ⟨he, hm⟩ => ⟨he, ⟨w', hm⟩, rfl⟩
theorem step_callv {P : Program} {f : FuncId} {xs : Array Operand} {ts : Array TypeId} {w : World} {ops : Array Oper} {o : Oper} {ac : Act} {K : Act → World → Prop} {Q : Exit → Act → World → Prop} {E : Prop} {R : Ending → World → Prop} (hgd : o.guard = none)
    (ho : o.op = .call { callee := .value (.func f), args := xs, argTypes := ts }) (hf : ∀ ys, (callFunc f ys).run P w = .ok (.enter f ys) w) (vs : Array Value) (hvs : xs.map ac.eval = vs) (hc : Calls P f vs w R) (hK : ∀ e w', R e w' → ∃ v, e = .returned v ∧ K (ac.put o.dst v) w') :
    if Region.wanted o (yielded ops ac.tmps) = true then Oper.wp P o ac w K Q else E := by
  have hw : Region.wanted o (yielded ops ac.tmps) = true := by simp [Region.wanted, hgd]
  rw [if_pos hw]
  unfold Oper.wp execOp
  have ev : ac.eval (Operand.func f) = .func (.func f) #[] #[] := rfl
  simp only [ho, resolve, Sem.run_bind, hvs, ev, Deferred.ofValue, Sem.run_pure, Result.andThen_ok, invoke, hf, Oper.upon, Array.append_empty, Array.empty_append]
  refine hc.mono ?_
  intro e w' h
  obtain ⟨v, rfl, hk⟩ := hK e w' h
  exact hk
theorem step_call3 {P : Program} {f : FuncId} {x1 x2 x3 : Operand} {ts : Array TypeId} {w : World} {ops : Array Oper} {o : Oper} {ac : Act} {K : Act → World → Prop} {Q : Exit → Act → World → Prop} {E : Prop} {R : Ending → World → Prop} {v1 v2 v3 : Value} (hgd : o.guard = none)
    (ho : o.op = .call { callee := .value (.func f), args := #[x1, x2, x3], argTypes := ts }) (hf : ∀ ys, (callFunc f ys).run P w = .ok (.enter f ys) w) (hc : Calls P f #[v1, v2, v3] w R) (h1 : ac.eval x1 = v1) (h2 : ac.eval x2 = v2) (h3 : ac.eval x3 = v3) (hK : ∀ e w', R e w' → ∃ v, e = .returned v ∧ K (ac.put o.dst v) w') :
    if Region.wanted o (yielded ops ac.tmps) = true then Oper.wp P o ac w K Q else E :=
  step_callv hgd ho hf _ (by simp [h1, h2, h3]) hc hK

set_option maxRecDepth 100000 in
set_option maxHeartbeats 8000000 in
theorem calls_F (w : World) (name : ByteArray) {ps la : Int} {nm tx : ByteArray} {ta : Option Addr} {tl tc : Nat} {aa : Option Addr} {ac : Nat} {A : List Vl} (hA : AsAt w aa A) (hlen : A.length * 72 ≤ 140737488351232) (hsz : ∀ v ∈ A, v.L.length * 16 ≤ 140737488351232) (hC : ∀ u va vc, Below w.heap.size w u → AsAt u va A → Calls Tryz.prog 20 #[.string name, .agg #[.int .i64 ps, .int .i64 la, .string nm, .string tx, .slice ta tl tc], .slice va A.length vc] u fun e w' => e = .returned (.tuple #[mkV 0 false 0 false ⟨#[]⟩, .int .i64 140]) ∧ Below u.heap.size u w') (K : Int) (hT : ∀ u, Calls Tryz.prog 21 #[.string name] u fun e w' => e = .returned (.int .i64 K) ∧ w' = u) (hK : K < 0 ∨ K ≠ (A.length : Int)) :
    Calls Tryz.prog 4 #[.string name, .agg #[.int .i64 ps, .int .i64 la, .string nm, .string tx, .slice ta tl tc], .slice aa A.length ac] w fun e w' => e = .returned (.bool true) ∧ Below w.heap.size w w' := by
  obtain ⟨W, hW⟩ : ∃ W, w.alloc (.cells #[.int .i64 ps, .int .i64 la, .string nm, .string tx, .slice ta tl tc] 45) = W := ⟨_, rfl⟩
  have hbW : Below w.heap.size w W := by rw [← hW]; exact below1 _ _
  have hx : IsCells W w.heap.size #[.int .i64 ps, .int .i64 la, .string nm, .string tx, .slice ta tl tc] := by rw [← hW]; exact isCells_new _ _ _
  have HW : Hid (w.alloc (.cells #[.int .i64 ps, .int .i64 la, .string nm, .string tx, .slice ta tl tc] 45) = W ∧ Below w.heap.size w W ∧ IsCells W w.heap.size #[.int .i64 ps, .int .i64 la, .string nm, .string tx, .slice ta tl tc]) := ⟨hW, hbW, hx⟩
  have HH : Hid (AsAt w aa A ∧ (∀ v ∈ A, v.L.length * 16 ≤ 140737488351232)) := ⟨hA, hsz⟩
  have HC20 : Hid (∀ u va vc, Below w.heap.size w u → AsAt u va A → Calls Tryz.prog 20 #[.string name, .agg #[.int .i64 ps, .int .i64 la, .string nm, .string tx, .slice ta tl tc], .slice va A.length vc] u fun e w' => e = .returned (.tuple #[mkV 0 false 0 false ⟨#[]⟩, .int .i64 140]) ∧ Below u.heap.size u w') := hC
  have HSM : Hid (∀ v ∈ A, Sm v) := fun v hv => by
    obtain ⟨i, hi⟩ := List.getElem?_of_mem hv
    obtain ⟨xa, xc, b, o, hok⟩ := hA i v hi
    exact hok.ok.sm
  have HT : Hid (∀ u, Calls Tryz.prog 21 #[.string name] u fun e w' => e = .returned (.int .i64 (K)) ∧ w' = u) := hT
  skip
  skip
  clear hW hbW hx hA hsz hC hT 
  have hl1 : A.length ≤ 1954687338213 := by omega
  go_enter Tryz.func4, Tryz.ntmps4
  go_wp2_with fail
  rw [HW.out.1]
  go_loopw [7, 8] (fun u7 u8 wr => ∃ (D : List Cp) (va : Option Addr) (vc : Nat), D.length ≤ A.length ∧ u7 = .slice va D.length vc ∧ u8 = .int .i64 (D.length : Int) ∧ Hid (CpSt W wr A D va vc)) (fun _ u8 _ => A.length - (intOf u8).toNat)
  case atStart => exact ⟨[], none, 0, by simp, rfl, rfl, CpSt.nil W W A (Below.refl _ _)⟩
  case round =>
    obtain ⟨D, va, vc, hD, rfl, rfl, HS⟩ := hrel
    by_cases hlt : D.length < A.length
    · have hltz : (D.length : Int) < (A.length : Int) := by omega
      have HBW : Hid (Below w.heap.size w wr) := HW.out.2.1.trans (HS.out.bel.mono HW.out.2.1.size)
      obtain ⟨v, hv⟩ : ∃ v, A[D.length]? = some v := ⟨_, List.getElem?_eq_getElem hlt⟩
      obtain ⟨xa, xc, b9, o9, hao⟩ := (HH.out.1.bel HBW.out) D.length v hv
      obtain ⟨rfl, lt0, c0, c1, c2, c3, c4, c5, ok0⟩ := hao
      have HV : Hid (A[D.length]? = some v) := hv
      have ho := own_any wr (c := xc) ok0 (HH.out.2 v (List.mem_of_getElem? hv))
      clear hv ok0
      go_wp2_with fail
      with_reducible refine ho.mono ?_
      rintro e w2 ⟨a1, c1', rfl, hss, hb, hlo⟩
      have HN : Hid (Below wr.heap.size wr w2 ∧ SsAt w2 a1 v.L ∧ ∀ b o, a1 = some ⟨b, o, none⟩ → wr.heap.size ≤ b ∧ b < w2.heap.size) := ⟨hb, hss, hlo⟩
      have HO2 : Hid ((w2.alloc (.cells #[.int .i64 v.k, .bool v.b, .int .i64 v.n, .bool v.no, .string v.t, .slice a1 v.L.length c1'] 24)).ownsRow W.heap.size 24 6 (.slice va D.length vc) D.length (flatC D)) := own_of_block (HS.out.below hb).own (fun k hk => Below.heap_alloc _ _ _ (by have := (own_block_lt (HS.out.below hb).own k hk).2; omega))
      have hws : W.heap.size ≤ w2.heap.size := (HS.out.below hb).bel.size
      clear hb hss hlo ho c0 c1 c2 c3 c4 c5
      have tok : True := trivial
      go_wp2_with (at_builtin; have _t := tok; refine wpList_app rfl _ _ rfl Tryz.underlying46 info24 rfl (by decide) W.heap.size (.slice va D.length vc) D.length (flatC D) rfl HO2.out (some ⟨w2.heap.size, 0, none⟩) 1 1 (vcl v a1 c1') rfl rfl (news6 w2 #[.int .i64 v.k, .bool v.b, .int .i64 v.n, .bool v.no, .string v.t, .slice a1 v.L.length c1']) (vcl_one _ _ _) (by unfold maxLen; omega) (by omega) (by simp; omega) ?_; intro v7 w7 hown7 hg7 _ hat7; clear tok _t; obtain ⟨la', lcap', hv7⟩ := own_slice hown7; subst hv7; have HST7 : Hid (CpSt W w7 A (D ++ [(v, a1, c1')]) la' lcap') := HS.out.push HV.out HN.out.1 HN.out.2.1 HN.out.2.2 hown7 hg7 hat7; clear hown7 hg7 hat7)
      go_roundw
      case rel => exact ⟨D ++ [(v, a1, c1')], la', lcap', by simp; omega, by rw [List.length_append]; rfl, by rw [List.length_append]; go_num, HST7⟩
      case measure => simp [intOf]; omega
    · have hltz : ¬ (D.length : Int) < (A.length : Int) := by omega
      have hde : D.length = A.length := by omega
      have HDE : Hid (D.length = A.length) := hde
      have HO2 : Hid ((wr.alloc (.cells #[.int .i64 0, .bool false, .int .i64 0, .bool false, .string ⟨#[98, 101, 104, 105, 110, 100]⟩, .slice none 0 0] 24)).ownsRow W.heap.size 24 6 (.slice va D.length vc) D.length (flatC D)) := own_of_block HS.out.own (fun k hk => Below.heap_alloc _ _ _ (by have := (own_block_lt HS.out.own k hk).2; omega))
      have hws : W.heap.size ≤ wr.heap.size := HS.out.bel.size
      have tok : True := trivial
      have HZ : Hid (vcl bhV none 0 = [.int .i64 0, .bool false, .int .i64 0, .bool false, .string ⟨#[98, 101, 104, 105, 110, 100]⟩, .slice none 0 0]) := rfl
      go_upto_region 7 with (at_builtin; have _t := tok; refine wpList_app rfl _ _ rfl Tryz.underlying46 info24 rfl (by decide) W.heap.size (.slice va D.length vc) D.length (flatC D) rfl HO2.out (some ⟨wr.heap.size, 0, none⟩) 1 1 (vcl bhV none 0) rfl rfl (news6 wr #[.int .i64 0, .bool false, .int .i64 0, .bool false, .string ⟨#[98, 101, 104, 105, 110, 100]⟩, .slice none 0 0]) (vcl_one _ _ _) (by unfold maxLen; omega) (by omega) (by simp; omega) ?_; intro v7 w7 hown7 hg7 _ hat7; clear tok _t; obtain ⟨la', lcap', hv7⟩ := own_slice hown7; subst hv7; have HST7 : Hid (CpSt W w7 (A ++ [bhV]) (D ++ [(bhV, none, 0)]) la' lcap') := (HS.out.more (by omega) bhV).push (by rw [HDE.out]; simp) (Below.refl _ _) (fun i s hs => by simp at hs) (fun b o e => by cases e) hown7 hg7 hat7; have hcap : D.length + 1 ≤ lcap' := (row_cell hown7).1; clear hown7 hg7 hat7)
      have HAI : Hid (AsAt w7 la' (A ++ [bhV])) := HST7.out.at_ (by simp [HDE.out]) (fun v hv => by
        rcases List.mem_append.1 hv with h | h
        · exact HSM.out v h
        · simp at h
          rw [h]
          exact bh_sm)
      have HAA : Hid (AsAt w7 la' A) := fun i v hv => HAI.out i v (by rw [List.getElem?_append_left (List.getElem?_eq_some_iff.1 hv).1]; exact hv)
      have HB7 : Hid (Below w.heap.size w w7) := HW.out.2.1.trans (HST7.out.bel.mono HW.out.2.1.size)
      have HX7 : Hid (IsCells w7 w.heap.size #[.int .i64 ps, .int .i64 la, .string nm, .string tx, .slice ta tl tc]) := HW.out.2.2.of_block (HST7.out.bel.block _ HW.out.2.2.lt)
      obtain ⟨e0, e1, e2, e3, e4⟩ : w7.cell? ⟨w.heap.size, 0, none⟩ = some (.int .i64 ps) ∧ w7.cell? ⟨w.heap.size, 1, none⟩ = some (.int .i64 la) ∧ w7.cell? ⟨w.heap.size, 2, none⟩ = some (.string nm) ∧ w7.cell? ⟨w.heap.size, 3, none⟩ = some (.string tx) ∧ w7.cell? ⟨w.heap.size, 4, none⟩ = some (.slice ta tl tc) := ⟨HX7.out.cell 0, HX7.out.cell 1, HX7.out.cell 2, HX7.out.cell 3, HX7.out.cell 4⟩
      have bl := HX7.out.lt
      clear HO2 HZ hws
      have hcap2 : A.length + 1 ≤ lcap' := by rw [← HDE.out]; exact hcap
      have hcap3 : (A.length : Int) ≤ (lcap' : Int) := by omega
      go_cut [9, 10] (fun s9 s10 wx => ∃ P : Nat, s9 = .pointer (some ⟨P, 0, none⟩) ∧ s10 = .int .i64 140 ∧ Hid (Below w7.heap.size w7 wx ∧ IsCells wx P #[.int .i64 0, .bool false, .int .i64 0, .bool false, .string ⟨#[]⟩, .slice none 0 0]))
      case first =>
        have HB : Hid (Below w7.heap.size w7 w7.drew) := (Below.refl _ _).drew
        go_region_law (first | (refine step_call3 (by rfl) (by rfl) (call20 _) (HC20.out _ la' lcap' (HB7.out.trans (Below.mono (by first | exact HB.out | exact HB.out.alloc HB.out.size _) HB7.out.size)) (HAA.out.bel (by first | exact HB.out | exact HB.out.alloc HB.out.size _))) (by rfl) (by rfl) (by rfl) ?_; rintro e wA ⟨rfl, hb⟩; refine ⟨_, rfl, ?_⟩; have hbp := Below.trans (by first | exact HB.out | exact HB.out.alloc HB.out.size _) (hb.mono (Below.size (by first | exact HB.out | exact HB.out.alloc HB.out.size _))); (try (have hq := zd1b hb; have hl0 := IsCells.lt hq; have HZ0 : Hid (IsCells wA w7.heap.size #[.int .i64 0, .bool false, .int .i64 0, .bool false, .string ⟨#[]⟩, .slice none 0 0]) := hq; have hq2 := six_cells hq; obtain ⟨g0, g1, g2, g3, g4, g5⟩ := hq2; have hq3 := six_frozen hq; obtain ⟨gf0, gf1, gf2, gf3, gf4, gf5⟩ := hq3; clear hq)); clear HB; have HB : Hid (Below w7.heap.size w7 wA) := hbp; clear hbp hb))
        all_goals (
          go_wp2_with fail
          go_meet
          first | with_reducible exact ⟨_, rfl, rfl, hid2 (HB.out.alloc HB.out.size _) (isCells_new _ _ _)⟩ | with_reducible exact ⟨_, rfl, rfl, hid2 (below6 HB.out (Nat.le_refl _) _ _ _ _ _ _) (set6 HZ0.out _ _ _ _ _ _)⟩)
      case rest =>
        obtain ⟨P, rfl, rfl, HC⟩ := hcut
        clear e0 e1 e2 e3 e4
        obtain ⟨p0, p1, p2, p3, p4, p5⟩ := six_cells HC.out.2
        have bp := HC.out.2.lt
        have HBC : Hid (Below w.heap.size w wc) := HB7.out.trans (HC.out.1.mono HB7.out.size)
        have HF : Hid (∀ u : Bel wc, Below w.heap.size w u.w) := fun u => HBC.out.trans (u.h.mono HBC.out.size)
        have hT := HT.out wc
        have D14 : ∀ u : Bel wc, Calls Tryz.prog 14 #[mkV 0 false 0 false ⟨#[]⟩, mkV 0 false 0 false ⟨#[]⟩] u.w fun e w' => e = .returned (.bool true) ∧ Below u.w.heap.size u.w w' := fun u => dsame_any u.w (L := []) (a := none) (a' := none) (fun i s hs => by simp at hs) (fun i s hs => by simp at hs) (by simp)
        have F14 := D14 ⟨wc, Below.refl _ _⟩
        change Calls Tryz.prog 14 _ wc (fun e w' => _ ∧ Below wc.heap.size wc w') at F14
        by_cases hk : K < 0
        · go_wp2_with (first | (go_at_call 21; with_reducible refine hT.mono ?_; rintro e wc ⟨rfl, rfl⟩) | (go_at_call 14; with_reducible refine (Calls.bel_first2 F14).mono ?_; rintro e _ ⟨rfl, g, rfl⟩))
          go_ret
          exact ⟨rfl, HF.out _⟩
        · have hk2 : (K != (A.length : Int)) = true := by
            rcases hK with h | h
            · exact absurd h hk
            · simpa using h
          clear hK
          go_wp2_with (first | (go_at_call 21; with_reducible refine hT.mono ?_; rintro e wc ⟨rfl, rfl⟩) | (go_at_call 14; with_reducible refine (Calls.bel_first2 F14).mono ?_; rintro e _ ⟨rfl, g, rfl⟩))
          go_ret
          exact ⟨rfl, HF.out _⟩

set_option maxRecDepth 100000 in
set_option maxHeartbeats 8000000 in
theorem calls_B (w : World) (name : ByteArray) {ps la : Int} {nm tx : ByteArray} {ta : Option Addr} {tl tc : Nat} {aa : Option Addr} {ac : Nat} {A : List Vl} (hA : AsAt w aa A) (hlen : A.length * 72 ≤ 140737488351232) (hsz : ∀ v ∈ A, v.L.length * 16 ≤ 140737488351232) (hC : ∀ u va vc, Below w.heap.size w u → AsAt u va A → Calls Tryz.prog 20 #[.string name, .agg #[.int .i64 ps, .int .i64 la, .string nm, .string tx, .slice ta tl tc], .slice va A.length vc] u fun e w' => e = .returned (.tuple #[mkV 0 false 0 false ⟨#[]⟩, .int .i64 141]) ∧ Below u.heap.size u w') (hT : ∀ u, Calls Tryz.prog 21 #[.string name] u fun e w' => e = .returned (.int .i64 (A.length : Int)) ∧ w' = u) (hbad : A.all Vl.can = false) :
    Calls Tryz.prog 4 #[.string name, .agg #[.int .i64 ps, .int .i64 la, .string nm, .string tx, .slice ta tl tc], .slice aa A.length ac] w fun e w' => e = .returned (.bool true) ∧ Below w.heap.size w w' := by
  obtain ⟨W, hW⟩ : ∃ W, w.alloc (.cells #[.int .i64 ps, .int .i64 la, .string nm, .string tx, .slice ta tl tc] 45) = W := ⟨_, rfl⟩
  have hbW : Below w.heap.size w W := by rw [← hW]; exact below1 _ _
  have hx : IsCells W w.heap.size #[.int .i64 ps, .int .i64 la, .string nm, .string tx, .slice ta tl tc] := by rw [← hW]; exact isCells_new _ _ _
  have HW : Hid (w.alloc (.cells #[.int .i64 ps, .int .i64 la, .string nm, .string tx, .slice ta tl tc] 45) = W ∧ Below w.heap.size w W ∧ IsCells W w.heap.size #[.int .i64 ps, .int .i64 la, .string nm, .string tx, .slice ta tl tc]) := ⟨hW, hbW, hx⟩
  have HH : Hid (AsAt w aa A ∧ (∀ v ∈ A, v.L.length * 16 ≤ 140737488351232)) := ⟨hA, hsz⟩
  have HC20 : Hid (∀ u va vc, Below w.heap.size w u → AsAt u va A → Calls Tryz.prog 20 #[.string name, .agg #[.int .i64 ps, .int .i64 la, .string nm, .string tx, .slice ta tl tc], .slice va A.length vc] u fun e w' => e = .returned (.tuple #[mkV 0 false 0 false ⟨#[]⟩, .int .i64 141]) ∧ Below u.heap.size u w') := hC
  have HSM : Hid (∀ v ∈ A, Sm v) := fun v hv => by
    obtain ⟨i, hi⟩ := List.getElem?_of_mem hv
    obtain ⟨xa, xc, b, o, hok⟩ := hA i v hi
    exact hok.ok.sm
  have HT : Hid (∀ u, Calls Tryz.prog 21 #[.string name] u fun e w' => e = .returned (.int .i64 ((A.length : Int))) ∧ w' = u) := hT
  have HM : Hid (A.all Vl.can = false) := hbad
  skip
  clear hW hbW hx hA hsz hC hT hbad
  have hl1 : A.length ≤ 1954687338213 := by omega
  go_enter Tryz.func4, Tryz.ntmps4
  go_wp2_with fail
  rw [HW.out.1]
  go_loopw [7, 8] (fun u7 u8 wr => ∃ (D : List Cp) (va : Option Addr) (vc : Nat), D.length ≤ A.length ∧ u7 = .slice va D.length vc ∧ u8 = .int .i64 (D.length : Int) ∧ Hid (CpSt W wr A D va vc)) (fun _ u8 _ => A.length - (intOf u8).toNat)
  case atStart => exact ⟨[], none, 0, by simp, rfl, rfl, CpSt.nil W W A (Below.refl _ _)⟩
  case round =>
    obtain ⟨D, va, vc, hD, rfl, rfl, HS⟩ := hrel
    by_cases hlt : D.length < A.length
    · have hltz : (D.length : Int) < (A.length : Int) := by omega
      have HBW : Hid (Below w.heap.size w wr) := HW.out.2.1.trans (HS.out.bel.mono HW.out.2.1.size)
      obtain ⟨v, hv⟩ : ∃ v, A[D.length]? = some v := ⟨_, List.getElem?_eq_getElem hlt⟩
      obtain ⟨xa, xc, b9, o9, hao⟩ := (HH.out.1.bel HBW.out) D.length v hv
      obtain ⟨rfl, lt0, c0, c1, c2, c3, c4, c5, ok0⟩ := hao
      have HV : Hid (A[D.length]? = some v) := hv
      have ho := own_any wr (c := xc) ok0 (HH.out.2 v (List.mem_of_getElem? hv))
      clear hv ok0
      go_wp2_with fail
      with_reducible refine ho.mono ?_
      rintro e w2 ⟨a1, c1', rfl, hss, hb, hlo⟩
      have HN : Hid (Below wr.heap.size wr w2 ∧ SsAt w2 a1 v.L ∧ ∀ b o, a1 = some ⟨b, o, none⟩ → wr.heap.size ≤ b ∧ b < w2.heap.size) := ⟨hb, hss, hlo⟩
      have HO2 : Hid ((w2.alloc (.cells #[.int .i64 v.k, .bool v.b, .int .i64 v.n, .bool v.no, .string v.t, .slice a1 v.L.length c1'] 24)).ownsRow W.heap.size 24 6 (.slice va D.length vc) D.length (flatC D)) := own_of_block (HS.out.below hb).own (fun k hk => Below.heap_alloc _ _ _ (by have := (own_block_lt (HS.out.below hb).own k hk).2; omega))
      have hws : W.heap.size ≤ w2.heap.size := (HS.out.below hb).bel.size
      clear hb hss hlo ho c0 c1 c2 c3 c4 c5
      have tok : True := trivial
      go_wp2_with (at_builtin; have _t := tok; refine wpList_app rfl _ _ rfl Tryz.underlying46 info24 rfl (by decide) W.heap.size (.slice va D.length vc) D.length (flatC D) rfl HO2.out (some ⟨w2.heap.size, 0, none⟩) 1 1 (vcl v a1 c1') rfl rfl (news6 w2 #[.int .i64 v.k, .bool v.b, .int .i64 v.n, .bool v.no, .string v.t, .slice a1 v.L.length c1']) (vcl_one _ _ _) (by unfold maxLen; omega) (by omega) (by simp; omega) ?_; intro v7 w7 hown7 hg7 _ hat7; clear tok _t; obtain ⟨la', lcap', hv7⟩ := own_slice hown7; subst hv7; have HST7 : Hid (CpSt W w7 A (D ++ [(v, a1, c1')]) la' lcap') := HS.out.push HV.out HN.out.1 HN.out.2.1 HN.out.2.2 hown7 hg7 hat7; clear hown7 hg7 hat7)
      go_roundw
      case rel => exact ⟨D ++ [(v, a1, c1')], la', lcap', by simp; omega, by rw [List.length_append]; rfl, by rw [List.length_append]; go_num, HST7⟩
      case measure => simp [intOf]; omega
    · have hltz : ¬ (D.length : Int) < (A.length : Int) := by omega
      have hde : D.length = A.length := by omega
      have HDE : Hid (D.length = A.length) := hde
      have HO2 : Hid ((wr.alloc (.cells #[.int .i64 0, .bool false, .int .i64 0, .bool false, .string ⟨#[98, 101, 104, 105, 110, 100]⟩, .slice none 0 0] 24)).ownsRow W.heap.size 24 6 (.slice va D.length vc) D.length (flatC D)) := own_of_block HS.out.own (fun k hk => Below.heap_alloc _ _ _ (by have := (own_block_lt HS.out.own k hk).2; omega))
      have hws : W.heap.size ≤ wr.heap.size := HS.out.bel.size
      have tok : True := trivial
      have HZ : Hid (vcl bhV none 0 = [.int .i64 0, .bool false, .int .i64 0, .bool false, .string ⟨#[98, 101, 104, 105, 110, 100]⟩, .slice none 0 0]) := rfl
      go_upto_region 7 with (at_builtin; have _t := tok; refine wpList_app rfl _ _ rfl Tryz.underlying46 info24 rfl (by decide) W.heap.size (.slice va D.length vc) D.length (flatC D) rfl HO2.out (some ⟨wr.heap.size, 0, none⟩) 1 1 (vcl bhV none 0) rfl rfl (news6 wr #[.int .i64 0, .bool false, .int .i64 0, .bool false, .string ⟨#[98, 101, 104, 105, 110, 100]⟩, .slice none 0 0]) (vcl_one _ _ _) (by unfold maxLen; omega) (by omega) (by simp; omega) ?_; intro v7 w7 hown7 hg7 _ hat7; clear tok _t; obtain ⟨la', lcap', hv7⟩ := own_slice hown7; subst hv7; have HST7 : Hid (CpSt W w7 (A ++ [bhV]) (D ++ [(bhV, none, 0)]) la' lcap') := (HS.out.more (by omega) bhV).push (by rw [HDE.out]; simp) (Below.refl _ _) (fun i s hs => by simp at hs) (fun b o e => by cases e) hown7 hg7 hat7; have hcap : D.length + 1 ≤ lcap' := (row_cell hown7).1; clear hown7 hg7 hat7)
      have HAI : Hid (AsAt w7 la' (A ++ [bhV])) := HST7.out.at_ (by simp [HDE.out]) (fun v hv => by
        rcases List.mem_append.1 hv with h | h
        · exact HSM.out v h
        · simp at h
          rw [h]
          exact bh_sm)
      have HAA : Hid (AsAt w7 la' A) := fun i v hv => HAI.out i v (by rw [List.getElem?_append_left (List.getElem?_eq_some_iff.1 hv).1]; exact hv)
      have HB7 : Hid (Below w.heap.size w w7) := HW.out.2.1.trans (HST7.out.bel.mono HW.out.2.1.size)
      have HX7 : Hid (IsCells w7 w.heap.size #[.int .i64 ps, .int .i64 la, .string nm, .string tx, .slice ta tl tc]) := HW.out.2.2.of_block (HST7.out.bel.block _ HW.out.2.2.lt)
      obtain ⟨e0, e1, e2, e3, e4⟩ : w7.cell? ⟨w.heap.size, 0, none⟩ = some (.int .i64 ps) ∧ w7.cell? ⟨w.heap.size, 1, none⟩ = some (.int .i64 la) ∧ w7.cell? ⟨w.heap.size, 2, none⟩ = some (.string nm) ∧ w7.cell? ⟨w.heap.size, 3, none⟩ = some (.string tx) ∧ w7.cell? ⟨w.heap.size, 4, none⟩ = some (.slice ta tl tc) := ⟨HX7.out.cell 0, HX7.out.cell 1, HX7.out.cell 2, HX7.out.cell 3, HX7.out.cell 4⟩
      have bl := HX7.out.lt
      clear HO2 HZ hws
      have hcap2 : A.length + 1 ≤ lcap' := by rw [← HDE.out]; exact hcap
      have hcap3 : (A.length : Int) ≤ (lcap' : Int) := by omega
      go_cut [9, 10] (fun s9 s10 wx => ∃ P : Nat, s9 = .pointer (some ⟨P, 0, none⟩) ∧ s10 = .int .i64 141 ∧ Hid (Below w7.heap.size w7 wx ∧ IsCells wx P #[.int .i64 0, .bool false, .int .i64 0, .bool false, .string ⟨#[]⟩, .slice none 0 0]))
      case first =>
        have HB : Hid (Below w7.heap.size w7 w7.drew) := (Below.refl _ _).drew
        go_region_law (first | (refine step_call3 (by rfl) (by rfl) (call20 _) (HC20.out _ la' lcap' (HB7.out.trans (Below.mono (by first | exact HB.out | exact HB.out.alloc HB.out.size _) HB7.out.size)) (HAA.out.bel (by first | exact HB.out | exact HB.out.alloc HB.out.size _))) (by rfl) (by rfl) (by rfl) ?_; rintro e wA ⟨rfl, hb⟩; refine ⟨_, rfl, ?_⟩; have hbp := Below.trans (by first | exact HB.out | exact HB.out.alloc HB.out.size _) (hb.mono (Below.size (by first | exact HB.out | exact HB.out.alloc HB.out.size _))); (try (have hq := zd1b hb; have hl0 := IsCells.lt hq; have HZ0 : Hid (IsCells wA w7.heap.size #[.int .i64 0, .bool false, .int .i64 0, .bool false, .string ⟨#[]⟩, .slice none 0 0]) := hq; have hq2 := six_cells hq; obtain ⟨g0, g1, g2, g3, g4, g5⟩ := hq2; have hq3 := six_frozen hq; obtain ⟨gf0, gf1, gf2, gf3, gf4, gf5⟩ := hq3; clear hq)); clear HB; have HB : Hid (Below w7.heap.size w7 wA) := hbp; clear hbp hb))
        all_goals (
          go_wp2_with fail
          go_meet
          first | with_reducible exact ⟨_, rfl, rfl, hid2 (HB.out.alloc HB.out.size _) (isCells_new _ _ _)⟩ | with_reducible exact ⟨_, rfl, rfl, hid2 (below6 HB.out (Nat.le_refl _) _ _ _ _ _ _) (set6 HZ0.out _ _ _ _ _ _)⟩)
      case rest =>
        obtain ⟨P, rfl, rfl, HC⟩ := hcut
        clear e0 e1 e2 e3 e4
        obtain ⟨p0, p1, p2, p3, p4, p5⟩ := six_cells HC.out.2
        have bp := HC.out.2.lt
        have HBC : Hid (Below w.heap.size w wc) := HB7.out.trans (HC.out.1.mono HB7.out.size)
        have HF : Hid (∀ u : Bel wc, Below w.heap.size w u.w) := fun u => HBC.out.trans (u.h.mono HBC.out.size)
        have hT := HT.out wc
        have k1 : ¬ (A.length : Int) < 0 := by omega
        have k2 : ((A.length : Int) != (A.length : Int)) = false := by simp
        go_wp2_with (go_at_call 21; with_reducible refine hT.mono ?_; rintro e wc ⟨rfl, rfl⟩)
        go_loopw [12] (fun u12 wr => ∃ i : Nat, i ≤ A.length ∧ u12 = .int .i64 (i : Int) ∧ Hid (Below wc.heap.size wc wr ∧ (A.take i).all Vl.can = true)) (fun u12 _ => A.length - (intOf u12).toNat)
        case atStart => exact ⟨0, by omega, rfl, Below.refl _ _, rfl⟩
        case round =>
          obtain ⟨i, hi, rfl, HR⟩ := hrel
          clear p0 p1 p2 p3 p4 p5 bp hT
          have HPC : Hid (IsCells wr P #[.int .i64 0, .bool false, .int .i64 0, .bool false, .string ⟨#[]⟩, .slice none 0 0]) := HC.out.2.of_block (HR.out.1.block _ HC.out.2.lt)
          obtain ⟨p0, p1, p2, p3, p4, p5⟩ := six_cells HPC.out
          have bp := HPC.out.lt
          have HWR : Hid (Below w.heap.size w wr) := HBC.out.trans (HR.out.1.mono HBC.out.size)
          have HW7 : Hid (Below w7.heap.size w7 wr) := HC.out.1.trans (HR.out.1.mono HC.out.1.size)
          have HFR : Hid (∀ u : Bel wr, Below w.heap.size w u.w) := fun u => HWR.out.trans (u.h.mono HWR.out.size)
          have D14z : ∀ u : Bel wr, Calls Tryz.prog 14 #[mkV 0 false 0 false ⟨#[]⟩, mkV 0 false 0 false ⟨#[]⟩] u.w fun e w' => e = .returned (.bool true) ∧ Below u.w.heap.size u.w w' := fun u => dsame_any u.w (L := []) (a := none) (a' := none) (fun i s hs => by simp at hs) (fun i s hs => by simp at hs) (by simp)
          by_cases hlt : i < A.length
          · have hltz : (i : Int) < (A.length : Int) := by omega
            obtain ⟨v, hv⟩ : ∃ v, A[i]? = some v := ⟨_, List.getElem?_eq_getElem hlt⟩
            obtain ⟨xa, xc, b1, o1, hao⟩ := (HH.out.1.bel HWR.out) i v hv
            obtain ⟨ya, yc, b2, o2, hbo⟩ := (HAA.out.bel HW7.out) i v hv
            obtain ⟨rfl, lt1, c0, c1, c2, c3, c4, c5, ok1⟩ := hao
            obtain ⟨rfl, lt2, d0, d1, d2, d3, d4, d5, ok2⟩ := hbo
            have HT2 : Hid ((A.take (i + 1)).all Vl.can = v.can) := by show _ = _; rw [List.take_add_one, hv, List.all_append, HR.out.2]; simp
            have HMB : Hid (v.can = false → A.all Vl.can = false) := fun h => by rw [List.all_eq_false]; exact ⟨v, List.mem_of_getElem? hv, by simp [h]⟩
            clear hv
            obtain ⟨vk, vb, vn, vo, vt, vL⟩ := v
            simp only at c0 c1 c2 c3 c4 c5 d0 d1 d2 d3 d4 d5
            have D14v : ∀ u : Bel wr, Calls Tryz.prog 14 #[.agg #[.int .i64 vk, .bool vb, .int .i64 vn, .bool vo, .string vt, .slice ya vL.length yc], .agg #[.int .i64 vk, .bool vb, .int .i64 vn, .bool vo, .string vt, .slice xa vL.length xc]] u.w fun e w' => e = .returned (.bool true) ∧ Below u.w.heap.size u.w w' := fun u => dsame_any u.w (ok2.at_.bel u.h) (ok1.at_.bel u.h) ok1.len
            have C13v : ∀ u : Bel wr, Calls Tryz.prog 13 #[.agg #[.int .i64 vk, .bool vb, .int .i64 vn, .bool vo, .string vt, .slice xa vL.length xc]] u.w fun e w' => e = .returned (.bool (Vl.can ⟨vk, vb, vn, vo, vt, vL⟩)) ∧ Below u.w.heap.size u.w w' := fun u => dcan_any u.w (ok1.bel u.h)
            generalize Vl.can ⟨vk, vb, vn, vo, vt, vL⟩ = q at *
            go_wp2_with fail
            refine wp_region_bel (by kernel_rfl) (by kernel_rfl) ?_
            intro hne
            repeat go_big_quiet_step ((go_at_call 14; with_reducible exact Calls.bel_of (D14v _)))
            refine wpQuiet_nil ?_
            rintro _ ⟨u, rfl⟩
            cases q with
            | true =>
              go_wp2_with (go_at_call 13; with_reducible refine (Calls.bel_of (C13v _)).mono ?_; rintro e _ ⟨rfl, g, rfl⟩)
              go_roundw
              case rel => exact ⟨i + 1, by omega, by go_num, HR.out.1.trans (g.h.mono HR.out.1.size), HT2.out⟩
              case measure => simp [intOf]; omega
            | false =>
              go_wp2_with (first | (go_at_call 13; with_reducible refine (Calls.bel_of (C13v _)).mono ?_; rintro e _ ⟨rfl, g, rfl⟩) | (go_at_call 14; with_reducible refine (Calls.bel_of (D14z _)).mono ?_; rintro e _ ⟨rfl, g2, rfl⟩))
              go_ret
              exact ⟨rfl, HFR.out _⟩
          · have hltz : ¬ (i : Int) < (A.length : Int) := by omega
            have h5 := HR.out.2
            rw [List.take_of_length_le (by omega), HM.out] at h5
            cases h5

set_option maxRecDepth 100000 in
set_option maxHeartbeats 8000000 in
theorem calls_O (w : World) (name : ByteArray) {ps la : Int} {nm tx : ByteArray} {ta : Option Addr} {tl tc : Nat} {aa : Option Addr} {ac : Nat} {A : List Vl} {rk rn : Int} {rb rno : Bool} {rt : ByteArray} (hA : AsAt w aa A) (hlen : A.length * 72 ≤ 140737488351232) (hsz : ∀ v ∈ A, v.L.length * 16 ≤ 140737488351232) (hC : ∀ u va vc, Below w.heap.size w u → AsAt u va A → Calls Tryz.prog 20 #[.string name, .agg #[.int .i64 ps, .int .i64 la, .string nm, .string tx, .slice ta tl tc], .slice va A.length vc] u fun e w' => e = .returned (.tuple #[mkV rk rb rn rno rt, .int .i64 0]) ∧ Below u.heap.size u w') (hT : ∀ u, Calls Tryz.prog 21 #[.string name] u fun e w' => e = .returned (.int .i64 (A.length : Int)) ∧ w' = u) (hall : A.all Vl.can = true) (hD : ∀ u x xc, AsAt u x A → Calls Tryz.prog 22 #[.string name, .agg #[.int .i64 ps, .int .i64 la, .string nm, .string tx, .slice ta tl tc], .slice x A.length xc] u fun e w' => e = .returned (mkV rk rb rn rno rt) ∧ Below u.heap.size u w') :
    Calls Tryz.prog 4 #[.string name, .agg #[.int .i64 ps, .int .i64 la, .string nm, .string tx, .slice ta tl tc], .slice aa A.length ac] w fun e w' => e = .returned (.bool true) ∧ Below w.heap.size w w' := by
  obtain ⟨W, hW⟩ : ∃ W, w.alloc (.cells #[.int .i64 ps, .int .i64 la, .string nm, .string tx, .slice ta tl tc] 45) = W := ⟨_, rfl⟩
  have hbW : Below w.heap.size w W := by rw [← hW]; exact below1 _ _
  have hx : IsCells W w.heap.size #[.int .i64 ps, .int .i64 la, .string nm, .string tx, .slice ta tl tc] := by rw [← hW]; exact isCells_new _ _ _
  have HW : Hid (w.alloc (.cells #[.int .i64 ps, .int .i64 la, .string nm, .string tx, .slice ta tl tc] 45) = W ∧ Below w.heap.size w W ∧ IsCells W w.heap.size #[.int .i64 ps, .int .i64 la, .string nm, .string tx, .slice ta tl tc]) := ⟨hW, hbW, hx⟩
  have HH : Hid (AsAt w aa A ∧ (∀ v ∈ A, v.L.length * 16 ≤ 140737488351232)) := ⟨hA, hsz⟩
  have HC20 : Hid (∀ u va vc, Below w.heap.size w u → AsAt u va A → Calls Tryz.prog 20 #[.string name, .agg #[.int .i64 ps, .int .i64 la, .string nm, .string tx, .slice ta tl tc], .slice va A.length vc] u fun e w' => e = .returned (.tuple #[mkV rk rb rn rno rt, .int .i64 0]) ∧ Below u.heap.size u w') := hC
  have HSM : Hid (∀ v ∈ A, Sm v) := fun v hv => by
    obtain ⟨i, hi⟩ := List.getElem?_of_mem hv
    obtain ⟨xa, xc, b, o, hok⟩ := hA i v hi
    exact hok.ok.sm
  have HT : Hid (∀ u, Calls Tryz.prog 21 #[.string name] u fun e w' => e = .returned (.int .i64 ((A.length : Int))) ∧ w' = u) := hT
  have HM : Hid (A.all Vl.can = true) := hall
  have HD : Hid (∀ u x xc, AsAt u x A → Calls Tryz.prog 22 #[.string name, .agg #[.int .i64 ps, .int .i64 la, .string nm, .string tx, .slice ta tl tc], .slice x A.length xc] u fun e w' => e = .returned (mkV rk rb rn rno rt) ∧ Below u.heap.size u w') := hD
  clear hW hbW hx hA hsz hC hT hall hD
  have hl1 : A.length ≤ 1954687338213 := by omega
  go_enter Tryz.func4, Tryz.ntmps4
  go_wp2_with fail
  rw [HW.out.1]
  go_loopw [7, 8] (fun u7 u8 wr => ∃ (D : List Cp) (va : Option Addr) (vc : Nat), D.length ≤ A.length ∧ u7 = .slice va D.length vc ∧ u8 = .int .i64 (D.length : Int) ∧ Hid (CpSt W wr A D va vc)) (fun _ u8 _ => A.length - (intOf u8).toNat)
  case atStart => exact ⟨[], none, 0, by simp, rfl, rfl, CpSt.nil W W A (Below.refl _ _)⟩
  case round =>
    obtain ⟨D, va, vc, hD, rfl, rfl, HS⟩ := hrel
    by_cases hlt : D.length < A.length
    · have hltz : (D.length : Int) < (A.length : Int) := by omega
      have HBW : Hid (Below w.heap.size w wr) := HW.out.2.1.trans (HS.out.bel.mono HW.out.2.1.size)
      obtain ⟨v, hv⟩ : ∃ v, A[D.length]? = some v := ⟨_, List.getElem?_eq_getElem hlt⟩
      obtain ⟨xa, xc, b9, o9, hao⟩ := (HH.out.1.bel HBW.out) D.length v hv
      obtain ⟨rfl, lt0, c0, c1, c2, c3, c4, c5, ok0⟩ := hao
      have HV : Hid (A[D.length]? = some v) := hv
      have ho := own_any wr (c := xc) ok0 (HH.out.2 v (List.mem_of_getElem? hv))
      clear hv ok0
      go_wp2_with fail
      with_reducible refine ho.mono ?_
      rintro e w2 ⟨a1, c1', rfl, hss, hb, hlo⟩
      have HN : Hid (Below wr.heap.size wr w2 ∧ SsAt w2 a1 v.L ∧ ∀ b o, a1 = some ⟨b, o, none⟩ → wr.heap.size ≤ b ∧ b < w2.heap.size) := ⟨hb, hss, hlo⟩
      have HO2 : Hid ((w2.alloc (.cells #[.int .i64 v.k, .bool v.b, .int .i64 v.n, .bool v.no, .string v.t, .slice a1 v.L.length c1'] 24)).ownsRow W.heap.size 24 6 (.slice va D.length vc) D.length (flatC D)) := own_of_block (HS.out.below hb).own (fun k hk => Below.heap_alloc _ _ _ (by have := (own_block_lt (HS.out.below hb).own k hk).2; omega))
      have hws : W.heap.size ≤ w2.heap.size := (HS.out.below hb).bel.size
      clear hb hss hlo ho c0 c1 c2 c3 c4 c5
      have tok : True := trivial
      go_wp2_with (at_builtin; have _t := tok; refine wpList_app rfl _ _ rfl Tryz.underlying46 info24 rfl (by decide) W.heap.size (.slice va D.length vc) D.length (flatC D) rfl HO2.out (some ⟨w2.heap.size, 0, none⟩) 1 1 (vcl v a1 c1') rfl rfl (news6 w2 #[.int .i64 v.k, .bool v.b, .int .i64 v.n, .bool v.no, .string v.t, .slice a1 v.L.length c1']) (vcl_one _ _ _) (by unfold maxLen; omega) (by omega) (by simp; omega) ?_; intro v7 w7 hown7 hg7 _ hat7; clear tok _t; obtain ⟨la', lcap', hv7⟩ := own_slice hown7; subst hv7; have HST7 : Hid (CpSt W w7 A (D ++ [(v, a1, c1')]) la' lcap') := HS.out.push HV.out HN.out.1 HN.out.2.1 HN.out.2.2 hown7 hg7 hat7; clear hown7 hg7 hat7)
      go_roundw
      case rel => exact ⟨D ++ [(v, a1, c1')], la', lcap', by simp; omega, by rw [List.length_append]; rfl, by rw [List.length_append]; go_num, HST7⟩
      case measure => simp [intOf]; omega
    · have hltz : ¬ (D.length : Int) < (A.length : Int) := by omega
      have hde : D.length = A.length := by omega
      have HDE : Hid (D.length = A.length) := hde
      have HO2 : Hid ((wr.alloc (.cells #[.int .i64 0, .bool false, .int .i64 0, .bool false, .string ⟨#[98, 101, 104, 105, 110, 100]⟩, .slice none 0 0] 24)).ownsRow W.heap.size 24 6 (.slice va D.length vc) D.length (flatC D)) := own_of_block HS.out.own (fun k hk => Below.heap_alloc _ _ _ (by have := (own_block_lt HS.out.own k hk).2; omega))
      have hws : W.heap.size ≤ wr.heap.size := HS.out.bel.size
      have tok : True := trivial
      have HZ : Hid (vcl bhV none 0 = [.int .i64 0, .bool false, .int .i64 0, .bool false, .string ⟨#[98, 101, 104, 105, 110, 100]⟩, .slice none 0 0]) := rfl
      go_upto_region 7 with (at_builtin; have _t := tok; refine wpList_app rfl _ _ rfl Tryz.underlying46 info24 rfl (by decide) W.heap.size (.slice va D.length vc) D.length (flatC D) rfl HO2.out (some ⟨wr.heap.size, 0, none⟩) 1 1 (vcl bhV none 0) rfl rfl (news6 wr #[.int .i64 0, .bool false, .int .i64 0, .bool false, .string ⟨#[98, 101, 104, 105, 110, 100]⟩, .slice none 0 0]) (vcl_one _ _ _) (by unfold maxLen; omega) (by omega) (by simp; omega) ?_; intro v7 w7 hown7 hg7 _ hat7; clear tok _t; obtain ⟨la', lcap', hv7⟩ := own_slice hown7; subst hv7; have HST7 : Hid (CpSt W w7 (A ++ [bhV]) (D ++ [(bhV, none, 0)]) la' lcap') := (HS.out.more (by omega) bhV).push (by rw [HDE.out]; simp) (Below.refl _ _) (fun i s hs => by simp at hs) (fun b o e => by cases e) hown7 hg7 hat7; have hcap : D.length + 1 ≤ lcap' := (row_cell hown7).1; clear hown7 hg7 hat7)
      have HAI : Hid (AsAt w7 la' (A ++ [bhV])) := HST7.out.at_ (by simp [HDE.out]) (fun v hv => by
        rcases List.mem_append.1 hv with h | h
        · exact HSM.out v h
        · simp at h
          rw [h]
          exact bh_sm)
      have HAA : Hid (AsAt w7 la' A) := fun i v hv => HAI.out i v (by rw [List.getElem?_append_left (List.getElem?_eq_some_iff.1 hv).1]; exact hv)
      have HB7 : Hid (Below w.heap.size w w7) := HW.out.2.1.trans (HST7.out.bel.mono HW.out.2.1.size)
      have HX7 : Hid (IsCells w7 w.heap.size #[.int .i64 ps, .int .i64 la, .string nm, .string tx, .slice ta tl tc]) := HW.out.2.2.of_block (HST7.out.bel.block _ HW.out.2.2.lt)
      obtain ⟨e0, e1, e2, e3, e4⟩ : w7.cell? ⟨w.heap.size, 0, none⟩ = some (.int .i64 ps) ∧ w7.cell? ⟨w.heap.size, 1, none⟩ = some (.int .i64 la) ∧ w7.cell? ⟨w.heap.size, 2, none⟩ = some (.string nm) ∧ w7.cell? ⟨w.heap.size, 3, none⟩ = some (.string tx) ∧ w7.cell? ⟨w.heap.size, 4, none⟩ = some (.slice ta tl tc) := ⟨HX7.out.cell 0, HX7.out.cell 1, HX7.out.cell 2, HX7.out.cell 3, HX7.out.cell 4⟩
      have bl := HX7.out.lt
      clear HO2 HZ hws
      have hcap2 : A.length + 1 ≤ lcap' := by rw [← HDE.out]; exact hcap
      have hcap3 : (A.length : Int) ≤ (lcap' : Int) := by omega
      go_cut [9, 10] (fun s9 s10 wx => ∃ P : Nat, s9 = .pointer (some ⟨P, 0, none⟩) ∧ s10 = .int .i64 0 ∧ Hid (Below w7.heap.size w7 wx ∧ IsCells wx P #[.int .i64 rk, .bool rb, .int .i64 rn, .bool rno, .string rt, .slice none 0 0]))
      case first =>
        have HB : Hid (Below w7.heap.size w7 w7.drew) := (Below.refl _ _).drew
        go_region_law (first | (refine step_call3 (by rfl) (by rfl) (call20 _) (HC20.out _ la' lcap' (HB7.out.trans (Below.mono (by first | exact HB.out | exact HB.out.alloc HB.out.size _) HB7.out.size)) (HAA.out.bel (by first | exact HB.out | exact HB.out.alloc HB.out.size _))) (by rfl) (by rfl) (by rfl) ?_; rintro e wA ⟨rfl, hb⟩; refine ⟨_, rfl, ?_⟩; have hbp := Below.trans (by first | exact HB.out | exact HB.out.alloc HB.out.size _) (hb.mono (Below.size (by first | exact HB.out | exact HB.out.alloc HB.out.size _))); (try (have hq := zd1b hb; have hl0 := IsCells.lt hq; have HZ0 : Hid (IsCells wA w7.heap.size #[.int .i64 0, .bool false, .int .i64 0, .bool false, .string ⟨#[]⟩, .slice none 0 0]) := hq; have hq2 := six_cells hq; obtain ⟨g0, g1, g2, g3, g4, g5⟩ := hq2; have hq3 := six_frozen hq; obtain ⟨gf0, gf1, gf2, gf3, gf4, gf5⟩ := hq3; clear hq)); clear HB; have HB : Hid (Below w7.heap.size w7 wA) := hbp; clear hbp hb))
        all_goals (
          go_wp2_with fail
          go_meet
          first | with_reducible exact ⟨_, rfl, rfl, hid2 (HB.out.alloc HB.out.size _) (isCells_new _ _ _)⟩ | with_reducible exact ⟨_, rfl, rfl, hid2 (below6 HB.out (Nat.le_refl _) _ _ _ _ _ _) (set6 HZ0.out _ _ _ _ _ _)⟩)
      case rest =>
        obtain ⟨P, rfl, rfl, HC⟩ := hcut
        clear e0 e1 e2 e3 e4
        obtain ⟨p0, p1, p2, p3, p4, p5⟩ := six_cells HC.out.2
        have bp := HC.out.2.lt
        have HBC : Hid (Below w.heap.size w wc) := HB7.out.trans (HC.out.1.mono HB7.out.size)
        have HF : Hid (∀ u : Bel wc, Below w.heap.size w u.w) := fun u => HBC.out.trans (u.h.mono HBC.out.size)
        have hT := HT.out wc
        have k1 : ¬ (A.length : Int) < 0 := by omega
        have k2 : ((A.length : Int) != (A.length : Int)) = false := by simp
        go_wp2_with (go_at_call 21; with_reducible refine hT.mono ?_; rintro e wc ⟨rfl, rfl⟩)
        go_loopw [12] (fun u12 wr => ∃ i : Nat, i ≤ A.length ∧ u12 = .int .i64 (i : Int) ∧ Hid (Below wc.heap.size wc wr ∧ (A.take i).all Vl.can = true)) (fun u12 _ => A.length - (intOf u12).toNat)
        case atStart => exact ⟨0, by omega, rfl, Below.refl _ _, rfl⟩
        case round =>
          obtain ⟨i, hi, rfl, HR⟩ := hrel
          clear p0 p1 p2 p3 p4 p5 bp hT
          have HPC : Hid (IsCells wr P #[.int .i64 rk, .bool rb, .int .i64 rn, .bool rno, .string rt, .slice none 0 0]) := HC.out.2.of_block (HR.out.1.block _ HC.out.2.lt)
          obtain ⟨p0, p1, p2, p3, p4, p5⟩ := six_cells HPC.out
          have bp := HPC.out.lt
          have HWR : Hid (Below w.heap.size w wr) := HBC.out.trans (HR.out.1.mono HBC.out.size)
          have HW7 : Hid (Below w7.heap.size w7 wr) := HC.out.1.trans (HR.out.1.mono HC.out.1.size)
          have HFR : Hid (∀ u : Bel wr, Below w.heap.size w u.w) := fun u => HWR.out.trans (u.h.mono HWR.out.size)
          have D14z : ∀ u : Bel wr, Calls Tryz.prog 14 #[mkV rk rb rn rno rt, mkV rk rb rn rno rt] u.w fun e w' => e = .returned (.bool true) ∧ Below u.w.heap.size u.w w' := fun u => dsame_any u.w (L := []) (a := none) (a' := none) (fun i s hs => by simp at hs) (fun i s hs => by simp at hs) (by simp)
          by_cases hlt : i < A.length
          · have hltz : (i : Int) < (A.length : Int) := by omega
            obtain ⟨v, hv⟩ : ∃ v, A[i]? = some v := ⟨_, List.getElem?_eq_getElem hlt⟩
            obtain ⟨xa, xc, b1, o1, hao⟩ := (HH.out.1.bel HWR.out) i v hv
            obtain ⟨ya, yc, b2, o2, hbo⟩ := (HAA.out.bel HW7.out) i v hv
            obtain ⟨rfl, lt1, c0, c1, c2, c3, c4, c5, ok1⟩ := hao
            obtain ⟨rfl, lt2, d0, d1, d2, d3, d4, d5, ok2⟩ := hbo
            have HT2 : Hid ((A.take (i + 1)).all Vl.can = v.can) := by show _ = _; rw [List.take_add_one, hv, List.all_append, HR.out.2]; simp
            have HMB : Hid (v.can = false → A.all Vl.can = false) := fun h => by rw [List.all_eq_false]; exact ⟨v, List.mem_of_getElem? hv, by simp [h]⟩
            clear hv
            obtain ⟨vk, vb, vn, vo, vt, vL⟩ := v
            simp only at c0 c1 c2 c3 c4 c5 d0 d1 d2 d3 d4 d5
            have D14v : ∀ u : Bel wr, Calls Tryz.prog 14 #[.agg #[.int .i64 vk, .bool vb, .int .i64 vn, .bool vo, .string vt, .slice ya vL.length yc], .agg #[.int .i64 vk, .bool vb, .int .i64 vn, .bool vo, .string vt, .slice xa vL.length xc]] u.w fun e w' => e = .returned (.bool true) ∧ Below u.w.heap.size u.w w' := fun u => dsame_any u.w (ok2.at_.bel u.h) (ok1.at_.bel u.h) ok1.len
            have C13v : ∀ u : Bel wr, Calls Tryz.prog 13 #[.agg #[.int .i64 vk, .bool vb, .int .i64 vn, .bool vo, .string vt, .slice xa vL.length xc]] u.w fun e w' => e = .returned (.bool (Vl.can ⟨vk, vb, vn, vo, vt, vL⟩)) ∧ Below u.w.heap.size u.w w' := fun u => dcan_any u.w (ok1.bel u.h)
            generalize Vl.can ⟨vk, vb, vn, vo, vt, vL⟩ = q at *
            go_wp2_with fail
            refine wp_region_bel (by kernel_rfl) (by kernel_rfl) ?_
            intro hne
            repeat go_big_quiet_step ((go_at_call 14; with_reducible exact Calls.bel_of (D14v _)))
            refine wpQuiet_nil ?_
            rintro _ ⟨u, rfl⟩
            cases q with
            | true =>
              go_wp2_with (go_at_call 13; with_reducible refine (Calls.bel_of (C13v _)).mono ?_; rintro e _ ⟨rfl, g, rfl⟩)
              go_roundw
              case rel => exact ⟨i + 1, by omega, by go_num, HR.out.1.trans (g.h.mono HR.out.1.size), HT2.out⟩
              case measure => simp [intOf]; omega
            | false =>
              exact absurd (HMB.out rfl) (by rw [HM.out]; simp)
          · have hltz : ¬ (i : Int) < (A.length : Int) := by omega
            have HXR : Hid (IsCells wr w.heap.size #[.int .i64 ps, .int .i64 la, .string nm, .string tx, .slice ta tl tc]) := HX7.out.of_block (HW7.out.block _ HX7.out.lt)
            obtain ⟨e0, e1, e2, e3, e4⟩ : wr.cell? ⟨w.heap.size, 0, none⟩ = some (.int .i64 ps) ∧ wr.cell? ⟨w.heap.size, 1, none⟩ = some (.int .i64 la) ∧ wr.cell? ⟨w.heap.size, 2, none⟩ = some (.string nm) ∧ wr.cell? ⟨w.heap.size, 3, none⟩ = some (.string tx) ∧ wr.cell? ⟨w.heap.size, 4, none⟩ = some (.slice ta tl tc) := ⟨HXR.out.cell 0, HXR.out.cell 1, HXR.out.cell 2, HXR.out.cell 3, HXR.out.cell 4⟩
            have bx := HXR.out.lt
            obtain ⟨ya, yc, b2, o2, hbo⟩ := (HAI.out.bel HW7.out) A.length bhV (by simp)
            obtain ⟨rfl, lt2, -, -, -, -, d4, -, -⟩ := hbo
            simp only at d4
            have D22 : ∀ u : Bel wr, Calls Tryz.prog 22 #[.string name, .agg #[.int .i64 ps, .int .i64 la, .string nm, .string tx, .slice ta tl tc], .slice aa A.length ac] u.w fun e w' => e = .returned (mkV rk rb rn rno rt) ∧ Below u.w.heap.size u.w w' := fun u => HD.out u.w aa ac (HH.out.1.bel (HFR.out u))
            have q1 : (A.length : Int) < (A.length : Int) + 1 := by omega
            have q2 : (A.length : Int) < ((A.length + 1 : Nat) : Int) := by omega
            have hdl : (D.length : Int) = (A.length : Int) := by have := HDE.out; omega
            go_wp2_with fail
            refine wp_region_bel (by kernel_rfl) (by kernel_rfl) ?_
            intro hne
            repeat go_big_quiet_step (first | (go_at_call 22; with_reducible exact Calls.bel_of (D22 _)) | (go_at_call 14; with_reducible exact Calls.bel_of (D14z _)))
            refine wpQuiet_nil ?_
            rintro _ ⟨u, rfl⟩
            go_wp2
            go_ret
            exact ⟨rfl, HFR.out _⟩

/-- Whatever is called, with whatever arguments. -/
theorem calls_walk (w : World) (name : ByteArray) {ps la : Int} {nm tx : ByteArray} {ta : Option Addr} {tl tc : Nat} {aa : Option Addr} {ac : Nat} {A : List Vl} (hA : AsAt w aa A) (hlen : A.length * 72 ≤ 140737488351232) (hsz : ∀ v ∈ A, v.L.length * 16 ≤ 140737488351232) (G : Gl w) (hmx : ∀ u, Below w.heap.size w u → ∃ m, u.cell? ⟨1, 0, none⟩ = some (.int .i64 m)) :
    Calls Tryz.prog 4 #[.string name, .agg #[.int .i64 ps, .int .i64 la, .string nm, .string tx, .slice ta tl tc], .slice aa A.length ac] w fun e w' => e = .returned (.bool true) ∧ Below w.heap.size w w' := by
  obtain ⟨N, ⟨h47, h21⟩, hcase⟩ := nargs name
  cases N with
  | none => exact calls_F w name hA hlen hsz (fun u va vc _ _ => call_func u name 0 false h47 (.inl rfl)) (-1) h21 (.inl (by decide))
  | some N =>
    by_cases hl : A.length = N
    · subst hl
      have hle : A.length ≤ 4 := by
        rcases hcase with h | ⟨h, _⟩ | ⟨h, _⟩ | ⟨h, _⟩
        · cases h
        · injection h with h; omega
        · injection h with h; omega
        · injection h with h; omega
      cases hall : A.all Vl.can with
      | false => exact calls_B w name hA hlen hsz (fun u va vc _ hAt => call_bad u name hAt hle A.length rfl h47 hall) h21 hall
      | true =>
        obtain ⟨k, b, n, no, t, h48, h22⟩ := both_all name A.length (hcase.resolve_left (by simp)) ps la nm tx ta tl tc A rfl (fun v hv => by
          obtain ⟨i, hi⟩ := List.getElem?_of_mem hv
          obtain ⟨xa, xc, b, o, hok⟩ := hA i v hi
          exact ⟨List.all_eq_true.1 hall v hv, hok.ok.n0, hok.ok.n1⟩)
        exact calls_O w name hA hlen hsz (fun u va vc hu hAt => call_ok u name hAt hle A.length rfl h47 hall (fun u' hu' => h48 u' va vc (hAt.bel hu') (G.bel (hu.trans (hu'.mono hu.size))) (fun u2 h2 => hmx u2 ((hu.trans (hu'.mono hu.size)).trans (h2.mono (Nat.le_trans hu.size hu'.size)))))) h21 hall h22
    · exact calls_F w name hA hlen hsz (fun u va vc _ _ => call_func u name (N : Int) true h47 (.inr ⟨rfl, by omega⟩)) (N : Int) h21 (.inr (by omega))

end Go.Proofs.YtoabgmpcdnikeaaGreatDoor
