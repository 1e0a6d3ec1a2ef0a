/- The document's Fits. -/
import Derived.Test.YtafpfelgngniiaaBth
namespace Go.Proofs.Ytafpfelgngniiaa
open Go.RowKit
set_option linter.unusedVariables false
attribute [local go_sem] Bel.cell Bel.fz

def FtS (w1 : World) (st : List Sp) (oa : Option Addr) (oc : Nat) (wr : World) : Prop := wr.ownsRow w1.heap.size 39 3 (.slice oa st.length oc) st.length (spCells st) ∧ Below w1.heap.size w1 wr
theorem FtS.bel {w1 : World} {st : List Sp} {oa : Option Addr} {oc : Nat} {wr : World} (h : FtS w1 st oa oc wr) (u : Bel wr) : FtS w1 st oa oc u.w := ⟨own_tn h.1 (Tn.bel u) (fun _ _ => id), h.2.trans (u.h.mono h.2.size)⟩
theorem FtS.alloc {w1 : World} {st : List Sp} {oa : Option Addr} {oc : Nat} {wr : World} (h : FtS w1 st oa oc wr) (o : Obj) : FtS w1 st oa oc (wr.alloc o) := ⟨own_of_block h.1 (fun k hk => Below.heap_alloc _ _ _ (own_block_lt h.1 k hk).2), h.2.alloc h.2.size _⟩
theorem FtS.take {w1 : World} {st : List Sp} {oa : Option Addr} {oc : Nat} {wr : World} (h : FtS w1 st oa oc wr) {m : Nat} (hm : m ≤ st.length) : wr.ownsRow w1.heap.size 39 3 (.slice oa m oc) m (spCells (st.take m)) := by
  have := own_take h.1 hm
  rwa [← spCells_take] at this
theorem FtS.cut {w1 : World} {st : List Sp} {oa : Option Addr} {oc : Nat} {wr : World} (h : FtS w1 st oa oc wr) {m : Nat} (hm : m ≤ st.length) : FtS w1 (st.take m) oa oc wr := by
  refine ⟨?_, h.2⟩
  rw [show (st.take m).length = m by rw [List.length_take]; omega]
  exact h.take hm
theorem fit_at {st M : List Sp} {i : Nat} {s : Sp} (h : M[i]? = some s) : fitR st (M.drop i) = match (pop s.b st).getLast? with
    | none => fitR (pop s.b st ++ [s]) (M.drop (i + 1))
    | some t => if slf s t then (if s.l = t.l then fitR (pop s.b st) (M.drop (i + 1)) else false) else (if anc t s then fitR (pop s.b st ++ [s]) (M.drop (i + 1)) else false) := by
  have hlt := (List.getElem?_eq_some_iff.1 h).1
  have e : M.drop i = s :: M.drop (i + 1) := by
    rw [List.drop_eq_getElem_cons hlt, (List.getElem?_eq_some_iff.1 h).2]
  rw [e, fitR]
  cases (pop s.b st).getLast? <;> rfl
def erI (b : Bool) : Int := if b = true then 0 else 111

set_option maxRecDepth 100000 in
set_option maxHeartbeats 4000000 in
theorem rfits_any (w : World) {A D : List Pl} {a d : Option Addr} {ca cd : Nat} (hA : PlsAt w w.heap.size a A) (hD : PlsAt w w.heap.size d D) (hva : ∀ x ∈ A, Lvl x.s) (hvd : ∀ x ∈ D, Lvl x.s) (cA : A.length ≤ ca) (cD : D.length ≤ cd) (y : Int) (hy : errR A D = y) :
    Calls Try.prog 21 #[.slice a A.length ca, .slice d D.length cd] w fun e w' => e = .returned (.int .i64 y) ∧ Below w.heap.size w w' := by
  unfold errR at hy
  by_cases h1 : 8192 < A.length
  · rw [if_pos (.inl h1)] at hy
    subst hy
    have hd : decide ((8192 : Int) < (A.length : Int)) = true := by simp; omega
    clear hA hD hva hvd
    go_enter Try.func21, Try.ntmps21
    go_wp2
    go_ret
    exact ⟨rfl, Below.refl _ _⟩
  · by_cases h2 : 8192 < D.length
    · rw [if_pos (.inr h2)] at hy
      subst hy
      clear hA hD hva hvd
      go_enter Try.func21, Try.ntmps21
      go_wp2
      go_ret
      exact ⟨rfl, Below.refl _ _⟩
    · rw [if_neg (by omega)] at hy
      have hra := fun y hy => one_any w hA (cap := ca) (by omega) hva y hy
      have HRD : Hid (∀ (w' : World), Below w.heap.size w w' → ∀ y, oneS (sps D) none = y → Calls Try.prog 31 #[.slice d D.length cd] w' fun e w'' => e = .returned (.int .i64 y) ∧ Below w'.heap.size w' w'') := fun (w' : World) (hb : Below w.heap.size w w') y hy => one_any w' (cap := cd) ((hD.below hb (Nat.le_refl _)).more hb.size) (by omega) hvd y hy
      have HBO : Hid (∀ (w' : World), Below w.heap.size w w' → ∀ M, mgR (sps A) (sps D) = M → Calls Try.prog 32 #[.slice a A.length ca, .slice d D.length cd] w' fun e w'' => ∃ va vc, e = .returned (.slice va M.length vc) ∧ w''.ownsRow w'.heap.size 39 3 (.slice va M.length vc) M.length (spCells M) ∧ Below w'.heap.size w' w'') := fun (w' : World) (hb : Below w.heap.size w w') M hM => both_any w' (ca := ca) (cd := cd) ((hA.below hb (Nat.le_refl _)).more hb.size) ((hD.below hb (Nat.le_refl _)).more hb.size) (by omega) (by omega) cA cD M hM
      clear hA hD hva hvd
      obtain ⟨p, hp⟩ : ∃ p, oneS (sps A) none = p := ⟨_, rfl⟩
      obtain ⟨q, hq⟩ : ∃ q, oneS (sps D) none = q := ⟨_, rfl⟩
      have hml : (mgR (sps A) (sps D)).length ≤ 16384 := by rw [(mgR_perm (sps A) (sps D)).length_eq]; simp [sps]; omega
      obtain ⟨M, hM⟩ : ∃ M, mgR (sps A) (sps D) = M := ⟨_, rfl⟩
      have hr1 := hra p hp
      have HQ : Hid (oneS (sps D) none = q ∧ mgR (sps A) (sps D) = M) := ⟨hq, hM⟩
      rw [hM] at hml
      rw [hp, hq, hM] at hy
      clear hp hq hM hra
      by_cases hp0 : p = 0
      · subst hp0
        rw [if_neg (by simp)] at hy
        by_cases hq0 : q = 0
        · subst hq0
          rw [if_neg (by simp)] at hy
          have HY : Hid (erI (fitR [] M) = y) := hy
          clear hy
          go_enter Try.func21, Try.ntmps21
          go_wp2_with fail
          with_reducible refine hr1.mono ?_
          rintro e w1 ⟨rfl, hb1⟩
          have hr2 := HRD.out w1 hb1 0 HQ.out.1
          have HB1 : Hid (Below w.heap.size w w1) := hb1
          clear hb1 hr1
          go_wp2_with fail
          with_reducible refine hr2.mono ?_
          rintro e w2 ⟨rfl, hb2⟩
          have HB2 : Hid (Below w.heap.size w w2) := HB1.out.trans (hb2.mono HB1.out.size)
          have hr3 := HBO.out w2 HB2.out M HQ.out.2
          clear hb2 hr2
          go_wp2_with fail
          with_reducible refine hr3.mono ?_
          rintro e w3 ⟨va, vc, rfl, hown, hb3⟩
          have HB3 : Hid (Below w.heap.size w w3 ∧ StkAt w3 va M ∧ M.length ≤ vc) := ⟨HB2.out.trans (hb3.mono HB2.out.size), row_stk hown⟩
          have H0 : Hid (FtS w3 [] (some ⟨w3.heap.size, 0, none⟩) 0 (w3.alloc (.cells #[] 39))) := ⟨own_new w3 39 3, (Below.refl _ _).alloc (Nat.le_refl _) _⟩
          have hwz : w.heap.size ≤ w3.heap.size := HB3.out.1.size
          clear hb3 hr3 hown HB1 HB2 HRD HBO HQ
          go_wp2
          go_loopw [8, 9] (fun v8 v9 wr => ∃ (i : Nat) (st : List Sp) (oa : Option Addr) (oc : Nat), i ≤ M.length ∧ v8 = .slice oa st.length oc ∧ v9 = .int .i64 (i : Int) ∧ st.length ≤ i ∧ Hid (erI (fitR st (M.drop i)) = y) ∧ Hid (FtS w3 st oa oc wr)) (fun _ v9 _ => M.length - (intOf v9).toNat)
          case atStart => exact ⟨0, [], _, 0, by omega, rfl, rfl, by simp, HY.out, H0.out⟩
          case round =>
            clear H0 HY
            obtain ⟨i, st, oa, oc, hi, rfl, rfl, hsi, HG, HS⟩ := hrel
            have hws := HS.out.2.size
            by_cases hlt : i < M.length
            · obtain ⟨s, hs⟩ : ∃ s, M[i]? = some s := ⟨_, List.getElem?_eq_getElem hlt⟩
              have HF := fit_at (st := st) hs
              obtain ⟨g, rfl, hg, m0, m1, m2⟩ := HB3.out.2.1 i s hs
              have hgw : g < wr.heap.size := by omega
              have hbc : ∀ o, wr.cell? ⟨g, o, none⟩ = w3.cell? ⟨g, o, none⟩ := fun o => HS.out.2.cell (p := ⟨g, o, none⟩) hg
              have n0 : wr.cell? ⟨g, i * 3, none⟩ = some (.int .u64 s.b) := (hbc _).trans m0
              have n1 : wr.cell? ⟨g, i * 3 + 1, none⟩ = some (.int .u64 s.e) := (hbc _).trans m1
              have n2 : wr.cell? ⟨g, i * 3 + 2, none⟩ = some (.int .i64 s.l) := (hbc _).trans m2
              clear hbc m0 m1 m2 hs
              have hsf := fun W t => rself_any W s t
              have haf := fun W t => rarnd_any W t s
              obtain ⟨s1, s2, s3⟩ := s
              unfold sv at hsf haf
              simp only at *
              have HF2 : Hid (erI (match (pop s1 st).getLast? with
                  | none => fitR (pop s1 st ++ [⟨s1, s2, s3⟩]) (M.drop (i + 1))
                  | some t => if slf ⟨s1, s2, s3⟩ t then (if s3 = t.l then fitR (pop s1 st) (M.drop (i + 1)) else false) else (if anc t ⟨s1, s2, s3⟩ then fitR (pop s1 st ++ [⟨s1, s2, s3⟩]) (M.drop (i + 1)) else false)) = y) := by
                show _ = _
                rw [← HF]
                exact HG.out
              clear HF HG
              have HS1 : Hid (FtS w3 st oa oc (wr.alloc (.cells #[.int .u64 s1, .int .u64 s2, .int .i64 s3] 39))) := HS.out.alloc _
              have HX1 : Hid (IsCells (wr.alloc (.cells #[.int .u64 s1, .int .u64 s2, .int .i64 s3] 39)) wr.heap.size #[.int .u64 s1, .int .u64 s2, .int .i64 s3]) := isCells_new _ _ _
              go_wp2
              clear n0 n1 n2 hgw
              generalize hW1 : wr.alloc (.cells #[.int .u64 s1, .int .u64 s2, .int .i64 s3] 39) = W1 at *
              have hX : wr.heap.size < W1.heap.size := HX1.out.lt
              clear hW1
              generalize wr.heap.size = G at *
              clear HS
              have HOC := (row_stk HS1.out.1).2
              go_loopw [8] (fun v8 wr => ∃ m : Nat, m ≤ st.length ∧ v8 = .slice oa m oc ∧ Hid (pop s1 st = pop s1 (st.take m)) ∧ Hid (Below W1.heap.size W1 wr)) (fun v8 _ => match v8 with | .slice _ n _ => n | _ => 0)
              case atStart => exact ⟨st.length, Nat.le_refl _, rfl, by show _ = _; rw [List.take_length], Below.refl _ _⟩
              case round =>
                obtain ⟨m, hm, rfl, HP, HB⟩ := hrel
                have hwz2 := HB.out.size
                have HS2 : Hid (FtS w3 st oa oc wr) := HS1.out.bel ⟨wr, HB.out⟩
                have xs : IsCells wr G #[.int .u64 s1, .int .u64 s2, .int .i64 s3] := HX1.out.of_block (HB.out.block _ hX)
                have b0 : wr.cell? ⟨G, 0, none⟩ = some (.int .u64 s1) := xs.cell 0
                have b1 : wr.cell? ⟨G, 1, none⟩ = some (.int .u64 s2) := xs.cell 1
                have b2 : wr.cell? ⟨G, 2, none⟩ = some (.int .i64 s3) := xs.cell 2
                have lG := xs.lt
                clear xs
                cases m with
                | zero =>
                  have HFN : Hid (erI (fitR (st.take 0 ++ [⟨s1, s2, s3⟩]) (M.drop (i + 1))) = y) := by
                    have hp0 : pop s1 st = [] := HP.out
                    have h := HF2.out
                    rw [hp0] at h
                    exact h
                  clear HF2 HP hsf haf
                  go_wp2_with fail
                  refine wp_region_bel (by kernel_rfl) (by kernel_rfl) ?_
                  intro hne
                  repeat go_big_quiet_step (fail)
                  refine wpQuiet_nil ?_
                  rintro _ ⟨u, rfl⟩
                  have HSB : Hid (FtS w3 st oa oc u.w) := HS2.out.bel u
                  have HOW : Hid ((u.w.alloc (.cells #[.int .u64 s1, .int .u64 s2, .int .i64 s3] 39)).ownsRow w3.heap.size 39 3 (.slice oa 0 oc) 0 (spCells (st.take 0))) := own_of_block (HSB.out.take (by omega)) (fun j hj => Below.heap_alloc _ _ _ (own_block_lt (HSB.out.take (m := 0) (by omega)) j hj).2)
                  have hzB : w3.heap.size ≤ u.w.heap.size := HSB.out.2.size
                  have HNX : Hid (∀ va vc w4, w4.ownsRow w3.heap.size 39 3 (.slice va (0 + 1) vc) (0 + 1) (spCells (st.take 0) ++ spCells [⟨s1, s2, s3⟩]) → (u.w.alloc (.cells #[.int .u64 s1, .int .u64 s2, .int .i64 s3] 39)).grownBy w4 (Value.slice oa 0 oc).ownBlock → FtS w3 (st.take 0 ++ [⟨s1, s2, s3⟩]) va vc w4) := by
                    intro va vc w4 q1 q2
                    refine ⟨?_, (HSB.out.2.alloc HSB.out.2.size _).grown q2 (by have := HSB.out.2.size; simp; omega) (fun j hj => (own_block_lt (HSB.out.take (m := 0) (by omega)) j hj).1)⟩
                    rw [spCells_append, show (st.take 0 ++ [(⟨s1, s2, s3⟩ : Sp)]).length = 0 + 1 by simp <;> omega]
                    exact q1
                  have tok : True := trivial
                  clear HSB
                  go_wp2_with (at_builtin; have _t := tok; refine wpList_app (by rfl) _ _ (by rfl) Try.underlying54 info39 rfl (by decide) w3.heap.size (.slice oa 0 oc) 0 (spCells (st.take 0)) (by rfl) HOW.out (some ⟨u.w.heap.size, 0, none⟩) 1 1 (spCells [⟨s1, s2, s3⟩]) (by rfl) (by rfl) (one_news u.w _) (spCells_one _) (by unfold maxLen; omega) (by omega) (by simp; omega) ?_; intro v1 w4 hown1 hg1 _ hat1; obtain ⟨va, vc4, hvv⟩ := own_slice hown1; subst hvv; have HN : Hid (FtS w3 (st.take 0 ++ [⟨s1, s2, s3⟩]) va vc4 w4) := HNX.out va vc4 w4 hown1 hg1; clear tok _t hown1 hg1 hat1)
                  go_roundw
                  case rel => exact ⟨i + 1, st.take 0 ++ [⟨s1, s2, s3⟩], va, vc4, by omega, by simp <;> omega, by go_num, by simp <;> omega, HFN, HN⟩
                  case measure => simp [intOf]; omega
                | succ k =>
                  obtain ⟨t, ht⟩ : ∃ t, st[k]? = some t := ⟨_, List.getElem?_eq_getElem (by omega)⟩
                  obtain ⟨h, rfl, hh, g0, g1, g2⟩ := (row_stk HS2.out.1).1 k t ht
                  have HT : Hid (st.take (k + 1) = st.take k ++ [t]) := take_snoc ht
                  have hst := fun W => hsf W t
                  have hat := fun W => haf W t
                  have hi1 : ((k : Int) + 1) - 1 = (k : Int) := by omega
                  have hi2 : (k : Int) < (k : Int) + 1 := by omega
                  have hi3 : (0 : Int) ≤ (k : Int) := by omega
                  have hg0 : decide ((0 : Int) < (k : Int) + 1) = true := by simp <;> omega
                  have hg1 : decide (0 < k + 1) = true := by simp
                  clear ht
                  obtain ⟨t1, t2, t3⟩ := t
                  simp only at *
                  by_cases hlt2 : t2 < s1
                  · have HP2 : Hid (pop s1 st = pop s1 (st.take k)) := by show _ = _; rw [HP.out, HT.out, pop_lt hlt2]
                    have hd3 : decide (t2 < s1) = true := by simp [hlt2]
                    clear hst hat
                    go_wp2_with fail
                    refine wp_region_bel (by kernel_rfl) (by kernel_rfl) ?_
                    intro hne
                    repeat go_big_quiet_step (fail)
                    refine wpQuiet_nil ?_
                    rintro _ ⟨u, rfl⟩
                    have HB2 : Hid (Below W1.heap.size W1 u.w) := rel_end HB.out u
                    go_wp2
                    go_roundw
                    case rel => exact ⟨k, by omega, rfl, HP2, HB2⟩
                    case measure => simp
                  · have hd3 : decide (t2 < s1) = false := by simp; omega
                    have hpop : pop s1 st = st.take (k + 1) := by rw [HP.out, HT.out, pop_ge (by show ¬ (_ < _); simp only; omega)]
                    have HL : Hid ((st.take (k + 1)).getLast? = some ⟨t1, t2, t3⟩) := by show _ = _; rw [HT.out]; simp
                    have HF3 : Hid (erI (if slf ⟨s1, s2, s3⟩ ⟨t1, t2, t3⟩ then (if s3 = t3 then fitR (st.take (k + 1)) (M.drop (i + 1)) else false) else (if anc ⟨t1, t2, t3⟩ ⟨s1, s2, s3⟩ then fitR (st.take (k + 1) ++ [⟨s1, s2, s3⟩]) (M.drop (i + 1)) else false)) = y) := by
                      have h := HF2.out
                      rw [hpop, HL.out] at h
                      exact h
                    clear HF2 HP hpop HL hsf haf HT
                    go_wp2_with fail
                    refine wp_region_bel (by kernel_rfl) (by kernel_rfl) ?_
                    intro hne
                    repeat go_big_quiet_step (fail)
                    refine wpQuiet_nil ?_
                    rintro _ ⟨u, rfl⟩
                    have lGu : G < u.w.heap.size := Nat.lt_of_lt_of_le lG u.h.size
                    obtain ⟨W2, hW2⟩ : ∃ W2, u.w.alloc (.cells #[.int .u64 t1, .int .u64 t2, .int .i64 t3] 39) = W2 := ⟨_, rfl⟩
                    have HW2 : Hid (u.w.alloc (.cells #[.int .u64 t1, .int .u64 t2, .int .i64 t3] 39) = W2) := hW2
                    have iY : IsCells W2 u.w.heap.size #[.int .u64 t1, .int .u64 t2, .int .i64 t3] := by rw [← hW2]; exact isCells_new _ _ _
                    have iG : IsCells W2 G #[.int .u64 s1, .int .u64 s2, .int .i64 s3] := by rw [← hW2]; exact (((HX1.out.of_block (HB.out.block _ hX)).of_block (u.h.block _ lG))).alloc _
                    have HS3 : Hid (FtS w3 st (some ⟨h, 0, none⟩) oc W2) := by rw [← hW2]; exact (HS2.out.bel u).alloc _
                    have y0 : W2.cell? ⟨u.w.heap.size, 0, none⟩ = some (.int .u64 t1) := iY.cell 0
                    have y1 : W2.cell? ⟨u.w.heap.size, 1, none⟩ = some (.int .u64 t2) := iY.cell 1
                    have y2 : W2.cell? ⟨u.w.heap.size, 2, none⟩ = some (.int .i64 t3) := iY.cell 2
                    have x0 : W2.cell? ⟨G, 0, none⟩ = some (.int .u64 s1) := iG.cell 0
                    have x1 : W2.cell? ⟨G, 1, none⟩ = some (.int .u64 s2) := iG.cell 1
                    have x2 : W2.cell? ⟨G, 2, none⟩ = some (.int .i64 s3) := iG.cell 2
                    have lY := iY.lt
                    have lG2 := iG.lt
                    clear hW2 iY iG
                    go_upto_region 18 with fail
                    rw [HW2.out]
                    clear HW2 b0 b1 b2 g0 g1 g2 HS2 HB HS1
                    generalize u.w.heap.size = Y at *
                    cases hsl : slf ⟨s1, s2, s3⟩ ⟨t1, t2, t3⟩ with
                    | true =>
                      rw [hsl] at hst
                      by_cases hll : s3 = t3
                      · have HFN : Hid (erI (fitR (st.take (k + 1)) (M.drop (i + 1))) = y) := by
                          have h := HF3.out
                          rw [hsl, if_pos rfl, if_pos hll] at h
                          exact h
                        have hne3 : (s3 == t3) = true := by simp [hll]
                        clear HF3 hsl hat hll
                        go_wp2_with fail
                        with_reducible refine (Calls.bel_first (hst _)).mono ?_
                        rintro e _ ⟨rfl, u2, rfl⟩
                        have HSB : Hid (FtS w3 (st.take (k + 1)) (some ⟨h, 0, none⟩) oc u2.w) := (HS3.out.bel u2).cut (by omega)
                        go_wp2
                        go_roundw
                        case rel => exact ⟨i + 1, st.take (k + 1), _, oc, by omega, by simp; omega, by go_num, by simp; omega, HFN, HSB⟩
                        case measure => simp [intOf]; omega
                      · have HE : Hid (111 = y) := by
                          have h := HF3.out
                          rw [hsl, if_pos rfl, if_neg hll] at h
                          exact h
                        have hne3 : (s3 == t3) = false := beq_eq_false_iff_ne.2 hll
                        clear HF3 hsl hat hll
                        go_wp2_with fail
                        with_reducible refine (Calls.bel_first (hst _)).mono ?_
                        rintro e _ ⟨rfl, u2, rfl⟩
                        have HBe : Hid (Below w.heap.size w u2.w) := HB3.out.1.trans ((HS3.out.bel u2).2.mono hwz)
                        go_wp2
                        go_ret
                        exact ⟨ret_i HE.out, HBe.out⟩
                    | false =>
                      rw [hsl] at hst
                      cases hac : anc ⟨t1, t2, t3⟩ ⟨s1, s2, s3⟩ with
                      | true =>
                        rw [hac] at hat
                        have HFN : Hid (erI (fitR (st.take (k + 1) ++ [⟨s1, s2, s3⟩]) (M.drop (i + 1))) = y) := by
                          have h := HF3.out
                          rw [hsl, if_neg (by decide), hac, if_pos rfl] at h
                          exact h
                        clear HF3 hsl hac
                        go_wp2_with fail
                        with_reducible refine (Calls.bel_first (hst _)).mono ?_
                        rintro e _ ⟨rfl, u2, rfl⟩
                        go_wp2_with fail
                        with_reducible refine (Calls.bel_of (hat _)).mono ?_
                        rintro e _ ⟨rfl, u3, rfl⟩
                        have HSB : Hid (FtS w3 st (some ⟨h, 0, none⟩) oc u3.w) := HS3.out.bel u3
                        have HOW : Hid ((u3.w.alloc (.cells #[.int .u64 s1, .int .u64 s2, .int .i64 s3] 39)).ownsRow w3.heap.size 39 3 (.slice (some ⟨h, 0, none⟩) (k + 1) oc) (k + 1) (spCells (st.take (k + 1)))) := own_of_block (HSB.out.take (by omega)) (fun j hj => Below.heap_alloc _ _ _ (own_block_lt (HSB.out.take (m := (k + 1)) (by omega)) j hj).2)
                        have hzB : w3.heap.size ≤ u3.w.heap.size := HSB.out.2.size
                        have HNX : Hid (∀ va vc w4, w4.ownsRow w3.heap.size 39 3 (.slice va ((k + 1) + 1) vc) ((k + 1) + 1) (spCells (st.take (k + 1)) ++ spCells [⟨s1, s2, s3⟩]) → (u3.w.alloc (.cells #[.int .u64 s1, .int .u64 s2, .int .i64 s3] 39)).grownBy w4 (Value.slice (some ⟨h, 0, none⟩) (k + 1) oc).ownBlock → FtS w3 (st.take (k + 1) ++ [⟨s1, s2, s3⟩]) va vc w4) := by
                          intro va vc w4 q1 q2
                          refine ⟨?_, (HSB.out.2.alloc HSB.out.2.size _).grown q2 (by have := HSB.out.2.size; simp; omega) (fun j hj => (own_block_lt (HSB.out.take (m := (k + 1)) (by omega)) j hj).1)⟩
                          rw [spCells_append, show (st.take (k + 1) ++ [(⟨s1, s2, s3⟩ : Sp)]).length = (k + 1) + 1 by simp <;> omega]
                          exact q1
                        have tok : True := trivial
                        clear HSB
                        go_wp2_with (at_builtin; have _t := tok; refine wpList_app (by rfl) _ _ (by rfl) Try.underlying54 info39 rfl (by decide) w3.heap.size (.slice (some ⟨h, 0, none⟩) (k + 1) oc) (k + 1) (spCells (st.take (k + 1))) (by rfl) HOW.out (some ⟨u3.w.heap.size, 0, none⟩) 1 1 (spCells [⟨s1, s2, s3⟩]) (by rfl) (by rfl) (one_news u3.w _) (spCells_one _) (by unfold maxLen; omega) (by omega) (by simp; omega) ?_; intro v1 w4 hown1 hg1 _ hat1; obtain ⟨va, vc4, hvv⟩ := own_slice hown1; subst hvv; have HN : Hid (FtS w3 (st.take (k + 1) ++ [⟨s1, s2, s3⟩]) va vc4 w4) := HNX.out va vc4 w4 hown1 hg1; clear tok _t hown1 hg1 hat1)
                        go_roundw
                        case rel => exact ⟨i + 1, st.take (k + 1) ++ [⟨s1, s2, s3⟩], va, vc4, by omega, by simp <;> omega, by go_num, by simp <;> omega, HFN, HN⟩
                        case measure => simp [intOf]; omega
                      | false =>
                        rw [hac] at hat
                        have HE : Hid (111 = y) := by
                          have h := HF3.out
                          rw [hsl, if_neg (by decide), hac, if_neg (by decide)] at h
                          exact h
                        clear HF3 hsl hac
                        go_wp2_with fail
                        with_reducible refine (Calls.bel_first (hst _)).mono ?_
                        rintro e _ ⟨rfl, u2, rfl⟩
                        go_wp2_with fail
                        with_reducible refine (Calls.bel_of (hat _)).mono ?_
                        rintro e _ ⟨rfl, u3, rfl⟩
                        have HBe : Hid (Below w.heap.size w u3.w) := HB3.out.1.trans ((HS3.out.bel u3).2.mono hwz)
                        go_wp2
                        go_ret
                        exact ⟨ret_i HE.out, HBe.out⟩
            · have HE : Hid (0 = y) := by
                have h := HG.out
                rw [List.drop_eq_nil_of_le (by omega)] at h
                show _ = _
                simpa [fitR, erI] using h
              have HBe : Hid (Below w.heap.size w wr) := HB3.out.1.trans (HS.out.2.mono hwz)
              go_wp2
              go_ret
              exact ⟨ret_i HE.out, HBe.out⟩
        · rw [if_pos hq0] at hy
          subst hy
          have hqb : (q == 0) = false := beq_eq_false_iff_ne.2 hq0
          clear hq0
          go_enter Try.func21, Try.ntmps21
          go_wp2_with fail
          with_reducible refine hr1.mono ?_
          rintro e w1 ⟨rfl, hb1⟩
          have hr2 := HRD.out w1 hb1 q HQ.out.1
          have HB1 : Hid (Below w.heap.size w w1) := hb1
          clear hb1 hr1
          go_wp2_with fail
          with_reducible refine hr2.mono ?_
          rintro e w2 ⟨rfl, hb2⟩
          have HB2 : Hid (Below w.heap.size w w2) := HB1.out.trans (hb2.mono HB1.out.size)
          clear hb2 hr2
          go_wp2
          go_ret
          exact ⟨rfl, HB2.out⟩
      · rw [if_pos hp0] at hy
        subst hy
        have hpb : (p == 0) = false := beq_eq_false_iff_ne.2 hp0
        clear hp0
        go_enter Try.func21, Try.ntmps21
        go_wp2_with fail
        with_reducible refine hr1.mono ?_
        rintro e w1 ⟨rfl, hb1⟩
        have HB1 : Hid (Below w.heap.size w w1) := hb1
        clear hb1 hr1
        go_wp2
        go_ret
        exact ⟨rfl, HB1.out⟩

end Go.Proofs.Ytafpfelgngniiaa
