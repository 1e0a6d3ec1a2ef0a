/- Whether spans of some lists cross: the document's. -/
import Derived.Test.YtmeinebfdljndaaMgd
namespace Go.Proofs.Ytmeinebfdljndaa
open Go.RowKit
set_option linter.unusedVariables false
attribute [local go_sem] Bel.cell Bel.fz

set_option maxRecDepth 100000 in
theorem eql_sp (w : World) (x1 x2 x3 s1 s2 s3 : Int) : (binOp .eql 36 (.agg #[.int .u64 x1, .int .u64 x2, .int .i64 x3]) (.agg #[.int .u64 s1, .int .u64 s2, .int .i64 s3])).run Try.prog w = .ok (.bool (eqSp x1 x2 x3 s1 s2 s3)) w := by
  unfold eqSp
  simp [go_sem]
  by_cases h1 : x1 = s1
  · by_cases h2 : x2 = s2
    · by_cases h3 : x3 = s3
      · simp [h1, h2, h3]
      · simp [h1, h2, h3]
    · simp [h1, h2]
  · simp [h1]
attribute [local go_sem high] eql_sp

/-- All spans by where they begin. -/
def mgA (LL : List (List Pl)) : List Sp := LL.foldl (fun acc L => mgR acc (sps L)) []
theorem mgA_take {LL : List (List Pl)} {i : Nat} {L : List Pl} (h : LL[i]? = some L) : mgA (LL.take (i + 1)) = mgR (mgA (LL.take i)) (sps L) := by
  unfold mgA
  rw [take_snoc h, List.foldl_append]
  rfl
theorem mgA_perm (LL : List (List Pl)) : (mgA LL).Perm (sps LL.flatten) := by
  have : ∀ (LL : List (List Pl)) (acc : List Sp), (LL.foldl (fun acc L => mgR acc (sps L)) acc).Perm (acc ++ sps LL.flatten) := by
    intro LL
    induction LL with
    | nil => intro acc; simp [sps]
    | cons L r ih =>
      intro acc
      rw [List.foldl_cons]
      refine (ih _).trans ?_
      rw [List.flatten_cons]
      have e : sps (L ++ r.flatten) = sps L ++ sps r.flatten := by simp [sps]
      rw [e, ← List.append_assoc]
      exact (mgR_perm acc (sps L)).append_right _
  have h := this LL []
  rw [List.nil_append] at h
  exact h
theorem mgA_ris (LL : List (List Pl)) (h : ∀ L ∈ LL, Ris (sps L)) : Ris (mgA LL) := by
  have : ∀ (LL : List (List Pl)) (acc : List Sp), Ris acc → (∀ L ∈ LL, Ris (sps L)) → Ris (LL.foldl (fun acc L => mgR acc (sps L)) acc) := by
    intro LL
    induction LL with
    | nil => intro acc ha _; exact ha
    | cons L r ih =>
      intro acc ha hr
      rw [List.foldl_cons]
      exact ih _ (mgR_ris _ _ ha (hr L (List.mem_cons_self ..))) (fun K hK => hr K (List.mem_cons_of_mem _ hK))
  exact this LL [] List.Pairwise.nil h
theorem mgA_len (LL : List (List Pl)) : (mgA LL).length = LL.flatten.length := by
  rw [(mgA_perm LL).length_eq]
  unfold sps
  rw [List.length_map]
theorem fit_at {st M : List Sp} {i : Nat} {s : Sp} (h : M[i]? = some s) : fitR st (M.drop i) = match (pop s.b st).getLast? with
    | none => fitR (pop s.b st ++ [s]) (M.drop (i + 1))
    | some t => if slf s t then (if s.l = t.l then fitR (pop s.b st) (M.drop (i + 1)) else false) else (if anc t s then fitR (pop s.b st ++ [s]) (M.drop (i + 1)) else false) := by
  have hlt := (List.getElem?_eq_some_iff.1 h).1
  have e : M.drop i = s :: M.drop (i + 1) := by
    rw [List.drop_eq_getElem_cons hlt, (List.getElem?_eq_some_iff.1 h).2]
  rw [e, fitR]
  cases (pop s.b st).getLast? <;> rfl
theorem FtS.less {w1 w2 : World} {st : List Sp} {oa : Option Addr} {oc : Nat} {wr : World} (h : FtS w2 st oa oc wr) (hb : Below w1.heap.size w1 w2) : FtS w1 st oa oc wr := ⟨own_less h.1 hb.size, hb.trans (h.2.mono hb.size)⟩
theorem FtS.stk {w1 : World} {st : List Sp} {oa : Option Addr} {oc : Nat} {wr : World} (h : FtS w1 st oa oc wr) : StkAt wr oa st := (row_stk h.1).1

set_option maxRecDepth 100000 in
set_option maxHeartbeats 8000000 in
theorem crossed_walk (w : World) {LL : List (List Pl)} {a : Option Addr} {ca : Nat} (h : LlAt w a LL) (hk : LL.length ≤ 256) (hn : ∀ L ∈ LL, L.length ≤ 4096) (T : List Sp) (hT : mgA LL = T) (q : Bool) (hq : fitR [] T = q) :
    Calls Try.prog 28 #[.slice a LL.length ca] w fun e w' => e = .returned (.bool (!q)) ∧ Below w.heap.size w w' := by
  have HL : Hid (LlAt w a LL ∧ ∀ L ∈ LL, L.length ≤ 4096) := ⟨h, hn⟩
  have HT : Hid (mgA LL = T) := hT
  have hTl : T.length ≤ 1048576 := by
    rw [← hT, mgA_len]
    have := flat_len LL hn
    omega
  have HQ : Hid (fitR [] (T.drop 0) = q) := hq
  have H0 : Hid (FtS w [] none 0 w) := ⟨own_none _ _ _ _, Below.refl _ _⟩
  clear h hn hT hq
  go_enter Try.func28, Try.ntmps28
  go_wp2
  go_loopw [3, 5] (fun u v wr => ∃ (i : Nat) (M : List Sp) (la : Option Addr) (lc : Nat), i ≤ LL.length ∧ M.length ≤ i * 4096 ∧ u = .slice la M.length lc ∧ v = .int .i64 (i : Int) ∧ Hid (M = mgA (LL.take i)) ∧ Hid (FtS w M la lc wr)) (fun _ v _ => LL.length - (intOf v).toNat)
  case atStart => exact ⟨0, [], none, 0, by omega, by simp, rfl, rfl, rfl, H0⟩
  case round =>
    obtain ⟨i, M, la, lc, hi, hMl, rfl, rfl, HM, HF⟩ := hrel
    clear H0
    by_cases hlt : i < LL.length
    · obtain ⟨L, hL⟩ : ∃ L, LL[i]? = some L := ⟨_, List.getElem?_eq_getElem hlt⟩
      obtain ⟨b, o, na, nc, rfl, hb, c0, hnc, hp⟩ := HL.out.1.bel HF.out.2 i L hL
      have hL4 := HL.out.2 L (List.mem_of_getElem? hL)
      have hlt9 : (i : Int) < (LL.length : Int) := by omega
      have hsp := spans_any wr (cap := nc) hp hL4 _ rfl
      have hspl : (sps L).length = L.length := by simp [sps]
      have HMG : Hid (∀ X na nc, FtS wr (sps L) na nc X → Calls Try.prog 44 #[.slice la M.length lc, .slice na (sps L).length nc] X fun e Y => ∃ va vc, e = .returned (.slice va (mgR M (sps L)).length vc) ∧ Hid (FtS w (mgR M (sps L)) va vc Y)) := fun X na nc hX => by
        refine (merged_any X (ca := lc) (cd := nc) (HF.out.stk.bel hX.2) hX.stk (by omega) (by omega) _ rfl).mono ?_
        rintro e Y ⟨va, vc, he, hY⟩
        exact ⟨va, vc, he, (hY.less (hX.less HF.out.2).2)⟩
      have HM2 : Hid (mgR M (sps L) = mgA (LL.take (i + 1))) := by show _ = _; rw [mgA_take hL, HM.out]
      have hMl2 : (mgR M (sps L)).length ≤ (i + 1) * 4096 := by
        rw [(mgR_perm M (sps L)).length_eq, List.length_append]
        omega
      clear hL hp HM hspl
      generalize mgR M (sps L) = M2 at HMG HM2 hMl2
      generalize sps L = S at hsp HMG
      go_wp2_with fail
      with_reducible refine hsp.mono ?_
      rintro e X ⟨na2, nc2, rfl, hX⟩
      have hmg := HMG.out X na2 nc2 hX
      clear hsp HMG hX
      go_wp2_with fail
      with_reducible refine hmg.mono ?_
      rintro e Y ⟨va, vc, rfl, HY⟩
      clear hmg
      go_wp2
      go_roundw
      case rel => exact ⟨i + 1, M2, va, vc, by omega, hMl2, rfl, by go_num, HM2, HY⟩
      case measure => simp [intOf]; omega
    · have hfin : M = T := by
        have h1 := HM.out
        rw [List.take_of_length_le (by omega), HT.out] at h1
        exact h1
      subst hfin
      clear HM HT HL hMl
      have HX2 : Hid (StkAt wr la M ∧ Below w.heap.size w wr) := ⟨HF.out.stk, HF.out.2⟩
      clear HF
      generalize wr = X2 at HX2 ⊢
      have H0 : Hid (FtS X2 [] none 0 X2) := ⟨own_none _ _ _ _, Below.refl _ _⟩
      go_wp2
      go_loopw [4, 6] (fun u v wr => ∃ (i : Nat) (st : List Sp) (oa : Option Addr) (oc : Nat), i ≤ M.length ∧ st.length ≤ i ∧ u = .slice oa st.length oc ∧ v = .int .i64 (i : Int) ∧ Hid (fitR st (M.drop i) = q) ∧ Hid (FtS X2 st oa oc wr)) (fun _ v _ => M.length - (intOf v).toNat)
      case atStart => exact ⟨0, [], none, 0, by omega, by simp, rfl, rfl, HQ, H0⟩
      case round =>
        clear H0 HQ
        obtain ⟨i2, st, oa, oc, hi2', hsi, rfl, rfl, HG, HS⟩ := hrel
        have hws := HS.out.2.size
        by_cases hlt2 : i2 < M.length
        · obtain ⟨s, hs⟩ : ∃ s, M[i2]? = some s := ⟨_, List.getElem?_eq_getElem hlt2⟩
          have HFT := fit_at (st := st) hs
          rw [HG.out] at HFT
          have hlt9 : (i2 : Int) < (M.length : Int) := by omega
          have harn := fun W x => rarnd_any W x s
          have HMC : Hid (M[i2]? = some s) := hs
          obtain ⟨s1, s2, s3⟩ := s
          unfold sv at harn
          simp only at *
          have HF2 : Hid (q = match (pop s1 st).getLast? with
            | none => fitR (pop s1 st ++ [⟨s1, s2, s3⟩]) (M.drop (i2 + 1))
            | some t => if slf ⟨s1, s2, s3⟩ t then (if s3 = t.l then fitR (pop s1 st) (M.drop (i2 + 1)) else false) else (if anc t ⟨s1, s2, s3⟩ then fitR (pop s1 st ++ [⟨s1, s2, s3⟩]) (M.drop (i2 + 1)) else false)) := HFT
          clear HFT HG hs
          have HOC := (row_stk HS.out.1).2
          have HS1 := HS
          clear HS
          go_wp2
          go_loopw [4] (fun v4 wr => ∃ m : Nat, m ≤ st.length ∧ v4 = .slice oa m oc ∧ Hid (pop s1 st = pop s1 (st.take m)) ∧ Hid (FtS X2 st oa oc wr)) (fun v4 _ => match v4 with | .slice _ n _ => n | _ => 0)
          case atStart => exact ⟨st.length, Nat.le_refl _, rfl, by show _ = _; rw [List.take_length], HS1⟩
          case round =>
            clear HS1
            obtain ⟨m, hm, rfl, HP, HS2⟩ := hrel
            obtain ⟨gl, rfl, hgl, b0, b1, b2⟩ := (HX2.out.1.bel HS2.out.2) i2 _ HMC.out
            cases m with
            | zero =>
              have HFN : Hid (fitR (st.take 0 ++ [⟨s1, s2, s3⟩]) (M.drop (i2 + 1)) = q) := by
                have hp0 : pop s1 st = [] := HP.out
                have h := HF2.out
                rw [hp0] at h
                exact h.symm
              clear HF2 HP harn
              go_wp2_with fail
              refine wp_region_bel (by kernel_rfl) (by kernel_rfl) ?_
              intro hne
              repeat go_big_quiet_step (fail)
              refine wpQuiet_nil ?_
              rintro _ ⟨v, rfl⟩
              have HSv : Hid (FtS X2 st oa oc v.w) := HS2.out.bel v.h
              have HOW : Hid ((v.w.alloc (.cells #[.int .u64 s1, .int .u64 s2, .int .i64 s3] 36)).ownsRow X2.heap.size 36 3 (.slice oa (0) oc) (0) (spCells (st.take (0)))) := own_of_block (HSv.out.take (by omega)) (fun j hj => Below.heap_alloc _ _ _ (own_block_lt (HSv.out.take (m := 0) (by omega)) j hj).2)
              have hzB : X2.heap.size ≤ v.w.heap.size := HSv.out.2.size
              have tok : True := trivial
              go_wp2_with (at_builtin; have _t := tok; refine wpList_app (by rfl) _ _ (by rfl) Try.underlying90 info39 rfl (by decide) X2.heap.size (.slice oa (0) oc) (0) (spCells (st.take (0))) (by rfl) HOW.out (some ⟨v.w.heap.size, 0, none⟩) 1 1 (spCells [⟨s1, s2, s3⟩]) (by rfl) (by rfl) (one_news v.w _) (spCells_one _) (by unfold maxLen; omega) (by omega) (by simp; omega) ?_; intro v1 w4 hown1 hg1 _ hat1; obtain ⟨va4, vc4, hvv⟩ := own_slice hown1; subst hvv; have HN : Hid (FtS X2 (st.take (0) ++ [⟨s1, s2, s3⟩]) va4 vc4 w4) := HSv.out.push (by omega) hown1 hg1; clear tok _t hown1 hg1 hat1)
              go_roundw
              case rel => exact ⟨i2 + 1, st.take (0) ++ [⟨s1, s2, s3⟩], va4, vc4, by omega, by simp <;> omega, by simp <;> omega, by go_num, HFN, HN⟩
              case measure => simp [intOf]; omega
            | succ k =>
              obtain ⟨t, ht⟩ : ∃ t, st[k]? = some t := ⟨_, List.getElem?_eq_getElem (by omega)⟩
              obtain ⟨h, rfl, hh, g0, g1, g2⟩ := (row_stk HS2.out.1).1 k t ht
              have HTk : Hid (st.take (k + 1) = st.take k ++ [t]) := take_snoc ht
              have hax := fun W => harn W t
              have hi1 : ((k : Int) + 1) - 1 = (k : Int) := by omega
              have hi2 : (k : Int) < (k : Int) + 1 := by omega
              have hi3 : (0 : Int) ≤ (k : Int) := by omega
              have hg0 : decide ((0 : Int) < (k : Int) + 1) = true := by simp <;> omega
              have hg1 : decide (0 < k + 1) = true := by simp
              clear ht harn
              obtain ⟨t1, t2, t3⟩ := t
              simp only at *
              by_cases hltp : t2 < s1
              · have HP2 : Hid (pop s1 st = pop s1 (st.take k)) := by show _ = _; rw [HP.out, HTk.out, pop_lt hltp]
                have hd3 : decide (t2 < s1) = true := by simp [hltp]
                clear hax
                go_wp2_with fail
                refine wp_region_bel (by kernel_rfl) (by kernel_rfl) ?_
                intro hne
                repeat go_big_quiet_step (fail)
                refine wpQuiet_nil ?_
                rintro _ ⟨u, rfl⟩
                have HB2 : Hid (FtS X2 st (some ⟨h, 0, none⟩) oc u.w) := HS2.out.bel u.h
                go_wp2
                go_roundw
                case rel => exact ⟨k, by omega, rfl, HP2, HB2⟩
                case measure => simp
              · have hd3 : decide (t2 < s1) = false := by simp; omega
                have hpop : pop s1 st = st.take (k + 1) := by rw [HP.out, HTk.out, pop_ge (by show ¬ (_ < _); simp only; omega)]
                have HLs : Hid ((st.take (k + 1)).getLast? = some ⟨t1, t2, t3⟩) := by show _ = _; rw [HTk.out]; simp
                have HF3 : Hid (q = if slf ⟨s1, s2, s3⟩ ⟨t1, t2, t3⟩ then (if s3 = t3 then fitR (st.take (k + 1)) (M.drop (i2 + 1)) else false) else (if anc ⟨t1, t2, t3⟩ ⟨s1, s2, s3⟩ then fitR (st.take (k + 1) ++ [⟨s1, s2, s3⟩]) (M.drop (i2 + 1)) else false)) := by
                  have h := HF2.out
                  rw [hpop, HLs.out] at h
                  exact h
                clear HF2 HP hpop HLs
                go_wp2_with fail
                refine wp_region_bel (by kernel_rfl) (by kernel_rfl) ?_
                intro hne
                repeat go_big_quiet_step (fail)
                refine wpQuiet_nil ?_
                rintro _ ⟨u, rfl⟩
                obtain ⟨W2, hW2⟩ : ∃ W2, u.w.alloc (.cells #[.int .u64 t1, .int .u64 t2, .int .i64 t3] 36) = W2 := ⟨_, rfl⟩
                have bW2 : Below wr.heap.size wr W2 := by rw [← hW2]; exact u.h.alloc u.h.size _
                have HW2 : Hid (u.w.alloc (.cells #[.int .u64 t1, .int .u64 t2, .int .i64 t3] 36) = W2) := hW2
                have iY : IsCells W2 u.w.heap.size #[.int .u64 t1, .int .u64 t2, .int .i64 t3] := by rw [← hW2]; exact isCells_new _ _ _
                have HS3 : Hid (FtS X2 st (some ⟨h, 0, none⟩) oc W2) := HS2.out.bel bW2
                have y0 : W2.cell? ⟨u.w.heap.size, 0, none⟩ = some (.int .u64 t1) := iY.cell 0
                have y1 : W2.cell? ⟨u.w.heap.size, 1, none⟩ = some (.int .u64 t2) := iY.cell 1
                have y2 : W2.cell? ⟨u.w.heap.size, 2, none⟩ = some (.int .i64 t3) := iY.cell 2
                have lY := iY.lt
                have lW : wr.heap.size ≤ W2.heap.size := bW2.size
                have e0 : W2.cell? ⟨gl, i2 * 3, none⟩ = some (.int .u64 s1) := (bW2.cell (p := ⟨gl, i2 * 3, none⟩) hgl).trans b0
                have e1 : W2.cell? ⟨gl, i2 * 3 + 1, none⟩ = some (.int .u64 s2) := (bW2.cell (p := ⟨gl, i2 * 3 + 1, none⟩) hgl).trans b1
                have e2 : W2.cell? ⟨gl, i2 * 3 + 2, none⟩ = some (.int .i64 s3) := (bW2.cell (p := ⟨gl, i2 * 3 + 2, none⟩) hgl).trans b2
                have hgl2 : gl < W2.heap.size := by omega
                clear hW2 iY bW2
                go_upto_region 13 with fail
                rw [HW2.out]
                by_cases he : t1 = s1 ∧ t2 = s2 ∧ t3 = s3
                · obtain ⟨rfl, rfl, rfl⟩ := he
                  have hes : eqSp t1 t2 t3 t1 t2 t3 = true := by simp [eqSp]
                  have HFN : Hid (fitR (st.take (k + 1)) (M.drop (i2 + 1)) = q) := by
                    have h := HF3.out
                    have hsl : slf (⟨t1, t2, t3⟩ : Sp) ⟨t1, t2, t3⟩ = true := by simp [slf]
                    rw [hsl, if_pos rfl, if_pos rfl] at h
                    exact h.symm
                  clear HF3 hax
                  refine wp_region_bel (by kernel_rfl) (by kernel_rfl) ?_
                  intro hne
                  repeat go_big_quiet_step (fail)
                  refine wpQuiet_nil ?_
                  rintro _ ⟨v, rfl⟩
                  have HSv : Hid (FtS X2 (st.take (k + 1)) (some ⟨h, 0, none⟩) oc v.w) := by
                    have h1 := HS3.out.bel v.h
                    refine ⟨?_, h1.2⟩
                    rw [show (st.take (k + 1)).length = k + 1 by rw [List.length_take]; omega]
                    exact h1.take (by omega)
                  go_wp2
                  go_roundw
                  case rel => exact ⟨i2 + 1, st.take (k + 1), some ⟨h, 0, none⟩, oc, by omega, by simp <;> omega, by simp <;> omega, by go_num, HFN, HSv⟩
                  case measure => simp [intOf]; omega
                · have hes : eqSp t1 t2 t3 s1 s2 s3 = false := by simpa [eqSp] using he
                  have HF4 : Hid (q = if anc ⟨t1, t2, t3⟩ ⟨s1, s2, s3⟩ then fitR (st.take (k + 1) ++ [⟨s1, s2, s3⟩]) (M.drop (i2 + 1)) else false) := by
                    show _ = _
                    rw [HF3.out]
                    by_cases hsl : slf (⟨s1, s2, s3⟩ : Sp) ⟨t1, t2, t3⟩ = true
                    · rw [if_pos hsl]
                      rw [slf_iff] at hsl
                      simp only at hsl
                      rw [if_neg (fun e => he ⟨hsl.1.symm, hsl.2.symm, e.symm⟩), if_neg (by rw [anc_iff]; simp only; omega)]
                    · rw [if_neg hsl]
                  clear HF3 he
                  go_wp2_with fail
                  refine wp_region_bel (by kernel_rfl) (by kernel_rfl) ?_
                  intro hne
                  repeat go_big_quiet_step (fail)
                  refine wpQuiet_nil ?_
                  rintro _ ⟨v, rfl⟩
                  cases hA : anc ⟨t1, t2, t3⟩ ⟨s1, s2, s3⟩
                  · rw [hA] at hax
                    have hq0 : q = false := by rw [HF4.out, hA]; rfl
                    subst hq0
                    clear HF4 hA
                    go_wp2_with fail
                    refine wp_region_belOf v (by kernel_rfl) (by kernel_rfl) ?_
                    intro hne
                    repeat go_big_quiet_step ((go_at_call 46; with_reducible exact Calls.bel_of (hax _)))
                    refine wpQuiet_nil ?_
                    rintro _ ⟨x, rfl⟩
                    have HV : Hid (Below w.heap.size w x.w) := HX2.out.2.trans ((HS3.out.2.trans (x.h.mono HS3.out.2.size)).mono HX2.out.2.size)
                    go_wp2
                    go_ret
                    exact ⟨rfl, HV.out⟩
                  · rw [hA] at hax
                    have HFN : Hid (fitR (st.take (k + 1) ++ [⟨s1, s2, s3⟩]) (M.drop (i2 + 1)) = q) := by show _ = _; rw [HF4.out, hA]; rfl
                    clear HF4 hA
                    go_wp2_with fail
                    refine wp_region_belOf v (by kernel_rfl) (by kernel_rfl) ?_
                    intro hne
                    repeat go_big_quiet_step ((go_at_call 46; with_reducible exact Calls.bel_of (hax _)))
                    refine wpQuiet_nil ?_
                    rintro _ ⟨v, rfl⟩
                    clear hax
                    have HSv : Hid (FtS X2 st (some ⟨h, 0, none⟩) oc v.w) := HS3.out.bel v.h
                    have HOW : Hid ((v.w.alloc (.cells #[.int .u64 s1, .int .u64 s2, .int .i64 s3] 36)).ownsRow X2.heap.size 36 3 (.slice (some ⟨h, 0, none⟩) (k + 1) oc) (k + 1) (spCells (st.take (k + 1)))) := own_of_block (HSv.out.take (by omega)) (fun j hj => Below.heap_alloc _ _ _ (own_block_lt (HSv.out.take (m := k + 1) (by omega)) j hj).2)
                    have hzB : X2.heap.size ≤ v.w.heap.size := HSv.out.2.size
                    have tok : True := trivial
                    go_wp2_with (at_builtin; have _t := tok; refine wpList_app (by rfl) _ _ (by rfl) Try.underlying90 info39 rfl (by decide) X2.heap.size (.slice (some ⟨h, 0, none⟩) (k + 1) oc) (k + 1) (spCells (st.take (k + 1))) (by rfl) HOW.out (some ⟨v.w.heap.size, 0, none⟩) 1 1 (spCells [⟨s1, s2, s3⟩]) (by rfl) (by rfl) (one_news v.w _) (spCells_one _) (by unfold maxLen; omega) (by omega) (by simp; omega) ?_; intro v1 w4 hown1 hg1 _ hat1; obtain ⟨va4, vc4, hvv⟩ := own_slice hown1; subst hvv; have HN : Hid (FtS X2 (st.take (k + 1) ++ [⟨s1, s2, s3⟩]) va4 vc4 w4) := HSv.out.push (by omega) hown1 hg1; clear tok _t hown1 hg1 hat1)
                    go_roundw
                    case rel => exact ⟨i2 + 1, st.take (k + 1) ++ [⟨s1, s2, s3⟩], va4, vc4, by omega, by simp <;> omega, by simp <;> omega, by go_num, HFN, HN⟩
                    case measure => simp [intOf]; omega
        · have hq1 : q = true := by
            rw [← HG.out, List.drop_of_length_le (by omega)]
            rfl
          subst hq1
          have HV : Hid (Below w.heap.size w wr) := HX2.out.2.trans (HS.out.2.mono HX2.out.2.size)
          go_wp2
          go_ret
          exact ⟨rfl, HV.out⟩

theorem crossed_any (w : World) {LL : List (List Pl)} {a : Option Addr} {ca : Nat} (h : LlAt w a LL) (hk : LL.length ≤ 256) (h0 : wrA LL = 0) (q : Bool) (hq : q = true ↔ (sps LL.flatten).Pairwise Ok) :
    Calls Try.prog 28 #[.slice a LL.length ca] w fun e w' => e = .returned (.bool (!q)) ∧ Below w.heap.size w w' := by
  have hok := wrA_ok h0
  refine crossed_walk w h hk (fun L hL => (hok L hL).1) _ rfl q ?_
  have hris : Ris (mgA LL) := mgA_ris LL (fun L hL => (oneS_ok (hok L hL).2).2.1.imp (fun h => Int.le_of_lt h))
  have hp := mgA_perm LL
  have hmem : ∀ x ∈ mgA LL, 0 ≤ x.b ∧ x.b < x.e := by
    intro x hx
    have hx2 := hp.mem_iff.1 hx
    unfold sps at hx2
    obtain ⟨p, hp2, rfl⟩ := List.mem_map.1 hx2
    obtain ⟨L, hL, hpL⟩ := List.mem_flatten.1 hp2
    have := one_val (hok L hL).2 p hpL
    omega
  have hiff := fitR_iff (mgA LL) [] [] 0 (Opn.nil 0) List.Pairwise.nil (by simpa using hris) (fun x hx => (hmem x hx).1) (fun x hx => (hmem x hx).2)
  rw [List.nil_append] at hiff
  have hpw : (mgA LL).Pairwise Ok ↔ (sps LL.flatten).Pairwise Ok := hp.pairwise_iff (fun h => Ok.symm h)
  rw [Bool.eq_iff_iff, hiff, hpw, hq]

end Go.Proofs.Ytmeinebfdljndaa
