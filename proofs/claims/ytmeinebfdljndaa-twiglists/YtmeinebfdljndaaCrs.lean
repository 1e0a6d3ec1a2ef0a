/- Whether spans of some lists cross: the program's. -/
import Derived.Test.YtmeinebfdljndaaSrt
namespace Go.Proofs.Ytmeinebfdljndaa
open Go.RowKit
set_option linter.unusedVariables false
attribute [local go_sem] Bel.cell Bel.fz
attribute [local go_sem high] neq_sp

/-- Those that are open, gone through one by one. -/
def fineP : List Sp → List Sp → Bool
  | _, [] => true
  | st, s :: r => lastFits (pop s.b st) s && fineP (pop s.b st ++ [s]) r
theorem fineP_fold : ∀ (L st : List Sp) (b : Bool), (L.foldl come (st, b)).2 = (b && fineP st L)
  | [], st, b => by simp [fineP]
  | s :: r, st, b => by
    rw [List.foldl_cons]
    show (r.foldl come (pop s.b st ++ [s], b && lastFits (pop s.b st) s)).2 = _
    rw [fineP_fold r, fineP, Bool.and_assoc]
theorem fineP_iff {L : List Sp} (hs : L.Pairwise (fun x y => x.b ≤ y.b)) (h0 : ∀ x ∈ L, 0 ≤ x.b) (hv : ∀ x ∈ L, x.b < x.e) : fineP [] L = true ↔ L.Pairwise Ok := by
  have := come_fold L [] [] 0 (Opn.nil 0) List.Pairwise.nil (by simpa using hs) h0 hv
  rw [fineP_fold] at this
  simpa using this
theorem fine_at {st M : List Sp} {i : Nat} {s : Sp} (h : M[i]? = some s) : fineP st (M.drop i) = (lastFits (pop s.b st) s && fineP (pop s.b st ++ [s]) (M.drop (i + 1))) := by
  have hlt := (List.getElem?_eq_some_iff.1 h).1
  have e : M.drop i = s :: M.drop (i + 1) := by
    rw [List.drop_eq_getElem_cons hlt, (List.getElem?_eq_some_iff.1 h).2]
  rw [e, fineP]

def FtS (w1 : World) (st : List Sp) (oa : Option Addr) (oc : Nat) (wr : World) : Prop := wr.ownsRow w1.heap.size 36 3 (.slice oa st.length oc) st.length (spCells st) ∧ Below w1.heap.size w1 wr
theorem FtS.bel {w1 : World} {st : List Sp} {oa : Option Addr} {oc : Nat} {wr X : World} (h : FtS w1 st oa oc wr) (u : Below wr.heap.size wr X) : FtS w1 st oa oc X := ⟨own_bel h.1 u, h.2.trans (u.mono h.2.size)⟩
theorem FtS.take {w1 : World} {st : List Sp} {oa : Option Addr} {oc : Nat} {wr : World} (h : FtS w1 st oa oc wr) {m : Nat} (hm : m ≤ st.length) : wr.ownsRow w1.heap.size 36 3 (.slice oa m oc) m (spCells (st.take m)) := by
  have := own_take h.1 hm
  rwa [← spCells_take] at this
/-- One is put onto those that are left open. -/
theorem FtS.push {w1 : World} {st : List Sp} {oa : Option Addr} {oc : Nat} {X w4 : World} {m : Nat} {s : Sp} {va : Option Addr} {vc : Nat} (h : FtS w1 st oa oc X) (hm : m ≤ st.length) (q1 : w4.ownsRow w1.heap.size 36 3 (.slice va (m + 1) vc) (m + 1) (spCells (st.take m) ++ spCells [s])) {o : Obj} (q2 : (X.alloc o).grownBy w4 (Value.slice oa m oc).ownBlock) : FtS w1 (st.take m ++ [s]) va vc w4 := by
  refine ⟨?_, (h.2.alloc h.2.size _).grown q2 (by have := h.2.size; simp; omega) (fun j hj => (own_block_lt (h.take hm) j hj).1)⟩
  rw [spCells_append, show (st.take m ++ [s]).length = m + 1 by simp; omega]
  exact q1

set_option maxRecDepth 100000 in
set_option maxHeartbeats 8000000 in
theorem cross_loop (w : World) {LL : List (List Pl)} {a : Option Addr} {ca : Nat} (hk : LL.length ≤ 1024) (N : Nat) (hT : N ≤ 1048576)
    (hcc : Calls Try.prog 60 #[.slice a LL.length ca] w fun e w' => ∃ va vc, e = .returned (.slice va N vc) ∧ Hid (w'.ownsRow w.heap.size 38 4 (.slice va N vc) N (plCells LL.flatten) ∧ Below w.heap.size w w'))
    (hsr : ∀ X va vc, X.ownsRow w.heap.size 38 4 (.slice va N vc) N (plCells LL.flatten) → Below w.heap.size w X → Calls Try.prog 61 #[.slice va N vc, .func (.func 62) #[] #[]] X fun e Y => e = .returned (.tuple #[]) ∧ ∃ M : List Pl, M.length = N ∧ Hid (M.Perm LL.flatten ∧ M.Pairwise (fun x y => x.s.b ≤ y.s.b)) ∧ Hid (PlsAt Y Y.heap.size va M ∧ Below w.heap.size w Y))
    (q : Bool) (hq : ∀ M : List Pl, M.Perm LL.flatten → M.Pairwise (fun x y => x.s.b ≤ y.s.b) → fineP [] (sps M) = q) :
    Calls Try.prog 41 #[.slice a LL.length ca] w fun e w' => e = .returned (.bool (!q)) ∧ Below w.heap.size w w' := by
  have HSR : Hid (∀ X va vc, X.ownsRow w.heap.size 38 4 (.slice va N vc) N (plCells LL.flatten) → Below w.heap.size w X → Calls Try.prog 61 #[.slice va N vc, .func (.func 62) #[] #[]] X fun e Y => e = .returned (.tuple #[]) ∧ ∃ M : List Pl, M.length = N ∧ Hid (M.Perm LL.flatten ∧ M.Pairwise (fun x y => x.s.b ≤ y.s.b)) ∧ Hid (PlsAt Y Y.heap.size va M ∧ Below w.heap.size w Y)) := hsr
  have HQ : Hid (∀ M : List Pl, M.Perm LL.flatten → M.Pairwise (fun x y => x.s.b ≤ y.s.b) → fineP [] (sps M) = q) := hq
  clear hsr hq
  go_enter Try.func41, Try.ntmps41
  go_wp2_with fail
  with_reducible refine hcc.mono ?_
  rintro e X1 ⟨va, vc, rfl, H1⟩
  have hs := HSR.out X1 va vc H1.out.1 H1.out.2
  clear hcc HSR H1
  go_wp2_with fail
  with_reducible refine hs.mono ?_
  rintro e X2 ⟨rfl, M, hMN, HM, HX2⟩
  have HF0 : Hid (fineP [] ((sps M).drop 0) = q) := HQ.out M HM.out.1 HM.out.2
  subst hMN
  clear hs HM HQ
  have H0 : Hid (FtS X2 [] none 0 X2) := ⟨own_none _ _ _ _, Below.refl _ _⟩
  go_wp2
  go_loopw [4, 14] (fun u v wr => ∃ (i : Nat) (st : List Sp) (oa : Option Addr) (oc : Nat), i ≤ M.length ∧ st.length ≤ i ∧ u = .slice oa st.length oc ∧ v = .int .i64 (i : Int) ∧ Hid (fineP st ((sps M).drop i) = q) ∧ Hid (FtS X2 st oa oc wr)) (fun _ v _ => M.length - (intOf v).toNat)
  case atStart => exact ⟨0, [], none, 0, by omega, by simp, rfl, rfl, HF0, H0⟩
  case round =>
    clear H0 HF0
    obtain ⟨i, st, oa, oc, hi, hsi, rfl, rfl, HG, HS⟩ := hrel
    have hws := HS.out.2.size
    by_cases hlt : i < M.length
    · obtain ⟨p, hp⟩ : ∃ p, M[i]? = some p := ⟨_, List.getElem?_eq_getElem hlt⟩
      have HF := fine_at (st := st) (sps_get hp)
      obtain ⟨g, o, rfl, hg, m0, m1, m2, m3⟩ := (HX2.out.1.bel HS.out.2) i p hp
      have hlt9 : (i : Int) < (M.length : Int) := by omega
      have hprc := fun W x => prec_any W x p.s
      have hanc := fun W x => anc_any W x p.s
      obtain ⟨pn, s1, s2, s3⟩ := p
      unfold sv at hprc hanc
      simp only at *
      have HF2 : Hid ((lastFits (pop s1 st) ⟨s1, s2, s3⟩ && fineP (pop s1 st ++ [⟨s1, s2, s3⟩]) ((sps M).drop (i + 1))) = q) := by
        show _ = _
        rw [← HF]
        exact HG.out
      clear HF HG hp
      have HS1 : Hid (FtS X2 st oa oc (wr.alloc (.cells #[.int .u64 pn, .int .u64 s1, .int .u64 s2, .int .i64 s3] 38))) := HS.out.bel ((Below.refl _ _).alloc (Nat.le_refl _) _)
      have HX1 : Hid (IsCells (wr.alloc (.cells #[.int .u64 pn, .int .u64 s1, .int .u64 s2, .int .i64 s3] 38)) wr.heap.size #[.int .u64 pn, .int .u64 s1, .int .u64 s2, .int .i64 s3]) := isCells_new _ _ _
      go_wp2
      clear m0 m1 m2 m3
      generalize hW1 : wr.alloc (.cells #[.int .u64 pn, .int .u64 s1, .int .u64 s2, .int .i64 s3] 38) = W1 at *
      have hX : wr.heap.size < W1.heap.size := HX1.out.lt
      have hXW : X2.heap.size ≤ W1.heap.size := HS1.out.2.size
      clear hW1
      generalize wr.heap.size = G at *
      clear HS
      have HOC := (row_stk HS1.out.1).2
      go_loopw [4] (fun v4 wr => ∃ m : Nat, m ≤ st.length ∧ v4 = .slice oa m oc ∧ Hid (pop s1 st = pop s1 (st.take m)) ∧ Hid (Below W1.heap.size W1 wr)) (fun v4 _ => match v4 with | .slice _ n _ => n | _ => 0)
      case atStart => exact ⟨st.length, Nat.le_refl _, rfl, by show _ = _; rw [List.take_length], Below.refl _ _⟩
      case round =>
        obtain ⟨m, hm, rfl, HP, HB⟩ := hrel
        have hwz2 := HB.out.size
        have HS2 : Hid (FtS X2 st oa oc wr) := HS1.out.bel HB.out
        have xs : IsCells wr G #[.int .u64 pn, .int .u64 s1, .int .u64 s2, .int .i64 s3] := HX1.out.of_block (HB.out.block _ hX)
        have b0 : wr.cell? ⟨G, 1, none⟩ = some (.int .u64 s1) := xs.cell 1
        have b1 : wr.cell? ⟨G, 2, none⟩ = some (.int .u64 s2) := xs.cell 2
        have b2 : wr.cell? ⟨G, 3, none⟩ = some (.int .i64 s3) := xs.cell 3
        have lG := xs.lt
        clear xs
        cases m with
        | zero =>
          have HFN : Hid (fineP (st.take 0 ++ [⟨s1, s2, s3⟩]) ((sps M).drop (i + 1)) = q) := by
            have hp0 : pop s1 st = [] := HP.out
            have h := HF2.out
            rw [hp0] at h
            show _ = _
            simpa [lastFits] using h
          clear HF2 HP hprc hanc
          go_wp2_with fail
          refine wp_region_bel (by kernel_rfl) (by kernel_rfl) ?_
          intro hne
          repeat go_big_quiet_step (fail)
          refine wpQuiet_nil ?_
          rintro _ ⟨u, rfl⟩
          go_wp2_with fail
          refine wp_region_belOf u (by kernel_rfl) (by kernel_rfl) ?_
          intro hne
          repeat go_big_quiet_step (fail)
          refine wpQuiet_nil ?_
          rintro _ ⟨v, rfl⟩
          have HSv : Hid (FtS X2 st oa oc v.w) := HS2.out.bel v.h
          have HOW : Hid ((v.w.alloc (.cells #[.int .u64 s1, .int .u64 s2, .int .i64 s3] 36)).ownsRow X2.heap.size 36 3 (.slice oa (0) oc) (0) (spCells (st.take (0)))) := own_of_block (HSv.out.take (by omega)) (fun j hj => Below.heap_alloc _ _ _ (own_block_lt (HSv.out.take (m := 0) (by omega)) j hj).2)
          have hzB : X2.heap.size ≤ v.w.heap.size := HSv.out.2.size
          have tok : True := trivial
          go_wp2_with (at_builtin; have _t := tok; refine wpList_app (by rfl) _ _ (by rfl) Try.underlying90 info39 rfl (by decide) X2.heap.size (.slice oa (0) oc) (0) (spCells (st.take (0))) (by rfl) HOW.out (some ⟨v.w.heap.size, 0, none⟩) 1 1 (spCells [⟨s1, s2, s3⟩]) (by rfl) (by rfl) (one_news v.w _) (spCells_one _) (by unfold maxLen; omega) (by omega) (by simp; omega) ?_; intro v1 w4 hown1 hg1 _ hat1; obtain ⟨va4, vc4, hvv⟩ := own_slice hown1; subst hvv; have HN : Hid (FtS X2 (st.take (0) ++ [⟨s1, s2, s3⟩]) va4 vc4 w4) := HSv.out.push (by omega) hown1 hg1; clear tok _t hown1 hg1 hat1)
          go_roundw
          case rel => exact ⟨i + 1, st.take (0) ++ [⟨s1, s2, s3⟩], va4, vc4, by omega, by simp <;> omega, by simp <;> omega, by go_num, HFN, HN⟩
          case measure => simp [intOf]; omega
        | succ k =>
          obtain ⟨t, ht⟩ : ∃ t, st[k]? = some t := ⟨_, List.getElem?_eq_getElem (by omega)⟩
          obtain ⟨h, rfl, hh, g0, g1, g2⟩ := (row_stk HS2.out.1).1 k t ht
          have HT : Hid (st.take (k + 1) = st.take k ++ [t]) := take_snoc ht
          have hpx := fun W => hprc W t
          have hax := fun W => hanc W t
          have hi1 : ((k : Int) + 1) - 1 = (k : Int) := by omega
          have hi2 : (k : Int) < (k : Int) + 1 := by omega
          have hi3 : (0 : Int) ≤ (k : Int) := by omega
          have hg0 : decide ((0 : Int) < (k : Int) + 1) = true := by simp <;> omega
          have hg1 : decide (0 < k + 1) = true := by simp
          clear ht hprc hanc
          obtain ⟨t1, t2, t3⟩ := t
          simp only at *
          by_cases hlt2 : t2 < s1
          · have HP2 : Hid (pop s1 st = pop s1 (st.take k)) := by show _ = _; rw [HP.out, HT.out, pop_lt hlt2]
            have hfe : fol ⟨s1, s2, s3⟩ ⟨t1, t2, t3⟩ = true := by simp [fol, hlt2]
            rw [hfe] at hpx
            clear hax hfe
            go_wp2_with fail
            refine wp_region_bel (by kernel_rfl) (by kernel_rfl) ?_
            intro hne
            repeat go_big_quiet_step ((go_at_call 64; with_reducible exact Calls.bel_of (hpx _)))
            refine wpQuiet_nil ?_
            rintro _ ⟨u, rfl⟩
            have HB2 : Hid (Below W1.heap.size W1 u.w) := HB.out.trans (u.h.mono HB.out.size)
            go_wp2
            go_roundw
            case rel => exact ⟨k, by omega, rfl, HP2, HB2⟩
            case measure => simp
          · have hfe : fol ⟨s1, s2, s3⟩ ⟨t1, t2, t3⟩ = false := by simp [fol]; omega
            rw [hfe] at hpx
            have HPM : Hid (pop s1 st = st.take (k + 1)) := by show _ = _; rw [HP.out, HT.out, pop_ge (by show ¬ (_ < _); simp only; omega)]
            clear hfe HP
            go_wp2_with fail
            refine wp_region_bel (by kernel_rfl) (by kernel_rfl) ?_
            intro hne
            repeat go_big_quiet_step ((go_at_call 64; with_reducible exact Calls.bel_of (hpx _)))
            refine wpQuiet_nil ?_
            rintro _ ⟨u, rfl⟩
            clear hpx
            go_wp2_with fail
            by_cases he : t1 = s1 ∧ t2 = s2 ∧ t3 = s3
            · obtain ⟨rfl, rfl, rfl⟩ := he
              have hes : eqSp t1 t2 t3 t1 t2 t3 = true := by simp [eqSp]
              have HFN : Hid (fineP (st.take (k + 1) ++ [⟨t1, t2, t3⟩]) ((sps M).drop (i + 1)) = q) := by
                have h := HF2.out
                rw [HPM.out] at h
                have hl : lastFits (st.take (k + 1)) ⟨t1, t2, t3⟩ = true := by rw [HT.out]; simp [lastFits]
                rw [hl] at h
                show _ = _
                simpa using h
              clear HF2 HPM hax
              refine wp_region_belOf u (by kernel_rfl) (by kernel_rfl) ?_
              intro hne
              repeat go_big_quiet_step (fail)
              refine wpQuiet_nil ?_
              rintro _ ⟨v, rfl⟩
              have HSv : Hid (FtS X2 st (some ⟨h, 0, none⟩) oc v.w) := HS2.out.bel v.h
              have HOW : Hid ((v.w.alloc (.cells #[.int .u64 t1, .int .u64 t2, .int .i64 t3] 36)).ownsRow X2.heap.size 36 3 (.slice (some ⟨h, 0, none⟩) (k + 1) oc) (k + 1) (spCells (st.take (k + 1)))) := own_of_block (HSv.out.take (by omega)) (fun j hj => Below.heap_alloc _ _ _ (own_block_lt (HSv.out.take (m := k + 1) (by omega)) j hj).2)
              have hzB : X2.heap.size ≤ v.w.heap.size := HSv.out.2.size
              have tok : True := trivial
              go_wp2_with (at_builtin; have _t := tok; refine wpList_app (by rfl) _ _ (by rfl) Try.underlying90 info39 rfl (by decide) X2.heap.size (.slice (some ⟨h, 0, none⟩) (k + 1) oc) (k + 1) (spCells (st.take (k + 1))) (by rfl) HOW.out (some ⟨v.w.heap.size, 0, none⟩) 1 1 (spCells [⟨t1, t2, t3⟩]) (by rfl) (by rfl) (one_news v.w _) (spCells_one _) (by unfold maxLen; omega) (by omega) (by simp; omega) ?_; intro v1 w4 hown1 hg1 _ hat1; obtain ⟨va4, vc4, hvv⟩ := own_slice hown1; subst hvv; have HN : Hid (FtS X2 (st.take (k + 1) ++ [⟨t1, t2, t3⟩]) va4 vc4 w4) := HSv.out.push (by omega) hown1 hg1; clear tok _t hown1 hg1 hat1)
              go_roundw
              case rel => exact ⟨i + 1, st.take (k + 1) ++ [⟨t1, t2, t3⟩], va4, vc4, by omega, by simp <;> omega, by simp <;> omega, by go_num, HFN, HN⟩
              case measure => simp [intOf]; omega
            · have hes : eqSp t1 t2 t3 s1 s2 s3 = false := by simpa [eqSp] using he
              have HLF : Hid (lastFits (st.take (k + 1)) ⟨s1, s2, s3⟩ = anc ⟨t1, t2, t3⟩ ⟨s1, s2, s3⟩) := by
                show _ = _
                have hee : decide (t1 = s1 ∧ t2 = s2 ∧ t3 = s3) = false := by simpa [eqSp] using hes
                rw [HT.out]
                simp only [lastFits, List.getLast?_append, List.getLast?_singleton, Option.some_or]
                rw [hee, Bool.false_or]
              cases hA : anc ⟨t1, t2, t3⟩ ⟨s1, s2, s3⟩
              · rw [hA] at hax HLF
                have hq0 : q = false := by
                  have h := HF2.out
                  rw [HPM.out, HLF.out] at h
                  simpa using h.symm
                subst hq0
                clear HF2 HPM HLF hA
                refine wp_region_belOf u (by kernel_rfl) (by kernel_rfl) ?_
                intro hne
                repeat go_big_quiet_step ((go_at_call 65; with_reducible exact Calls.bel_of (hax _)))
                refine wpQuiet_nil ?_
                rintro _ ⟨v, rfl⟩
                have HV : Hid (Below w.heap.size w v.w) := HX2.out.2.trans (((HS2.out.2.trans (v.h.mono HS2.out.2.size))).mono HX2.out.2.size)
                go_wp2
                go_ret
                exact ⟨rfl, HV.out⟩
              · rw [hA] at hax HLF
                have HFN : Hid (fineP (st.take (k + 1) ++ [⟨s1, s2, s3⟩]) ((sps M).drop (i + 1)) = q) := by
                  have h := HF2.out
                  rw [HPM.out, HLF.out] at h
                  show _ = _
                  simpa using h
                clear HF2 HPM HLF hA
                refine wp_region_belOf u (by kernel_rfl) (by kernel_rfl) ?_
                intro hne
                repeat go_big_quiet_step ((go_at_call 65; with_reducible exact Calls.bel_of (hax _)))
                refine wpQuiet_nil ?_
                rintro _ ⟨v, rfl⟩
                clear hax
                have HSv : Hid (FtS X2 st (some ⟨h, 0, none⟩) oc v.w) := HS2.out.bel v.h
                have HOW : Hid ((v.w.alloc (.cells #[.int .u64 s1, .int .u64 s2, .int .i64 s3] 36)).ownsRow X2.heap.size 36 3 (.slice (some ⟨h, 0, none⟩) (k + 1) oc) (k + 1) (spCells (st.take (k + 1)))) := own_of_block (HSv.out.take (by omega)) (fun j hj => Below.heap_alloc _ _ _ (own_block_lt (HSv.out.take (m := k + 1) (by omega)) j hj).2)
                have hzB : X2.heap.size ≤ v.w.heap.size := HSv.out.2.size
                have tok : True := trivial
                go_wp2_with (at_builtin; have _t := tok; refine wpList_app (by rfl) _ _ (by rfl) Try.underlying90 info39 rfl (by decide) X2.heap.size (.slice (some ⟨h, 0, none⟩) (k + 1) oc) (k + 1) (spCells (st.take (k + 1))) (by rfl) HOW.out (some ⟨v.w.heap.size, 0, none⟩) 1 1 (spCells [⟨s1, s2, s3⟩]) (by rfl) (by rfl) (one_news v.w _) (spCells_one _) (by unfold maxLen; omega) (by omega) (by simp; omega) ?_; intro v1 w4 hown1 hg1 _ hat1; obtain ⟨va4, vc4, hvv⟩ := own_slice hown1; subst hvv; have HN : Hid (FtS X2 (st.take (k + 1) ++ [⟨s1, s2, s3⟩]) va4 vc4 w4) := HSv.out.push (by omega) hown1 hg1; clear tok _t hown1 hg1 hat1)
                go_roundw
                case rel => exact ⟨i + 1, st.take (k + 1) ++ [⟨s1, s2, s3⟩], va4, vc4, by omega, by simp <;> omega, by simp <;> omega, by go_num, HFN, HN⟩
                case measure => simp [intOf]; omega
    · have hq1 : q = true := by
        rw [← HG.out, List.drop_of_length_le (by simp [sps]; omega)]
        rfl
      subst hq1
      have HV : Hid (Below w.heap.size w wr) := HX2.out.2.trans (HS.out.2.mono HX2.out.2.size)
      go_wp2
      go_ret
      exact ⟨rfl, HV.out⟩

/-- All spans of all lists lie apart or in one another. -/
theorem cross_any (w : World) {LL : List (List Pl)} {a : Option Addr} {ca : Nat} (h : LlAt w a LL) (hk : LL.length ≤ 1024) (hT : LL.flatten.length ≤ 1048576) (hv : ∀ x ∈ LL.flatten, 0 ≤ x.s.b ∧ x.s.b < x.s.e) (q : Bool) (hq : q = true ↔ (sps LL.flatten).Pairwise Ok) :
    Calls Try.prog 41 #[.slice a LL.length ca] w fun e w' => e = .returned (.bool (!q)) ∧ Below w.heap.size w w' := by
  refine cross_loop w hk LL.flatten.length hT ?_ ?_ q ?_
  · refine (concat_any w h hk _ rfl hT).mono ?_
    rintro e w' ⟨va, vc, he, h1, h2⟩
    exact ⟨va, vc, he, h1, h2⟩
  · intro X va vc h1 h2
    refine (sort_any X w.heap.size LL.flatten va _ vc rfl h1 h2.size hT).mono ?_
    rintro e Y ⟨he, M, g1, g2, g3, g4⟩
    exact ⟨he, M, g1.length_eq, ⟨g1, g2⟩, row_pls g3, h2.trans g4⟩
  · intro M h1 h2
    have hs : (sps M).Pairwise (fun x y => x.b ≤ y.b) := by
      unfold sps
      rw [List.pairwise_map]
      exact h2
    have hmem : ∀ x ∈ sps M, 0 ≤ x.b ∧ x.b < x.e := by
      intro x hx
      unfold sps at hx
      obtain ⟨p, hp, rfl⟩ := List.mem_map.1 hx
      exact hv p (h1.mem_iff.1 hp)
    have hiff := fineP_iff hs (fun x hx => (hmem x hx).1) (fun x hx => (hmem x hx).2)
    have hp : (sps M).Perm (sps LL.flatten) := h1.map _
    have hpw : (sps M).Pairwise Ok ↔ (sps LL.flatten).Pairwise Ok := hp.pairwise_iff (fun h => Ok.symm h)
    rw [Bool.eq_iff_iff, hiff, hpw, hq]

end Go.Proofs.Ytmeinebfdljndaa
