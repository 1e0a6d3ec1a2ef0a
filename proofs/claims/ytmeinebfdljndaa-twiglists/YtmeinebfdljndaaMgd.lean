/- The document's look at lists: list, Spans, merged. -/
import Derived.Test.YtmeinebfdljndaaWrg
namespace Go.Proofs.Ytmeinebfdljndaa
open Go.RowKit
set_option linter.unusedVariables false
attribute [local go_sem] Bel.cell Bel.fz

set_option maxRecDepth 100000 in
set_option maxHeartbeats 2000000 in
theorem rlist_small (w : World) {L : List Pl} {a : Option Addr} {cap : Nat} (h : PlsAt w w.heap.size a L) (hl : L.length ≤ 4096) (hv : ∀ x ∈ L, Lvl x.s) (y : Int) (hy : oneS (sps L) none = y) :
    Calls Try.prog 27 #[.slice a L.length cap] w fun e w' => e = .returned (.int .i64 y) ∧ Below w.heap.size w w' := by
  have HY : Hid (oneS (sps L) none = y) := hy
  have HA : Hid (PlsAt w w.heap.size a L ∧ ∀ x ∈ L, Lvl x.s) := ⟨h, hv⟩
  clear hy h hv
  have hb9 : ¬ (4096 : Int) < (L.length : Int) := by omega
  go_enter Try.func27, Try.ntmps27
  go_wp2
  go_loopw [3] (fun v wr => ∃ (i : Nat), i ≤ L.length ∧ v = .int .i64 (i : Int) ∧ Hid (oneS ((sps L).drop i) (pvAt (sps L) i) = y) ∧ Hid (Below w.heap.size w wr)) (fun v _ => L.length - (intOf v).toNat)
  case atStart => exact ⟨0, by omega, rfl, HY, Below.refl _ _⟩
  case round =>
    obtain ⟨i, hi, rfl, HG, HB⟩ := hrel
    have hws := HB.out.size
    by_cases hlt : i < L.length
    · obtain ⟨x, hx⟩ : ∃ x, L[i]? = some x := ⟨_, List.getElem?_eq_getElem hlt⟩
      have HS := oneS_at (sps_get hx)
      rw [HG.out] at HS
      have hpl := HA.out.1.below HB.out (Nat.le_refl _)
      obtain ⟨b, o, rfl, hbl, hc0, hc1, hc2, hc3⟩ := hpl i x hx
      obtain ⟨l1, l2⟩ := low_at hpl hlt x.s
      have hbr : b < wr.heap.size := by omega
      have hcv := fun W => rval_any W x.s
      have hlv := HA.out.2 x (List.mem_of_getElem? hx)
      clear hx hpl
      obtain ⟨x0, ⟨x1, x2, x3⟩⟩ := x
      unfold sv at hcv
      simp only at *
      have HB1 : Hid (Below w.heap.size w wr) := HB.out
      cases hvv : val ⟨x1, x2, x3⟩
      · rw [hvv, if_pos rfl] at HS
        rw [hvv] at hcv
        have HE : Hid (110 = y) := HS.symm
        clear HS l1 l2 hvv
        go_wp2_with fail
        with_reducible refine (Calls.bel_first (hcv _)).mono ?_
        rintro e _ ⟨rfl, u, rfl⟩
        go_wp2
        go_ret
        exact ⟨ret_i HE.out, rel_end HB1.out u⟩
      · rw [hvv, if_neg (by decide)] at HS
        rw [hvv] at hcv
        clear hvv
        by_cases hi0 : i = 0
        · rw [l1 hi0, if_neg (by decide)] at HS
          have HE : Hid (oneS ((sps L).drop (i + 1)) (pvAt (sps L) (i + 1)) = y) := HS.symm
          have hdec : decide ((0 : Int) < (i : Int)) = false := by rw [hi0]; rfl
          have hdec' : decide (0 < i) = false := by rw [hi0]; rfl
          clear HS l1 l2 hi0
          go_wp2_with fail
          with_reducible refine (Calls.bel_first (hcv _)).mono ?_
          rintro e _ ⟨rfl, u, rfl⟩
          go_wp2_with fail
          refine wp_region_belOf u (by kernel_rfl) (by kernel_rfl) ?_
          intro hne
          repeat go_big_quiet_step (fail)
          refine wpQuiet_nil ?_
          rintro _ ⟨v, rfl⟩
          have HB2 : Hid (Below w.heap.size w v.w) := rel_end HB1.out v
          go_wp2
          go_roundw
          case rel => exact ⟨i + 1, by omega, by go_num, HE, HB2⟩
          case measure => simp [intOf]; omega
        · obtain ⟨j, rfl⟩ : ∃ j, i = j + 1 := ⟨i - 1, by omega⟩
          obtain ⟨q, hq1, hq2⟩ := l2 j rfl
          have hdec : decide ((0 : Int) < (j : Int) + 1) = true := by simp <;> omega
          have hdec' : decide (0 < j + 1) = true := by simp
          have hj1 : (j : Int) + 1 - 1 = (j : Int) := by omega
          have hj2 : (j : Int) < (L.length : Int) := by omega
          have hj3 : (j : Int) + 1 < (L.length : Int) := by omega
          have hj4 : (0 : Int) ≤ (j : Int) := by omega
          rw [hq1] at HS
          have hqW : wr.cell? ⟨b, o + j * 4 + 1, none⟩ = some (.int .u64 q) := hq2
          clear l1 l2 hi0 hq1
          by_cases hle : x1 ≤ q
          · have hd3 : decide (x1 ≤ q) = true := by simp [hle]
            rw [hd3, if_pos rfl] at HS
            have HE : Hid (71 = y) := HS.symm
            clear HS hle
            go_wp2_with fail
            with_reducible refine (Calls.bel_first (hcv _)).mono ?_
            rintro e _ ⟨rfl, u, rfl⟩
            go_wp2_with fail
            refine wp_region_belOf u (by kernel_rfl) (by kernel_rfl) ?_
            intro hne
            repeat go_big_quiet_step (fail)
            refine wpQuiet_nil ?_
            rintro _ ⟨v, rfl⟩
            have HB2 : Hid (Below w.heap.size w v.w) := rel_end HB1.out v
            go_wp2
            go_ret
            exact ⟨ret_i HE.out, HB2.out⟩
          · have hd3 : decide (x1 ≤ q) = false := by simp; omega
            rw [hd3, if_neg (by decide)] at HS
            have HE : Hid (oneS ((sps L).drop (j + 1 + 1)) (pvAt (sps L) (j + 1 + 1)) = y) := HS.symm
            clear HS hle
            go_wp2_with fail
            with_reducible refine (Calls.bel_first (hcv _)).mono ?_
            rintro e _ ⟨rfl, u, rfl⟩
            go_wp2_with fail
            refine wp_region_belOf u (by kernel_rfl) (by kernel_rfl) ?_
            intro hne
            repeat go_big_quiet_step (fail)
            refine wpQuiet_nil ?_
            rintro _ ⟨v, rfl⟩
            have HB2 : Hid (Below w.heap.size w v.w) := rel_end HB1.out v
            go_wp2
            go_roundw
            case rel => exact ⟨j + 1 + 1, by omega, by go_num, HE, HB2⟩
            case measure => simp [intOf]; omega
    · have HE : Hid (0 = y) := by
        have h := HG.out
        rw [List.drop_eq_nil_of_le (by simp [sps]; omega)] at h
        exact h
      go_wp2
      go_ret
      exact ⟨ret_i HE.out, HB.out⟩
theorem rlist_any (w : World) {L : List Pl} {a : Option Addr} {cap : Nat} (h : PlsAt w w.heap.size a L) (hm : L.length ≤ 1152921504606846976) (hv : ∀ x ∈ L, Lvl x.s) :
    Calls Try.prog 27 #[.slice a L.length cap] w fun e w' => e = .returned (.int .i64 (wr1 L)) ∧ Below w.heap.size w w' := by
  unfold wr1
  by_cases hbig : 4096 < L.length
  · rw [if_pos hbig]
    refine (rlist_big w hbig hm).mono ?_
    rintro e w' ⟨he, rfl⟩
    exact ⟨he, Below.refl _ _⟩
  · rw [if_neg hbig]
    exact rlist_small w h (by omega) hv _ rfl

set_option maxRecDepth 100000 in
set_option maxHeartbeats 4000000 in
theorem spans_any (w : World) {L : List Pl} {a : Option Addr} {cap : Nat} (h : PlsAt w w.heap.size a L) (hl : L.length ≤ 4096) (S : List Sp) (hS : sps L = S) :
    Calls Try.prog 45 #[.slice a L.length cap] w fun e w' => ∃ va vc, e = .returned (.slice va S.length vc) ∧ FtS w S va vc w' := by
  have HA : Hid (PlsAt w w.heap.size a L) := h
  have HS : Hid (sps L = S) := hS
  have hLS : S.length = L.length := by rw [← hS]; simp [sps]
  have H0 : Hid (FtS w [] none 0 w) := ⟨own_none _ _ _ _, Below.refl _ _⟩
  clear h hS
  go_enter Try.func45, Try.ntmps45
  go_wp2
  go_loopw [3, 4] (fun u v wr => ∃ (i : Nat) (M : List Sp) (oa : Option Addr) (oc : Nat), i ≤ L.length ∧ M.length ≤ i ∧ u = .slice oa M.length oc ∧ v = .int .i64 (i : Int) ∧ Hid (M = S.take i) ∧ Hid (FtS w M oa oc wr)) (fun _ v _ => L.length - (intOf v).toNat)
  case atStart => exact ⟨0, [], none, 0, by omega, by simp, rfl, rfl, by show _ = _; simp, H0⟩
  case round =>
    obtain ⟨i, M, oa, oc, hi, hMi, rfl, rfl, HM, HF⟩ := hrel
    by_cases hlt : i < L.length
    · obtain ⟨p, hp⟩ : ∃ p, L[i]? = some p := ⟨_, List.getElem?_eq_getElem hlt⟩
      obtain ⟨b, o, rfl, hb, c0, c1, c2, c3⟩ := (HA.out.bel HF.out.2) i p hp
      have hlt9 : (i : Int) < (L.length : Int) := by omega
      have hsp : S[i]? = some p.s := by rw [← HS.out]; exact sps_get hp
      have HM2 : Hid (M ++ [p.s] = S.take (i + 1)) := by show _ = _; rw [take_snoc hsp, HM.out]
      clear hp hsp
      obtain ⟨pn, s1, s2, s3⟩ := p
      simp only at *
      have HOW : Hid ((wr.alloc (.cells #[.int .u64 s1, .int .u64 s2, .int .i64 s3] 36)).ownsRow w.heap.size 36 3 (.slice oa M.length oc) M.length (spCells M)) := own_of_block HF.out.1 (fun j hj => Below.heap_alloc _ _ _ (own_block_lt HF.out.1 j hj).2)
      have hzB : w.heap.size ≤ wr.heap.size := HF.out.2.size
      have HPU : Hid (∀ va4 vc4 w4, w4.ownsRow w.heap.size 36 3 (.slice va4 (M.length + 1) vc4) (M.length + 1) (spCells M ++ spCells [⟨s1, s2, s3⟩]) → (wr.alloc (.cells #[.int .u64 s1, .int .u64 s2, .int .i64 s3] 36)).grownBy w4 (Value.slice oa M.length oc).ownBlock → FtS w (M ++ [⟨s1, s2, s3⟩]) va4 vc4 w4) := fun va4 vc4 w4 q1 q2 => by
        have := HF.out.push (m := M.length) (s := ⟨s1, s2, s3⟩) (va := va4) (vc := vc4) (w4 := w4) (Nat.le_refl _) (by rw [List.take_length]; exact q1) q2
        rwa [List.take_length] at this
      have tok : True := trivial
      clear HM HF
      go_wp2_with (at_builtin; have _t := tok; refine wpList_app (by rfl) _ _ (by rfl) Try.underlying90 info39 rfl (by decide) w.heap.size (.slice oa M.length oc) M.length (spCells M) (by rfl) HOW.out (some ⟨wr.heap.size, 0, none⟩) 1 1 (spCells [⟨s1, s2, s3⟩]) (by rfl) (by rfl) (one_news wr _) (spCells_one _) (by unfold maxLen; omega) (by omega) (by simp; omega) ?_; intro v1 w4 hown1 hg1 _ hat1; obtain ⟨va4, vc4, hvv⟩ := own_slice hown1; subst hvv; have HN : Hid (FtS w (M ++ [⟨s1, s2, s3⟩]) va4 vc4 w4) := HPU.out va4 vc4 w4 hown1 hg1; clear tok _t hown1 hg1 hat1)
      go_roundw
      case rel => exact ⟨i + 1, M ++ [⟨s1, s2, s3⟩], va4, vc4, by omega, by simp <;> omega, by simp, by go_num, HM2, HN⟩
      case measure => simp [intOf]; omega
    · have hfin : M = S := by
        have h1 := HM.out
        rw [List.take_of_length_le (by omega)] at h1
        exact h1
      subst hfin
      go_wp2
      go_ret
      exact ⟨oa, oc, rfl, HF.out⟩

theorem mgR_left {A D : List Sp} {k i : Nat} {x : Sp} (hx : A[k]? = some x) (hy : ∀ y, D[i]? = some y → x.b ≤ y.b) : mgR (A.drop k) (D.drop i) = x :: mgR (A.drop (k + 1)) (D.drop i) := by
  have hk := (List.getElem?_eq_some_iff.1 hx).1
  have e : A.drop k = x :: A.drop (k + 1) := by rw [List.drop_eq_getElem_cons hk, (List.getElem?_eq_some_iff.1 hx).2]
  rw [e]
  by_cases hi : i < D.length
  · have e2 : D.drop i = D[i] :: D.drop (i + 1) := List.drop_eq_getElem_cons hi
    rw [e2, mgR, if_pos (hy _ (List.getElem?_eq_getElem hi))]
  · have e2 : D.drop i = [] := List.drop_eq_nil_of_le (by omega)
    rw [e2, mgR_nil, mgR_nil]
theorem mgR_right {A D : List Sp} {k i : Nat} {y : Sp} (hy : D[i]? = some y) (hx : ∀ x, A[k]? = some x → ¬ x.b ≤ y.b) : mgR (A.drop k) (D.drop i) = y :: mgR (A.drop k) (D.drop (i + 1)) := by
  have hi := (List.getElem?_eq_some_iff.1 hy).1
  have e : D.drop i = y :: D.drop (i + 1) := by rw [List.drop_eq_getElem_cons hi, (List.getElem?_eq_some_iff.1 hy).2]
  rw [e]
  by_cases hk : k < A.length
  · have e2 : A.drop k = A[k] :: A.drop (k + 1) := List.drop_eq_getElem_cons hk
    rw [e2, mgR, if_neg (hx _ (List.getElem?_eq_getElem hk))]
  · have e2 : A.drop k = [] := List.drop_eq_nil_of_le (by omega)
    rw [e2]
    simp [mgR]
theorem StkAt.bel {w w' : World} {a : Option Addr} {st : List Sp} (h : StkAt w a st) (hb : Below w.heap.size w w') : StkAt w' a st := fun i x hx => by
  obtain ⟨g, h1, h2, h3, h4, h5⟩ := h i x hx
  exact ⟨g, h1, Nat.lt_of_lt_of_le h2 hb.size, (hb.cell (p := ⟨g, i * 3, none⟩) h2).trans h3, (hb.cell (p := ⟨g, i * 3 + 1, none⟩) h2).trans h4, (hb.cell (p := ⟨g, i * 3 + 2, none⟩) h2).trans h5⟩

set_option maxRecDepth 100000 in
set_option maxHeartbeats 8000000 in
theorem merged_any (w : World) {A D : List Sp} {a d : Option Addr} {ca cd : Nat} (hA : StkAt w a A) (hD : StkAt w d D) (lA : A.length ≤ 1048576) (lD : D.length ≤ 1048576) (R : List Sp) (hR : mgR A D = R) :
    Calls Try.prog 44 #[.slice a A.length ca, .slice d D.length cd] w fun e w' => ∃ va vc, e = .returned (.slice va R.length vc) ∧ FtS w R va vc w' := by
  have HA : Hid (StkAt w a A ∧ StkAt w d D) := ⟨hA, hD⟩
  have HR : Hid ([] ++ mgR (A.drop 0) (D.drop 0) = R) := hR
  have H0 : Hid (FtS w [] none 0 w) := ⟨own_none _ _ _ _, Below.refl _ _⟩
  clear hA hD hR
  go_enter Try.func44, Try.ntmps44
  go_wp2
  go_loopw [5, 6, 7] (fun u v x wr => ∃ (i k : Nat) (M : List Sp) (oa : Option Addr) (oc : Nat), i ≤ A.length ∧ k ≤ D.length ∧ M.length ≤ i + k ∧ u = .slice oa M.length oc ∧ v = .int .i64 (i : Int) ∧ x = .int .i64 (k : Int) ∧ Hid (M ++ mgR (A.drop i) (D.drop k) = R) ∧ Hid (FtS w M oa oc wr)) (fun _ v x _ => A.length + D.length - (intOf v).toNat - (intOf x).toNat)
  case atStart => exact ⟨0, 0, [], none, 0, by omega, by omega, by simp, rfl, rfl, rfl, HR, H0⟩
  case round =>
    obtain ⟨i, k, M, oa, oc, hi, hk, hM, rfl, rfl, rfl, HM, HF⟩ := hrel
    clear HR H0
    by_cases hlt : i < A.length
    · obtain ⟨x, hx⟩ : ∃ x, A[i]? = some x := ⟨_, List.getElem?_eq_getElem hlt⟩
      obtain ⟨g, rfl, hg, a0, a1, a2⟩ := (HA.out.1.bel HF.out.2) i x hx
      have hi9 : (i : Int) < (A.length : Int) := by omega
      by_cases hlt2 : k < D.length
      · obtain ⟨z, hz⟩ : ∃ z, D[k]? = some z := ⟨_, List.getElem?_eq_getElem hlt2⟩
        obtain ⟨h, rfl, hh, d0, d1, d2⟩ := (HA.out.2.bel HF.out.2) k z hz
        have hk9 : (k : Int) < (D.length : Int) := by omega
        have hk8 : ¬ (k : Int) = (D.length : Int) := by omega
        have hkb : ((k : Int) == (D.length : Int)) = false := by simp; omega
        have hkn : (k == D.length) = false := by simp; omega
        have hkd : decide ((k : Int) = (D.length : Int)) = false := by simp; omega
        have hke : decide (k = D.length) = false := by simp; omega
        by_cases hle : x.b ≤ z.b
        · have HM2 : Hid (M ++ [x] ++ mgR (A.drop (i + 1)) (D.drop k) = R) := by
            show _ = _
            rw [← HM.out, mgR_left hx (fun y hy => by rw [hz] at hy; cases hy; exact hle)]
            simp
          have hd9 : decide (x.b ≤ z.b) = true := by simp [hle]
          clear hx hz HM
          obtain ⟨s1, s2, s3⟩ := x
          obtain ⟨z1, z2, z3⟩ := z
          simp only at *
          go_wp2_with fail
          refine wp_region_bel (by kernel_rfl) (by kernel_rfl) ?_
          intro hne
          repeat go_big_quiet_step (fail)
          refine wpQuiet_nil ?_
          rintro _ ⟨u, rfl⟩
          have HSv : Hid (FtS w M oa oc u.w) := HF.out.bel u.h
          have HOW : Hid ((u.w.alloc (.cells #[.int .u64 s1, .int .u64 s2, .int .i64 s3] 36)).ownsRow w.heap.size 36 3 (.slice oa M.length oc) M.length (spCells M)) := own_of_block HSv.out.1 (fun j hj => Below.heap_alloc _ _ _ (own_block_lt HSv.out.1 j hj).2)
          have hzB : w.heap.size ≤ u.w.heap.size := HSv.out.2.size
          have HPU : Hid (∀ va4 vc4 w4, w4.ownsRow w.heap.size 36 3 (.slice va4 (M.length + 1) vc4) (M.length + 1) (spCells M ++ spCells [⟨s1, s2, s3⟩]) → (u.w.alloc (.cells #[.int .u64 s1, .int .u64 s2, .int .i64 s3] 36)).grownBy w4 (Value.slice oa M.length oc).ownBlock → FtS w (M ++ [⟨s1, s2, s3⟩]) va4 vc4 w4) := fun va4 vc4 w4 q1 q2 => by
            have := HSv.out.push (m := M.length) (s := ⟨s1, s2, s3⟩) (va := va4) (vc := vc4) (w4 := w4) (Nat.le_refl _) (by rw [List.take_length]; exact q1) q2
            rwa [List.take_length] at this
          have tok : True := trivial
          clear HSv
          go_wp2_with (at_builtin; have _t := tok; refine wpList_app (by rfl) _ _ (by rfl) Try.underlying90 info39 rfl (by decide) w.heap.size (.slice oa M.length oc) M.length (spCells M) (by rfl) HOW.out (some ⟨u.w.heap.size, 0, none⟩) 1 1 (spCells [⟨s1, s2, s3⟩]) (by rfl) (by rfl) (one_news u.w _) (spCells_one _) (by unfold maxLen; omega) (by omega) (by simp; omega) ?_; intro v1 w4 hown1 hg1 _ hat1; obtain ⟨va4, vc4, hvv⟩ := own_slice hown1; subst hvv; have HN : Hid (FtS w (M ++ [⟨s1, s2, s3⟩]) va4 vc4 w4) := HPU.out va4 vc4 w4 hown1 hg1; clear tok _t hown1 hg1 hat1)
          go_roundw
          case rel => exact ⟨i + 1, k, M ++ [⟨s1, s2, s3⟩], va4, vc4, by omega, by omega, by simp <;> omega, by simp, by first | rfl | go_num, by first | rfl | go_num, HM2, HN⟩
          case measure => simp [intOf]; omega
        · have HM2 : Hid (M ++ [z] ++ mgR (A.drop i) (D.drop (k + 1)) = R) := by
            show _ = _
            rw [← HM.out, mgR_right hz (fun y hy => by rw [hx] at hy; cases hy; exact hle)]
            simp
          have hd9 : decide (x.b ≤ z.b) = false := by simp; omega
          clear hx hz HM
          obtain ⟨x1, x2, x3⟩ := x
          obtain ⟨s1, s2, s3⟩ := z
          simp only at *
          go_wp2_with fail
          refine wp_region_bel (by kernel_rfl) (by kernel_rfl) ?_
          intro hne
          repeat go_big_quiet_step (fail)
          refine wpQuiet_nil ?_
          rintro _ ⟨u, rfl⟩
          have HSv : Hid (FtS w M oa oc u.w) := HF.out.bel u.h
          have HOW : Hid ((u.w.alloc (.cells #[.int .u64 s1, .int .u64 s2, .int .i64 s3] 36)).ownsRow w.heap.size 36 3 (.slice oa M.length oc) M.length (spCells M)) := own_of_block HSv.out.1 (fun j hj => Below.heap_alloc _ _ _ (own_block_lt HSv.out.1 j hj).2)
          have hzB : w.heap.size ≤ u.w.heap.size := HSv.out.2.size
          have HPU : Hid (∀ va4 vc4 w4, w4.ownsRow w.heap.size 36 3 (.slice va4 (M.length + 1) vc4) (M.length + 1) (spCells M ++ spCells [⟨s1, s2, s3⟩]) → (u.w.alloc (.cells #[.int .u64 s1, .int .u64 s2, .int .i64 s3] 36)).grownBy w4 (Value.slice oa M.length oc).ownBlock → FtS w (M ++ [⟨s1, s2, s3⟩]) va4 vc4 w4) := fun va4 vc4 w4 q1 q2 => by
            have := HSv.out.push (m := M.length) (s := ⟨s1, s2, s3⟩) (va := va4) (vc := vc4) (w4 := w4) (Nat.le_refl _) (by rw [List.take_length]; exact q1) q2
            rwa [List.take_length] at this
          have tok : True := trivial
          clear HSv
          go_wp2_with (at_builtin; have _t := tok; refine wpList_app (by rfl) _ _ (by rfl) Try.underlying90 info39 rfl (by decide) w.heap.size (.slice oa M.length oc) M.length (spCells M) (by rfl) HOW.out (some ⟨u.w.heap.size, 0, none⟩) 1 1 (spCells [⟨s1, s2, s3⟩]) (by rfl) (by rfl) (one_news u.w _) (spCells_one _) (by unfold maxLen; omega) (by omega) (by simp; omega) ?_; intro v1 w4 hown1 hg1 _ hat1; obtain ⟨va4, vc4, hvv⟩ := own_slice hown1; subst hvv; have HN : Hid (FtS w (M ++ [⟨s1, s2, s3⟩]) va4 vc4 w4) := HPU.out va4 vc4 w4 hown1 hg1; clear tok _t hown1 hg1 hat1)
          go_roundw
          case rel => exact ⟨i, k + 1, M ++ [⟨s1, s2, s3⟩], va4, vc4, by omega, by omega, by simp <;> omega, by simp, by first | rfl | go_num, by first | rfl | go_num, HM2, HN⟩
          case measure => simp [intOf]; omega
      · have hk8 : (k : Int) = (D.length : Int) := by omega
        have hk7 : k = D.length := by omega
        have HM2 : Hid (M ++ [x] ++ mgR (A.drop (i + 1)) (D.drop k) = R) := by
          show _ = _
          rw [← HM.out, mgR_left hx (fun y hy => by rw [List.getElem?_eq_none (by omega)] at hy; cases hy)]
          simp
        have hkb : ((k : Int) == (D.length : Int)) = true := by simp [hk7]
        have hkd : decide ((k : Int) = (D.length : Int)) = true := by simp [hk7]
        clear hx HM hk7 hk8
        obtain ⟨s1, s2, s3⟩ := x
        simp only at *
        go_wp2_with fail
        refine wp_region_bel (by kernel_rfl) (by kernel_rfl) ?_
        intro hne
        repeat go_big_quiet_step (fail)
        refine wpQuiet_nil ?_
        rintro _ ⟨u, rfl⟩
        have HSv : Hid (FtS w M oa oc u.w) := HF.out.bel u.h
        have HOW : Hid ((u.w.alloc (.cells #[.int .u64 s1, .int .u64 s2, .int .i64 s3] 36)).ownsRow w.heap.size 36 3 (.slice oa M.length oc) M.length (spCells M)) := own_of_block HSv.out.1 (fun j hj => Below.heap_alloc _ _ _ (own_block_lt HSv.out.1 j hj).2)
        have hzB : w.heap.size ≤ u.w.heap.size := HSv.out.2.size
        have HPU : Hid (∀ va4 vc4 w4, w4.ownsRow w.heap.size 36 3 (.slice va4 (M.length + 1) vc4) (M.length + 1) (spCells M ++ spCells [⟨s1, s2, s3⟩]) → (u.w.alloc (.cells #[.int .u64 s1, .int .u64 s2, .int .i64 s3] 36)).grownBy w4 (Value.slice oa M.length oc).ownBlock → FtS w (M ++ [⟨s1, s2, s3⟩]) va4 vc4 w4) := fun va4 vc4 w4 q1 q2 => by
          have := HSv.out.push (m := M.length) (s := ⟨s1, s2, s3⟩) (va := va4) (vc := vc4) (w4 := w4) (Nat.le_refl _) (by rw [List.take_length]; exact q1) q2
          rwa [List.take_length] at this
        have tok : True := trivial
        clear HSv
        go_wp2_with (at_builtin; have _t := tok; refine wpList_app (by rfl) _ _ (by rfl) Try.underlying90 info39 rfl (by decide) w.heap.size (.slice oa M.length oc) M.length (spCells M) (by rfl) HOW.out (some ⟨u.w.heap.size, 0, none⟩) 1 1 (spCells [⟨s1, s2, s3⟩]) (by rfl) (by rfl) (one_news u.w _) (spCells_one _) (by unfold maxLen; omega) (by omega) (by simp; omega) ?_; intro v1 w4 hown1 hg1 _ hat1; obtain ⟨va4, vc4, hvv⟩ := own_slice hown1; subst hvv; have HN : Hid (FtS w (M ++ [⟨s1, s2, s3⟩]) va4 vc4 w4) := HPU.out va4 vc4 w4 hown1 hg1; clear tok _t hown1 hg1 hat1)
        go_roundw
        case rel => exact ⟨i + 1, k, M ++ [⟨s1, s2, s3⟩], va4, vc4, by omega, by omega, by simp <;> omega, by simp, by first | rfl | go_num, by first | rfl | go_num, HM2, HN⟩
        case measure => simp [intOf]; omega
    · have hi9 : ¬ (i : Int) < (A.length : Int) := by omega
      by_cases hlt2 : k < D.length
      · obtain ⟨z, hz⟩ : ∃ z, D[k]? = some z := ⟨_, List.getElem?_eq_getElem hlt2⟩
        obtain ⟨h, rfl, hh, d0, d1, d2⟩ := (HA.out.2.bel HF.out.2) k z hz
        have hk9 : (k : Int) < (D.length : Int) := by omega
        have hk8 : ¬ (k : Int) = (D.length : Int) := by omega
        have hkb : ((k : Int) == (D.length : Int)) = false := by simp; omega
        have hkn : (k == D.length) = false := by simp; omega
        have hkd : decide ((k : Int) = (D.length : Int)) = false := by simp; omega
        have hke : decide (k = D.length) = false := by simp; omega
        have HM2 : Hid (M ++ [z] ++ mgR (A.drop i) (D.drop (k + 1)) = R) := by
          show _ = _
          rw [← HM.out, mgR_right hz (fun y hy => by rw [List.getElem?_eq_none (by omega)] at hy; cases hy)]
          simp
        clear hz HM
        obtain ⟨s1, s2, s3⟩ := z
        simp only at *
        go_wp2_with fail
        refine wp_region_bel (by kernel_rfl) (by kernel_rfl) ?_
        intro hne
        repeat go_big_quiet_step (fail)
        refine wpQuiet_nil ?_
        rintro _ ⟨u, rfl⟩
        have HSv : Hid (FtS w M oa oc u.w) := HF.out.bel u.h
        have HOW : Hid ((u.w.alloc (.cells #[.int .u64 s1, .int .u64 s2, .int .i64 s3] 36)).ownsRow w.heap.size 36 3 (.slice oa M.length oc) M.length (spCells M)) := own_of_block HSv.out.1 (fun j hj => Below.heap_alloc _ _ _ (own_block_lt HSv.out.1 j hj).2)
        have hzB : w.heap.size ≤ u.w.heap.size := HSv.out.2.size
        have HPU : Hid (∀ va4 vc4 w4, w4.ownsRow w.heap.size 36 3 (.slice va4 (M.length + 1) vc4) (M.length + 1) (spCells M ++ spCells [⟨s1, s2, s3⟩]) → (u.w.alloc (.cells #[.int .u64 s1, .int .u64 s2, .int .i64 s3] 36)).grownBy w4 (Value.slice oa M.length oc).ownBlock → FtS w (M ++ [⟨s1, s2, s3⟩]) va4 vc4 w4) := fun va4 vc4 w4 q1 q2 => by
          have := HSv.out.push (m := M.length) (s := ⟨s1, s2, s3⟩) (va := va4) (vc := vc4) (w4 := w4) (Nat.le_refl _) (by rw [List.take_length]; exact q1) q2
          rwa [List.take_length] at this
        have tok : True := trivial
        clear HSv
        go_wp2_with (at_builtin; have _t := tok; refine wpList_app (by rfl) _ _ (by rfl) Try.underlying90 info39 rfl (by decide) w.heap.size (.slice oa M.length oc) M.length (spCells M) (by rfl) HOW.out (some ⟨u.w.heap.size, 0, none⟩) 1 1 (spCells [⟨s1, s2, s3⟩]) (by rfl) (by rfl) (one_news u.w _) (spCells_one _) (by unfold maxLen; omega) (by omega) (by simp; omega) ?_; intro v1 w4 hown1 hg1 _ hat1; obtain ⟨va4, vc4, hvv⟩ := own_slice hown1; subst hvv; have HN : Hid (FtS w (M ++ [⟨s1, s2, s3⟩]) va4 vc4 w4) := HPU.out va4 vc4 w4 hown1 hg1; clear tok _t hown1 hg1 hat1)
        go_roundw
        case rel => exact ⟨i, k + 1, M ++ [⟨s1, s2, s3⟩], va4, vc4, by omega, by omega, by simp <;> omega, by simp, by first | rfl | go_num, by first | rfl | go_num, HM2, HN⟩
        case measure => simp [intOf]; omega
      · have hk9 : ¬ (k : Int) < (D.length : Int) := by omega
        have hfin : M = R := by
          have h1 := HM.out
          rw [List.drop_eq_nil_of_le (by omega), List.drop_eq_nil_of_le (by omega)] at h1
          simpa [mgR] using h1
        subst hfin
        go_wp2
        go_ret
        exact ⟨oa, oc, rfl, HF.out⟩

end Go.Proofs.Ytmeinebfdljndaa
