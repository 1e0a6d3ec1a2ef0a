/- Merge of the document, at items. -/
import Derived.Test.YtiggpbjgnododaaMq
namespace Go.Proofs.Ytiggpbjgnododaa.T
open Go.RowKit Go.Shelf
set_option linter.unusedVariables false
attribute [local go_sem] Bel.cell

set_option maxRecDepth 100000 in
set_option maxHeartbeats 4000000 in
theorem rmerge_any (w : World) (a : Option Addr) (n cap : Nat) (LL : List (List (Int × Int))) (h : Sll w a n cap LL) (hn : n ≤ 8796093022208) (hll : ∀ (i : Nat) L, LL[i]? = some L → L.length ≤ 8796093022208) :
    Calls Try.prog 19 #[.slice a n cap] w fun e w' => ∃ ra rc, e = .returned (.tuple #[.slice ra (mergeL LL).length rc, .int .i64 (mergeE LL)]) ∧ Mk w w' (.slice ra (mergeL LL).length rc) (mergeL LL).length (cellsOf (mergeL LL)) := by
  have hn' : (n : Int) ≤ 8796093022208 := by omega
  have HS : Hid (Sll w a n cap LL) := h
  have HLL : Hid (∀ (i : Nat) L, LL[i]? = some L → L.length ≤ 8796093022208) := hll
  clear h hll
  go_enter Try.func19, Try.ntmps19
  go_wp2
  go_loopw [4, 5] (fun vs vi wr => ∃ i s : Nat, i ≤ n ∧ vi = .int .i64 (i : Int) ∧ vs = .int .i64 (s : Int) ∧ wr = w ∧ s ≤ 8192 ∧ Hid (tot (LL.take i) = s)) (fun _ vi _ => n - (intOf vi).toNat)
  case atStart => exact ⟨0, 0, by omega, rfl, rfl, rfl, by omega, by show _ = _; simp [tot_nil]⟩
  case round =>
    obtain ⟨i, s, hi, rfl, rfl, hwr, hs, hI⟩ := hrel
    have hwr' := hwr.symm
    clear hwr
    subst hwr'
    have hs' : (s : Int) ≤ 8192 := by omega
    have hs0 : (0 : Int) ≤ (s : Int) := by omega
    by_cases hlt : i < n
    · have hy := List.getElem?_eq_getElem (l := LL) (i := i) (by have := HS.out.len; omega)
      generalize LL[i]'(by have := HS.out.len; omega) = L at *
      obtain ⟨g, off, ra, rc, rfl, hg1, hg2, hg3⟩ := HS.out.ls i L hy
      have hi1 : (i : Int) < (n : Int) := by omega
      have hi2 : (0 : Int) ≤ (i : Int) := by omega
      have HT := tot_snoc hy
      have hle := tot_take_le LL (i + 1)
      have hlm : (L.length : Int) ≤ 8796093022208 := by have := HLL.out i L hy; omega
      have hl0 : (0 : Int) ≤ (L.length : Int) := by omega
      clear hy hg3
      generalize L.length = l at *
      by_cases hb : 8192 < s + l
      · have hb' : (8192 : Int) < (s : Int) + (l : Int) := by omega
        have e1 : Hid (mergeE LL = 2) := by show _ = _; unfold mergeE; rw [if_pos (by have := hI.out; omega)]
        have e2 : Hid (mergeL LL = []) := by show _ = _; unfold mergeL; rw [if_pos (by have := hI.out; omega)]
        clear HT hle
        go_wp2
        go_ret2
        rw [e1.out, e2.out]
        exact ⟨none, 0, rfl, Mk.nil _⟩
      · have hb' : (s : Int) + (l : Int) ≤ 8192 := by omega
        have HI : Hid (tot (LL.take (i + 1)) = s + l) := by
          show _ = _
          have := hI.out
          omega
        have hsl : Hid ((s : Int) + (l : Int) = ((s + l : Nat) : Int)) := by show _ = _; omega
        clear HT hle
        go_wp2
        go_roundw
        case rel => exact ⟨i + 1, s + l, by omega, by go_num, v_int (by rw [← hsl.out]), trivial, by omega, HI⟩
        case measure => simp [intOf]; omega
    · have ht : tot LL ≤ 8192 := by
        have := hI.out
        rw [List.take_of_length_le (by have := HS.out.len; omega)] at this
        omega
      have e1 : Hid (mergeE LL = madeE LL) := by show _ = _; unfold mergeE; rw [if_neg (by omega)]
      have e2 : Hid (mergeL LL = madeL LL (mgs LL)) := by show _ = _; unfold mergeL; rw [if_neg (by omega)]
      clear hI
      go_wp2
      go_loopw [6, 7] (fun vr vi wr => ∃ (i lr rc : Nat) (ra : Option Addr), i ≤ n ∧ vi = .int .i64 (i : Int) ∧ vr = .slice ra lr rc ∧ Hid (tot (LL.take i) = lr) ∧ Hid (Mk w wr (.slice ra lr rc) lr (cellsOf (mgs (LL.take i)))) ∧ Hid (∀ (j : Nat) L, j < i → LL[j]? = some L → risesB L = true)) (fun _ vi _ => n - (intOf vi).toNat)
      case atStart => exact ⟨0, 0, 0, _, by omega, rfl, rfl, by show _ = _; simp [tot_nil], (by show Mk _ _ _ _ _; have := Mk.new w; simpa [mgs_nil, cellsOf] using this), fun j L hj => by omega⟩
      case round =>
        clear hi hlt hs hs' hs0
        obtain ⟨i, lr, rc, ra, hi, rfl, rfl, hT, hM, hI⟩ := hrel
        by_cases hlt : i < n
        · have hy := List.getElem?_eq_getElem (l := LL) (i := i) (by have := HS.out.len; omega)
          generalize LL[i]'(by have := HS.out.len; omega) = L at *
          obtain ⟨g, off, la, lc, rfl, hg1, hg2', hg3⟩ := HS.out.ls i L hy
          have hg2 : wr.cell? ⟨g, off + i, none⟩ = some (.slice la L.length lc) := (hM.out.bel.cell (p := ⟨g, _, none⟩) hg1).trans hg2'
          have hi1 : (i : Int) < (n : Int) := by omega
          have hi2 : (0 : Int) ≤ (i : Int) := by omega
          have hT1 := tot_snoc hy
          have hT2 := tot_take_le LL (i + 1)
          have hT3 := hT.out
          have hll : lr + L.length ≤ 8192 := by omega
          have HT1 : Hid (tot (LL.take (i + 1)) = lr + L.length) := by show _ = _; omega
          have HG : Hid (mgs (LL.take (i + 1)) = mg (mgs (LL.take i)) L) := by show _ = _; rw [← (take_pre hy).1, mgs_snoc]
          have hr := rrises_any wr la L.length lc L (hg3.below hM.out.bel) (by omega)
          have HY : Hid (LL[i]? = some L) := hy
          have HL : Hid (Sl w la L.length lc L) := hg3
          have HC : Hid (w.cell? ⟨g, off + i, none⟩ = some (.slice la L.length lc)) := hg2'
          have hrl : (mgs (LL.take i)).length = lr := by rw [mgs_length]; exact hT3
          have HRl : Hid ((mgs (LL.take i)).length = lr) := hrl
          generalize mgs (LL.take i) = R at *
          have hll' : (lr : Int) + (L.length : Int) ≤ 8192 := by omega
          obtain ⟨t, ht⟩ : ∃ b, Hid (risesB L = b) := ⟨_, rfl⟩
          rw [ht.out] at hr
          clear hy hg2' hg3 hT1 hT2 hT3 hT hrl
          go_wp2_with fail
          refine hr.mono ?_
          rintro e w1 ⟨rfl, jj, rfl⟩
          clear hr hg2
          cases t with
          | false =>
            have HA : Hid (allRise LL = false) := allRise_false HY.out ht.out
            go_wp2
            go_ret2
            rw [e1.out, e2.out]
            have k1 : madeE LL = 71 := by simp [madeE, HA.out]
            have k2 : madeL LL (mgs LL) = [] := by simp [madeL, HA.out]
            rw [k1, k2]
            exact ⟨none, 0, rfl, ⟨rfl, .inl ⟨rfl, rfl⟩⟩, (hM.out.drewN jj).bel⟩
          | true =>
            have HM0 : Hid (Mk w (wr.drewN jj) (.slice ra lr rc) lr (cellsOf R)) := hM.out.drewN jj
            generalize wr.drewN jj = W2 at *
            clear hM
            clear wr
            have HR : Hid (Sl W2 ra lr rc R) := Sl.of_own HM0.out.own
            have HC2 : Hid (∀ X, Below W2.heap.size W2 X → X.cell? ⟨g, off + i, none⟩ = some (.slice la L.length lc)) := fun X hX => ((HM0.out.bel.trans (hX.mono HM0.out.bel.size)).cell (p := ⟨g, _, none⟩) hg1).trans HC.out
            generalize hLl : L.length = ll at *
            have HLl : Hid (L.length = ll) := hLl
            clear hLl
            go_wp2
            go_loopw [8, 9, 10] (fun vm vk vj wr => ∃ (O : List (Int × Int)) (oa : Option Addr) (oc l k j : Nat), vm = .slice oa l oc ∧ vk = .int .i64 (k : Int) ∧ vj = .int .i64 (j : Int) ∧ k ≤ lr ∧ j ≤ ll ∧ Hid (l = k + j) ∧ Hid (Mk W2 wr (.slice oa l oc) l (cellsOf O)) ∧ Hid (O ++ mg (R.drop k) (L.drop j) = mg R L)) (fun _ _ vj _ => ll - (intOf vj).toNat)
            case atStart => exact ⟨[], _, 0, 0, 0, 0, rfl, rfl, rfl, by omega, by omega, (by show _ = _; omega), Mk.new W2, rfl⟩
            case round =>
              obtain ⟨O, oa, oc, l, k, j, rfl, rfl, rfl, hk, hj, hl, hM, hO⟩ := hrel
              have hl8 : l ≤ 8192 := by have := hl.out; omega
              have cg : wr.cell? ⟨g, off + i, none⟩ = some (.slice la ll lc) := HC2.out _ hM.out.bel
              by_cases hjl : j < ll
              · have hy := List.getElem?_eq_getElem (l := L) (i := j) (by have := HLl.out; omega)
                have hdr : L.drop j = L[j]'(by have := HLl.out; omega) :: L.drop (j + 1) := List.drop_eq_getElem_cons _
                generalize L[j]'(by have := HLl.out; omega) = y at *
                obtain ⟨h, hoff, rfl, -, hh1, hh2', hh3'⟩ := HL.out.sg j y hy
                have Hh : Hid (∀ X, Below W2.heap.size W2 X → X.cell? ⟨h, hoff + j * 2, none⟩ = some (.int .i64 y.1) ∧ X.cell? ⟨h, hoff + j * 2 + 1, none⟩ = some (.int .i64 y.2)) := fun X hX =>
                  ⟨((HM0.out.bel.trans (hX.mono HM0.out.bel.size)).cell (p := ⟨h, _, none⟩) hh1).trans hh2', ((HM0.out.bel.trans (hX.mono HM0.out.bel.size)).cell (p := ⟨h, _, none⟩) hh1).trans hh3'⟩
                have HD : Hid (L.drop j = y :: L.drop (j + 1)) := hdr
                have hj1 : (j : Int) < (ll : Int) := by omega
                have hj2 : (0 : Int) ≤ (j : Int) := by omega
                clear hy hdr hh2' hh3'
                go_wp2
                go_loopw [8, 9] (fun vm vk wr => ∃ (O : List (Int × Int)) (oa : Option Addr) (oc l k : Nat), vm = .slice oa l oc ∧ vk = .int .i64 (k : Int) ∧ k ≤ lr ∧ Hid (l = k + j) ∧ Hid (Mk W2 wr (.slice oa l oc) l (cellsOf O)) ∧ Hid (O ++ mg (R.drop k) (y :: L.drop (j + 1)) = mg R L)) (fun _ vk _ => lr - (intOf vk).toNat)
                case atStart => exact ⟨O, oa, oc, l, k, rfl, rfl, hk, hl, hM, (by show _ = _; rw [← HD.out]; exact hO.out)⟩
                case round =>
                  obtain ⟨O2, oa2, oc2, l2, k2, rfl, rfl, hk2, hl2, hM2, hO2⟩ := hrel
                  have hl9 : l2 ≤ 8192 := by have := hl2.out; omega
                  have cg2 : wr.cell? ⟨g, off + i, none⟩ = some (.slice (some ⟨h, hoff, none⟩) ll lc) := HC2.out _ hM2.out.bel
                  obtain ⟨cy1, cy2⟩ := Hh.out _ hM2.out.bel
                  by_cases hkl : k2 < lr
                  · have hx := List.getElem?_eq_getElem (l := R) (i := k2) (by have := HRl.out; omega)
                    have hdx : R.drop k2 = R[k2]'(by have := HRl.out; omega) :: R.drop (k2 + 1) := List.drop_eq_getElem_cons _
                    generalize R[k2]'(by have := HRl.out; omega) = x at *
                    obtain ⟨q, qoff, rfl, -, hq1, hq2', hq3'⟩ := HR.out.sg k2 x hx
                    have cx1 : wr.cell? ⟨q, qoff + k2 * 2, none⟩ = some (.int .i64 x.1) := (hM2.out.bel.cell (p := ⟨q, _, none⟩) hq1).trans hq2'
                    have cx2 : wr.cell? ⟨q, qoff + k2 * 2 + 1, none⟩ = some (.int .i64 x.2) := (hM2.out.bel.cell (p := ⟨q, _, none⟩) hq1).trans hq3'
                    have hk3 : (k2 : Int) < (lr : Int) := by omega
                    have hk4 : (0 : Int) ≤ (k2 : Int) := by omega
                    have hd0 : decide ((k2 : Int) < (lr : Int)) = true := by simpa using hk3
                    have HDx : Hid (R.drop k2 = x :: R.drop (k2 + 1)) := hdx
                    clear hx hdx hq2' hq3'
                    by_cases hxy : x.1 ≤ y.1
                    · have hd : decide (x.1 ≤ y.1) = true := by simpa using hxy
                      have HO3 : Hid (O2 ++ [x] ++ mg (R.drop (k2 + 1)) (y :: L.drop (j + 1)) = mg R L) := by
                        show _ = _
                        rw [← hO2.out, HDx.out, mg_le _ _ hxy]
                        simp
                      go_wp2
                      go_quiet (fail)
                      go_wp2_with (at_builtin; refine wpList_mk rfl _ _ rfl _ l2 _ ((hM2.out.drewN _).alloc _) rfl _ 1 1 [.int .i64 x.1, .int .i64 x.2] rfl rfl (two_at (isCells_new _ _ _)) (one2 x) (by omega) ?_; intro v1 w1 m1; obtain ⟨oa', oc', rfl⟩ := own_slice m1.own; have M1 : Hid (Mk W2 w1 (.slice oa' (l2 + 1) oc') (l2 + 1) (cellsOf O2 ++ [.int .i64 x.1, .int .i64 x.2])) := m1; clear m1)
                      go_roundw
                      case rel => exact ⟨O2 ++ [x], oa', oc', l2 + 1, k2 + 1, rfl, by go_num, by omega, (by show _ = _; have := hl2.out; omega), (by have := M1.out; rw [cellsOf_append]; exact this), HO3⟩
                      case measure => simp [intOf]; omega
                    · have hd : decide (x.1 ≤ y.1) = false := by simpa using hxy
                      have HO3 : Hid (O2 ++ [y] ++ mg (R.drop k2) (L.drop (j + 1)) = mg R L) := by
                        show _ = _
                        rw [← hO2.out, HDx.out, mg_gt _ _ hxy]
                        simp
                      go_wp2
                      go_quiet (fail)
                      go_wp2_with (at_builtin; refine wpList_mk rfl _ _ rfl _ l2 _ ((hM2.out.drewN _).alloc _) rfl _ 1 1 [.int .i64 y.1, .int .i64 y.2] rfl rfl (two_at (isCells_new _ _ _)) (one2 y) (by omega) ?_; intro v1 w1 m1; obtain ⟨oa', oc', rfl⟩ := own_slice m1.own; have M1 : Hid (Mk W2 w1 (.slice oa' (l2 + 1) oc') (l2 + 1) (cellsOf O2 ++ [.int .i64 y.1, .int .i64 y.2])) := m1; clear m1)
                      go_roundw
                      case rel => exact ⟨O2 ++ [y], oa', oc', l2 + 1, k2, j + 1, rfl, rfl, by go_num, by omega, by omega, (by show _ = _; have := hl2.out; omega), (by have := M1.out; rw [cellsOf_append]; exact this), HO3⟩
                      case measure => simp [intOf]; omega
                  · have hkk : k2 = lr := by omega
                    have hd0 : decide ((k2 : Int) < (lr : Int)) = false := by simp; omega
                    have hd1 : decide (k2 < lr) = false := by simp; omega
                    have HO3 : Hid (O2 ++ [y] ++ mg (R.drop k2) (L.drop (j + 1)) = mg R L) := by
                      show _ = _
                      have := hO2.out
                      rw [List.drop_of_length_le (l := R) (by have := HRl.out; omega), mg_nil_left] at this ⊢
                      rw [← this]
                      simp
                    clear hkk
                    go_wp2
                    go_quiet (fail)
                    go_wp2_with (at_builtin; refine wpList_mk rfl _ _ rfl _ l2 _ ((hM2.out.drewN _).alloc _) rfl _ 1 1 [.int .i64 y.1, .int .i64 y.2] rfl rfl (two_at (isCells_new _ _ _)) (one2 y) (by omega) ?_; intro v1 w1 m1; obtain ⟨oa', oc', rfl⟩ := own_slice m1.own; have M1 : Hid (Mk W2 w1 (.slice oa' (l2 + 1) oc') (l2 + 1) (cellsOf O2 ++ [.int .i64 y.1, .int .i64 y.2])) := m1; clear m1)
                    go_roundw
                    case rel => exact ⟨O2 ++ [y], oa', oc', l2 + 1, k2, j + 1, rfl, rfl, by go_num, by omega, by omega, (by show _ = _; have := hl2.out; omega), (by have := M1.out; rw [cellsOf_append]; exact this), HO3⟩
                    case measure => simp [intOf]; omega
              · have HE : Hid (O ++ R.drop k = mg R L) := by
                  show _ = _
                  have := hO.out
                  rw [List.drop_of_length_le (l := L) (by have := HLl.out; omega), mg_nil_right] at this
                  exact this
                have Hjl : Hid (j = ll) := by show _ = _; omega
                have Hdl : Hid ((cellsOf (R.drop k)).length = (lr - k) * 2) := by show _ = _; rw [cellsOf_length, List.length_drop, HRl.out]
                have hk1 : (k : Int) ≤ (lr : Int) := by omega
                have hk2 : (0 : Int) ≤ (k : Int) := by omega
                have hrc : (lr : Int) ≤ (rc : Int) := by have := HR.out.le; omega
                have hrc2 : (rc : Int) ≤ 9223372036854775807 := by have := HR.out.capm; unfold maxLen at this; omega
                have hk5 : (k : Int) ≤ (rc : Int) := by omega
                have HN : Hid (∀ w3 a3 c3, Mk W2 w3 (.slice a3 (l + (lr - k)) c3) (l + (lr - k)) (cellsOf O ++ cellsOf (R.drop k)) → Mk w w3 (.slice a3 (lr + ll) c3) (lr + ll) (cellsOf (mg R L))) := fun w3 a3 c3 m3 => by
                  have e3 : l + (lr - k) = lr + ll := by have := hl.out; have := Hjl.out; omega
                  rw [← cellsOf_append, HE.out, e3] at m3
                  exact Mk.mk (own_base m3.own (fun b hb => by have := (own_block_lt m3.own b hb).1; have := HM0.out.bel.size; omega)) (HM0.out.bel.trans (m3.bel.mono HM0.out.bel.size))
                have HLn : Hid (l + (lr - k) = lr + ll) := by show _ = _; have := hl.out; have := Hjl.out; omega
                have HIn : Hid (∀ (j : Nat) L', j < i + 1 → LL[j]? = some L' → risesB L' = true) := fun j L' hj hL' => by
                  by_cases e : j = i
                  · subst e
                    rw [HY.out] at hL'
                    cases hL'
                    exact ht.out
                  · exact hI.out j L' (by omega) hL'
                have hO3 := hO.out
                clear hO3 hO
                cases ra with
                | none =>
                  have hc0 := HR.out.nil rfl
                  have hle := HR.out.le
                  obtain rfl : lr = 0 := by omega
                  obtain rfl : rc = 0 := hc0
                  obtain rfl : k = 0 := by omega
                  obtain rfl : R = [] := List.length_eq_zero_iff.1 HRl.out
                  clear hle
                  go_wp2_with (at_builtin; refine wpList_mk rfl _ _ rfl _ l _ hM.out rfl none 0 0 (cellsOf (([] : List (Int × Int)).drop 0)) rfl rfl (fun j u hu => by simp [cellsOf] at hu) (cellsOf_one _) (by omega) ?_; intro v1 w1 m1; obtain ⟨oa', oc', rfl⟩ := own_slice m1.own; have M1 : Hid (Mk w w1 (.slice oa' (0 + ll) oc') (0 + ll) (cellsOf (mg [] L))) := HN.out w1 oa' oc' m1; clear m1 HN)
                  go_roundw
                  case rel => exact ⟨i + 1, 0 + ll, oc', oa', by omega, by go_num, (by rw [← HLn.out]; rfl), HT1, (by show Mk _ _ _ _ _; rw [HG.out]; exact M1.out), HIn⟩
                  case measure => simp [intOf]; omega
                | some ad =>
                  obtain ⟨q, rfl⟩ : ∃ q, ad = ⟨q, 0, none⟩ := by
                    rcases HM0.out.own.2 with ⟨e, e2⟩ | ⟨g, cap', cur, e, _⟩
                    · simp only [Value.slice.injEq] at e; simp at e
                    · simp only [Value.slice.injEq, Option.some.injEq] at e; exact ⟨g, e.1⟩
                  obtain ⟨A, hA, hAn⟩ := part_drop (by have := HM0.out.own; rw [← HRl.out] at this; exact this) k (by have := HRl.out; omega) rfl
                  have HAn : Hid (∀ X, Below W2.heap.size W2 X → ∀ j u, (cellsOf (R.drop k))[j]? = some u → ∃ ad, some A = some ad ∧ X.cell? (ad.add j) = some u) := hAn
                  clear hAn
                  go_wp2_with (at_builtin; refine wpList_mk rfl _ _ rfl _ l _ hM.out rfl (some A) (lr - k) (rc - k) (cellsOf (R.drop k)) rfl Hdl.out (HAn.out _ hM.out.bel) (cellsOf_one _) (by omega) ?_; intro v1 w1 m1; obtain ⟨oa', oc', rfl⟩ := own_slice m1.own; have M1 : Hid (Mk w w1 (.slice oa' (lr + ll) oc') (lr + ll) (cellsOf (mg R L))) := HN.out w1 oa' oc' m1; clear m1 HN)
                  go_roundw
                  case rel => exact ⟨i + 1, lr + ll, oc', oa', by omega, by go_num, (by rw [← HLn.out]), HT1, (by show Mk _ _ _ _ _; rw [HG.out]; exact M1.out), HIn⟩
                  case measure => simp [intOf]; omega
        · have HA : Hid (allRise LL = true) := allRise_true (fun j L hL => hI.out j L (by have := (List.getElem?_eq_some_iff.1 hL).1; have := HS.out.len; omega) hL)
          have HF : Hid (Mk w wr (.slice ra lr rc) lr (cellsOf (mgs LL)) ∧ lr = (mgs LL).length) := by
            have h1 := hM.out
            have h2 := hT.out
            rw [List.take_of_length_le (by have := HS.out.len; omega)] at h1 h2
            exact ⟨h1, by rw [mgs_length]; omega⟩
          go_wp2
          go_ret2
          rw [e1.out, e2.out]
          have k1 : madeE LL = 0 := by simp [madeE, HA.out]
          have k2 : madeL LL (mgs LL) = mgs LL := by simp [madeL, HA.out]
          rw [k1, k2, ← HF.out.2]
          exact ⟨ra, rc, rfl, HF.out.1⟩

end Go.Proofs.Ytiggpbjgnododaa.T
