/- Both of the document, at items. -/
import Derived.Test.YtiggpbjgnododaaMg
namespace Go.Proofs.Ytiggpbjgnododaa.T
open Go.RowKit Go.Shelf
set_option linter.unusedVariables false
attribute [local go_sem] Bel.cell

theorem Mk.drewN {W X : World} {v : Value} {n : Nat} {xs : List Value} (h : Mk W X v n xs) (m : Nat) : Mk W (X.drewN m) v n xs := ⟨h.own, bel_drewN' h.bel m⟩

theorem allRise_two (A B : List (Int × Int)) : allRise [A, B] = (risesB A && risesB B) := by simp [allRise]

set_option maxRecDepth 100000 in
set_option maxHeartbeats 2000000 in
theorem rboth_any (w : World) (a b : Option Addr) (n m ca cb : Nat) (A B : List (Int × Int)) (hA : Sl w a n ca A) (hB : Sl w b m cb B) :
    Calls Try.prog 21 #[.slice a n ca, .slice b m cb] w fun e w' => ∃ ra rc, e = .returned (.tuple #[.slice ra (bothL A B).length rc, .int .i64 (bothE A B)]) ∧ Mk w w' (.slice ra (bothL A B).length rc) (bothL A B).length (cellsOf (bothL A B)) := by
  have hn' : (n : Int) ≤ 9223372036854775807 := by have := hA.le; have := hA.capm; unfold maxLen at this; omega
  have hm' : (m : Int) ≤ 9223372036854775807 := by have := hB.le; have := hB.capm; unfold maxLen at this; omega
  have hla := hA.len
  have hlb := hB.len
  have HA : Hid (Sl w a n ca A) := hA
  have HB : Hid (Sl w b m cb B) := hB
  clear hA hB
  by_cases hn : 8192 < n
  · have e1 : Hid (bothE A B = 2) := by show _ = _; unfold bothE; rw [if_pos (by omega)]
    have e2 : Hid (bothL A B = []) := by show _ = _; unfold bothL; rw [if_pos (by omega)]
    have hn1 : (8192 : Int) < (n : Int) := by omega
    go_enter Try.func21, Try.ntmps21
    go_wp2
    go_ret2
    rw [e1.out, e2.out]
    exact ⟨none, 0, rfl, Mk.nil w⟩
  · by_cases hm : 8192 < m
    · have e1 : Hid (bothE A B = 2) := by show _ = _; unfold bothE; rw [if_pos (by omega)]
      have e2 : Hid (bothL A B = []) := by show _ = _; unfold bothL; rw [if_pos (by omega)]
      have hn1 : (n : Int) ≤ 8192 := by omega
      have hm1 : (8192 : Int) < (m : Int) := by omega
      go_enter Try.func21, Try.ntmps21
      go_wp2
      go_ret2
      rw [e1.out, e2.out]
      exact ⟨none, 0, rfl, Mk.nil w⟩
    · have hn1 : (n : Int) ≤ 8192 := by omega
      have hm1 : (m : Int) ≤ 8192 := by omega
      have hra := rrises_any w a n ca A HA.out (by omega)
      have hrb := fun j => rrises_any (w.drewN j) b m cb B (HB.out.below (bel_drewN' (Below.refl _ _) _)) (by omega)
      have e1 : Hid (bothE A B = if risesB A && risesB B then 0 else 71) := by show _ = _; unfold bothE madeE; rw [if_neg (by omega), allRise_two]
      have e2 : Hid (bothL A B = if risesB A && risesB B then com A B else []) := by show _ = _; unfold bothL madeL; rw [if_neg (by omega), allRise_two]
      obtain ⟨ta, hta⟩ : ∃ t, Hid (risesB A = t) := ⟨_, rfl⟩
      obtain ⟨tb, htb⟩ : ∃ t, Hid (risesB B = t) := ⟨_, rfl⟩
      rw [hta.out] at hra e1 e2
      rw [htb.out] at hrb e1 e2
      clear hn hm
      cases ta with
      | false =>
        go_enter Try.func21, Try.ntmps21
        go_wp2_with fail
        refine hra.mono ?_
        rintro e w1 ⟨rfl, j, rfl⟩
        clear hra hrb
        go_wp2
        go_ret2
        rw [e1.out, e2.out]
        exact ⟨none, 0, rfl, (Mk.nil w).drewN j⟩
      | true =>
        cases tb with
        | false =>
          go_enter Try.func21, Try.ntmps21
          go_wp2_with fail
          refine hra.mono ?_
          rintro e w1 ⟨rfl, j, rfl⟩
          clear hra
          go_wp2_with fail
          refine (hrb j).mono ?_
          rintro e w1 ⟨rfl, j', rfl⟩
          clear hrb
          go_wp2
          go_ret2
          rw [e1.out, e2.out]
          exact ⟨none, 0, rfl, (Mk.nil w).drewN (j + j')⟩
        | true =>
          go_enter Try.func21, Try.ntmps21
          go_wp2_with fail
          refine hra.mono ?_
          rintro e w1 ⟨rfl, j, rfl⟩
          clear hra
          go_wp2_with fail
          refine (hrb j).mono ?_
          rintro e w1 ⟨rfl, j', rfl⟩
          clear hrb
          have HB0 : Hid (Below w.heap.size w ((w.drewN j).drewN j')) := bel_drewN' (bel_drewN' (Below.refl _ _) _) _
          generalize (w.drewN j).drewN j' = W0 at *
          go_wp2
          go_loopw [6, 7, 8] (fun vr vk vi wr => ∃ (O : List (Int × Int)) (oa : Option Addr) (oc l k i : Nat), vr = .slice oa l oc ∧ vk = .int .i64 (k : Int) ∧ vi = .int .i64 (i : Int) ∧ i ≤ n ∧ k ≤ m ∧ l ≤ i ∧ Hid (Mk w wr (.slice oa l oc) l (cellsOf O)) ∧ Hid (O ++ com (A.drop i) (B.drop k) = com A B)) (fun _ _ vi _ => n - (intOf vi).toNat)
          case atStart => exact ⟨[], _, 0, 0, 0, 0, rfl, rfl, rfl, by omega, by omega, by omega, Mk.new2 HB0.out, rfl⟩
          case round =>
            obtain ⟨O, oa, oc, l, k, i, rfl, rfl, rfl, hi, hk, hl, hM, hO⟩ := hrel
            by_cases hlt : i < n
            · have hy := List.getElem?_eq_getElem (l := A) (i := i) (by omega)
              have hdr : A.drop i = A[i]'(by omega) :: A.drop (i + 1) := List.drop_eq_getElem_cons _
              generalize A[i]'(by omega) = x at *
              obtain ⟨g, off, rfl, -, hg1, hg2', hg3'⟩ := HA.out.sg i x hy
              have Hg2 : Hid (w.cell? ⟨g, off + i * 2, none⟩ = some (.int .i64 x.1)) := hg2'
              have Hg3 : Hid (w.cell? ⟨g, off + i * 2 + 1, none⟩ = some (.int .i64 x.2)) := hg3'
              have hi1 : (i : Int) < (n : Int) := by omega
              have hi2 : (0 : Int) ≤ (i : Int) := by omega
              have HO : Hid (O ++ com (x :: A.drop (i + 1)) (B.drop k) = com A B) := by
                show _ = _
                rw [← hdr]
                exact hO.out
              clear hy hdr hO hg2' hg3'
              go_wp2
              go_loopw [7] (fun vk w2 => ∃ (k : Nat), vk = .int .i64 (k : Int) ∧ k ≤ m ∧ Hid (Mk w w2 (.slice oa l oc) l (cellsOf O)) ∧ Hid (O ++ com (x :: A.drop (i + 1)) (B.drop k) = com A B)) (fun vk _ => m - (intOf vk).toNat)
              case atStart => exact ⟨k, rfl, hk, hM, HO⟩
              case round =>
                obtain ⟨k2, rfl, hk2, hM2, hO2⟩ := hrel
                have hg2 : wr.cell? ⟨g, off + i * 2, none⟩ = some (.int .i64 x.1) := (hM2.out.bel.cell (p := ⟨g, _, none⟩) hg1).trans Hg2.out
                have hg3 : wr.cell? ⟨g, off + i * 2 + 1, none⟩ = some (.int .i64 x.2) := (hM2.out.bel.cell (p := ⟨g, _, none⟩) hg1).trans Hg3.out
                by_cases hkm : k2 < m
                · have hy := List.getElem?_eq_getElem (l := B) (i := k2) (by omega)
                  have hdr : B.drop k2 = B[k2]'(by omega) :: B.drop (k2 + 1) := List.drop_eq_getElem_cons _
                  generalize B[k2]'(by omega) = y at *
                  obtain ⟨h, hoff, rfl, -, hh1, hh2', hh3'⟩ := HB.out.sg k2 y hy
                  have hh2 : wr.cell? ⟨h, hoff + k2 * 2, none⟩ = some (.int .i64 y.1) := (hM2.out.bel.cell (p := ⟨h, _, none⟩) hh1).trans hh2'
                  have hk3 : (k2 : Int) < (m : Int) := by omega
                  have hk4 : (0 : Int) ≤ (k2 : Int) := by omega
                  have hd0 : decide ((k2 : Int) < (m : Int)) = true := by simpa using hk3
                  have HD : Hid (B.drop k2 = y :: B.drop (k2 + 1)) := hdr
                  clear hy hdr hh2' hh3'
                  by_cases hyx : y.1 < x.1
                  · have hd : decide (y.1 < x.1) = true := by simpa using hyx
                    have HO3 : Hid (O ++ com (x :: A.drop (i + 1)) (B.drop (k2 + 1)) = com A B) := by
                      show _ = _
                      rw [← hO2.out, HD.out, com_skip _ _ hyx]
                    go_wp2
                    go_quiet (fail)
                    go_wp2
                    go_roundw
                    case rel => exact ⟨k2 + 1, by go_num, by omega, hM2.out.drewN _, HO3⟩
                    case measure => simp [intOf]; omega
                  · have hd : decide (y.1 < x.1) = false := by simpa using hyx
                    by_cases hxy : y.1 = x.1
                    · have hd2 : decide (y.1 = x.1) = true := by simpa using hxy
                      have HO3 : Hid (O ++ [x] ++ com (A.drop (i + 1)) (B.drop k2) = com A B) := by
                        show _ = _
                        rw [← hO2.out, HD.out, com_keep _ _ hyx (by omega)]
                        simp
                      go_wp2
                      go_quiet (fail)
                      go_wp2
                      go_quiet (fail)
                      go_wp2_with (at_builtin; refine wpList_mk rfl _ _ rfl _ l _ ((hM2.out.drewN _).alloc _) rfl _ 1 1 [.int .i64 x.1, .int .i64 x.2] rfl rfl (two_at (isCells_new _ _ _)) (one2 x) (by omega) ?_; intro v1 w1 m1; obtain ⟨oa', oc', rfl⟩ := own_slice m1.own; have M1 : Hid (Mk w w1 (.slice oa' (l + 1) oc') (l + 1) (cellsOf O ++ [.int .i64 x.1, .int .i64 x.2])) := m1; clear m1)
                      go_roundw
                      case rel => exact ⟨O ++ [x], oa', oc', l + 1, k2, i + 1, rfl, rfl, by go_num, by omega, by omega, by omega, (by have := M1.out; rw [cellsOf_append]; exact this), HO3⟩
                      case measure => simp [intOf]; omega
                    · have hd2 : decide (y.1 = x.1) = false := by simpa using hxy
                      have HO3 : Hid (O ++ com (A.drop (i + 1)) (B.drop k2) = com A B) := by
                        show _ = _
                        rw [← hO2.out, HD.out, com_pass _ _ hyx (by omega)]
                      go_wp2
                      go_quiet (fail)
                      go_wp2
                      go_quiet (fail)
                      go_wp2
                      go_roundw
                      case rel => exact ⟨O, oa, oc, l, k2, i + 1, rfl, rfl, by go_num, by omega, by omega, by omega, hM2.out.drewN _, HO3⟩
                      case measure => simp [intOf]; omega
                · have hkk : k2 = m := by omega
                  have hd0 : decide ((k2 : Int) < (m : Int)) = false := by simp; omega
                  have hd1 : decide (k2 < m) = false := by simp; omega
                  have HO3 : Hid (O ++ com (A.drop (i + 1)) (B.drop k2) = com A B) := by
                    show _ = _
                    have := hO2.out
                    rw [List.drop_of_length_le (l := B) (by omega)] at this ⊢
                    rw [com_none] at this
                    exact this
                  clear hkk
                  go_wp2
                  go_quiet (fail)
                  go_wp2
                  go_quiet (fail)
                  go_wp2
                  go_roundw
                  case rel => exact ⟨O, oa, oc, l, k2, i + 1, rfl, rfl, by go_num, by omega, by omega, by omega, hM2.out.drewN _, HO3⟩
                  case measure => simp [intOf]; omega
            · have HE : Hid (O = com A B) := by
                show _ = _
                have := hO.out
                rw [List.drop_of_length_le (by omega)] at this
                simpa [com] using this
              have HL : Hid (l = (com A B).length) := by
                show _ = _
                have := hM.out.own.1
                rw [cellsOf_length, HE.out] at this
                omega
              go_wp2
              go_ret2
              have := hM.out
              rw [HE.out, HL.out] at this
              rw [e1.out, e2.out]
              refine ⟨oa, oc, ?_, this⟩
              rw [HL.out]
              rfl

end Go.Proofs.Ytiggpbjgnododaa.T
