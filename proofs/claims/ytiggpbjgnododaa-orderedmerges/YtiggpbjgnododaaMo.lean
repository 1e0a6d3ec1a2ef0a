/- common at items: those of a list with which one of another is one. -/
import Derived.Test.YtiggpbjgnododaaMt
namespace Go.Proofs.Ytiggpbjgnododaa.T
open Go.RowKit Go.Shelf
set_option linter.unusedVariables false
attribute [local go_sem] Bel.cell

theorem com_skip {x y : Int × Int} (A B : List (Int × Int)) (h : y.1 < x.1) : com (x :: A) (y :: B) = com (x :: A) B := by
  simp only [com, List.dropWhile_cons, h, decide_true, if_true]
theorem com_pass {x y : Int × Int} (A B : List (Int × Int)) (h : ¬ y.1 < x.1) (h2 : x.1 < y.1) : com (x :: A) (y :: B) = com A (y :: B) := by
  simp only [com, List.dropWhile_cons, h, decide_false, if_neg (show ¬ (false = true) by decide), h2, if_true]
theorem com_keep {x y : Int × Int} (A B : List (Int × Int)) (h : ¬ y.1 < x.1) (h2 : ¬ x.1 < y.1) : com (x :: A) (y :: B) = x :: com A (y :: B) := by
  simp only [com, List.dropWhile_cons, h, decide_false, if_neg (show ¬ (false = true) by decide), h2, if_false]
theorem com_none (x : Int × Int) (A : List (Int × Int)) : com (x :: A) [] = com A [] := by simp [com]
theorem com_le : ∀ (A B : List (Int × Int)), (com A B).length ≤ A.length
  | [], B => by simp [com]
  | x :: A, B => by
    have h1 := com_le A []
    simp only [com, List.length_cons]
    split
    · omega
    · rename_i y b' _
      have h2 := com_le A (y :: b')
      split
      · omega
      · simp only [List.length_cons]; omega

theorem Mk.below {W X Y : World} {v : Value} {n : Nat} {xs : List Value} (h : Mk W X v n xs) (hb : Below X.heap.size X Y) : Mk W Y v n xs :=
  ⟨own_of_block h.own (fun j hj => hb.block j (own_block_lt h.own j hj).2), h.bel.trans (hb.mono h.bel.size)⟩
theorem Mk.nil (W : World) : Mk W W (.slice none 0 0) 0 [] := ⟨⟨rfl, .inl ⟨rfl, rfl⟩⟩, Below.refl _ _⟩

set_option maxRecDepth 100000 in
set_option maxHeartbeats 2000000 in
theorem common_any (w : World) (a b : Option Addr) (n m ca cb : Nat) (A B : List (Int × Int)) (hA : Sl w a n ca A) (hB : Sl w b m cb B) (hn : n ≤ 8192) (hm : m ≤ 8192) :
    Calls Try.prog 58 #[.func (.func 9) #[] #[], .slice a n ca, .slice b m cb] w fun e w' => ∃ ra rc, e = .returned (.slice ra (com A B).length rc) ∧ Mk w w' (.slice ra (com A B).length rc) (com A B).length (cellsOf (com A B)) := by
  have hn' : (n : Int) ≤ 8192 := by omega
  have HA : Hid (Sl w a n ca A) := hA
  have HB : Hid (Sl w b m cb B) := hB
  have eg : ∀ args w, (callFunc 9 args).run Try.prog w = .ok (.enter 9 args) w := enters_of Try.func9 (by kernel_rfl) rfl
  clear hA hB
  go_enter Try.func58, Try.ntmps58
  go_wp2
  go_loopw [2, 7, 12] (fun vb vo vi wr => ∃ (B' O : List (Int × Int)) (b' oa : Option Addr) (m' cb' k oc i : Nat), vb = .slice b' m' cb' ∧ vo = .slice oa k oc ∧ vi = .int .i64 (i : Int) ∧ i ≤ n ∧ k ≤ i ∧ m' ≤ 8192 ∧
    Hid (Sl w b' m' cb' B') ∧ Hid (Mk w wr (.slice oa k oc) k (cellsOf O)) ∧ Hid (O ++ com (A.drop i) B' = com A B)) (fun _ _ vi _ => n - (intOf vi).toNat)
  case atStart => exact ⟨B, [], b, none, m, cb, 0, 0, 0, rfl, rfl, rfl, by omega, by omega, hm, HB, Mk.nil w, rfl⟩
  case round =>
    obtain ⟨B', O, b', oa, m', cb', k, oc, i, rfl, rfl, rfl, hi, hk, hm', hB, hM, hO⟩ := hrel
    have hm2 : (m' : Int) ≤ 8192 := by omega
    by_cases hlt : i < n
    · have hy := List.getElem?_eq_getElem (l := A) (i := i) (by have := HA.out.len; omega)
      have hdr : A.drop i = A[i]'(by have := HA.out.len; omega) :: A.drop (i + 1) := List.drop_eq_getElem_cons _
      generalize A[i]'(by have := HA.out.len; omega) = x at *
      obtain ⟨g, off, rfl, -, hg1, hg2', hg3'⟩ := HA.out.sg i x hy
      have hg2 : wr.cell? ⟨g, off + i * 2, none⟩ = some (.int .i64 x.1) := (hM.out.bel.cell (p := ⟨g, _, none⟩) hg1).trans hg2'
      have hg3 : wr.cell? ⟨g, off + i * 2 + 1, none⟩ = some (.int .i64 x.2) := (hM.out.bel.cell (p := ⟨g, _, none⟩) hg1).trans hg3'
      have hi1 : (i : Int) < (n : Int) := by omega
      have hi2 : (0 : Int) ≤ (i : Int) := by omega
      have HO : Hid (O ++ com (x :: A.drop (i + 1)) B' = com A B) := by
        show _ = _
        rw [← hdr]
        exact hO.out
      clear hy hdr hO hg2' hg3'
      go_wp2
      have hX0 : IsCells (wr.alloc (.cells #[.int .i64 x.1, .int .i64 x.2] 28)) wr.heap.size #[.int .i64 x.1, .int .i64 x.2] := isCells_new wr _ _
      have HM0 : Hid (Mk w (wr.alloc (.cells #[.int .i64 x.1, .int .i64 x.2] 28)) (.slice oa k oc) k (cellsOf O)) := hM.out.alloc _
      have hgw := HM0.out.bel.size
      generalize hxb : wr.heap.size = xb at *
      generalize hWx : wr.alloc (.cells #[.int .i64 x.1, .int .i64 x.2] 28) = Wx at *
      have HX0 : Hid (IsCells Wx xb #[.int .i64 x.1, .int .i64 x.2]) := hX0
      clear hM hX0 hg2 hg3 hWx hxb hgw
      clear wr
      go_loopw [2] (fun vb wr => ∃ (B2 : List (Int × Int)) (b2 : Option Addr) (m2 cb2 : Nat), vb = .slice b2 m2 cb2 ∧ m2 ≤ 8192 ∧ Hid (Sl w b2 m2 cb2 B2) ∧ Hid (Below Wx.heap.size Wx wr) ∧ Hid (O ++ com (x :: A.drop (i + 1)) B2 = com A B)) (fun vb _ => slen vb)
      case atStart => exact ⟨B', b', m', cb', rfl, hm', hB, Below.refl _ _, HO⟩
      case round =>
        obtain ⟨B2, b2, m2, cb2, rfl, hm3, hB2, hbl, hO2⟩ := hrel
        have hm4 : (m2 : Int) ≤ 8192 := by omega
        have hxl : xb < wr.heap.size := Nat.lt_of_lt_of_le HX0.out.lt hbl.out.size
        have cx0 : wr.cell? ⟨xb, 0, none⟩ = some (.int .i64 x.1) := (hbl.out.cell (p := ⟨xb, 0, none⟩) HX0.out.lt).trans (HX0.out.cell 0)
        have cx1 : wr.cell? ⟨xb, 1, none⟩ = some (.int .i64 x.2) := (hbl.out.cell (p := ⟨xb, 1, none⟩) HX0.out.lt).trans (HX0.out.cell 1)
        have HM : Hid (Mk w wr (.slice oa k oc) k (cellsOf O)) := HM0.out.below hbl.out
        by_cases hm5 : m2 = 0
        · subst hm5
          obtain rfl : B2 = [] := List.length_eq_zero_iff.1 hB2.out.len
          go_wp2
          refine wp_region_bel (by kernel_rfl) (by kernel_rfl) ?_
          intro hne
          repeat go_big_quiet_step (fail)
          refine wpQuiet_nil ?_
          rintro _ ⟨u, rfl⟩
          have HM2 : Hid (Mk w u.w (.slice oa k oc) k (cellsOf O)) := HM.out.below u.h
          have HO3 : Hid (O ++ com (A.drop (i + 1)) [] = com A B) := by
            show _ = _
            rw [← hO2.out, com_none]
          clear HM hO2 hbl cx0 cx1
          go_wp2
          refine wp_region_bel (by kernel_rfl) (by kernel_rfl) ?_
          intro hne
          repeat go_big_quiet_step (fail)
          refine wpQuiet_nil ?_
          rintro _ ⟨u', rfl⟩
          have HM3 : Hid (Mk w u'.w (.slice oa k oc) k (cellsOf O)) := HM2.out.below u'.h
          clear HM2
          go_wp2
          go_roundw
          case rel => exact ⟨[], O, b2, oa, 0, cb2, k, oc, i + 1, rfl, rfl, by go_num, by omega, by omega, by omega, hB2, HM3, HO3⟩
          case measure => simp [intOf]; omega
        · obtain ⟨y, B3, rfl⟩ : ∃ y B3, B2 = y :: B3 := by
            cases B2 with
            | nil => exact absurd hB2.out.len.symm hm5
            | cons y B1 => exact ⟨y, B1, rfl⟩
          obtain ⟨h, hoff, rfl, hh0, hh1, hh2⟩ := hB2.out.head
          have hw1 := HM.out.bel
          have hh0' : h < wr.heap.size := Nat.lt_of_lt_of_le hh0 hw1.size
          have cy0 : wr.cell? ⟨h, hoff, none⟩ = some (.int .i64 y.1) := (hw1.cell (p := ⟨h, hoff, none⟩) hh0).trans hh1
          have cy1 : wr.cell? ⟨h, hoff + 1, none⟩ = some (.int .i64 y.2) := (hw1.cell (p := ⟨h, hoff + 1, none⟩) hh0).trans hh2
          have hm6 : (0 : Int) < (m2 : Int) := by omega
          have hm7 : (1 : Int) ≤ (m2 : Int) := by omega
          have hd0 : decide (0 < m2) = true := by simp; omega
          have hcb : (m2 : Int) ≤ (cb2 : Int) := by have := hB2.out.le; omega
          have hcb2 : (cb2 : Int) ≤ 9223372036854775807 := by have := hB2.out.capm; unfold maxLen at this; omega
          have hc := fun W => byKey_any W y x
          obtain ⟨t, ht⟩ : ∃ b, Hid (ltK kf y x = b) := ⟨_, rfl⟩
          rw [ht.out] at hc
          clear hm5 hh1 hh2 hw1
          go_wp2
          refine wp_region_bel (by kernel_rfl) (by kernel_rfl) ?_
          intro hne
          repeat go_big_quiet_step ((exact Calls.bel_of (hc _)))
          refine wpQuiet_nil ?_
          rintro _ ⟨u, rfl⟩
          clear hc hne
          have HBL : Hid (Below Wx.heap.size Wx u.w) := hbl.out.trans (u.h.mono hbl.out.size)
          cases t with
          | true =>
            have hyx : y.1 < x.1 := by have := ht.out; unfold ltK kf at this; exact of_decide_eq_true this
            have HO3 : Hid (O ++ com (x :: A.drop (i + 1)) B3 = com A B) := by
              show _ = _
              rw [← hO2.out, com_skip _ _ hyx]
            obtain ⟨T, hT, hB3⟩ := hB2.out.tail
            have HB3 : Hid (Sl w (some T) (m2 - 1) (cb2 - 1) B3) := hB3
            clear hB3 hO2 hyx
            go_wp2
            go_roundw
            case rel => exact ⟨B3, _, m2 - 1, cb2 - 1, rfl, by omega, HB3, HBL, HO3⟩
            case measure => simp [slen]; omega
          | false =>
            have hyx : ¬ y.1 < x.1 := by have h3 := ht.out; unfold ltK kf at h3; exact of_decide_eq_false h3
            have HM2 : Hid (Mk w u.w (.slice oa k oc) k (cellsOf O)) := HM.out.below u.h
            have dx0 : u.w.cell? ⟨xb, 0, none⟩ = some (.int .i64 x.1) := (u.h.cell (p := ⟨xb, 0, none⟩) hxl).trans cx0
            have dx1 : u.w.cell? ⟨xb, 1, none⟩ = some (.int .i64 x.2) := (u.h.cell (p := ⟨xb, 1, none⟩) hxl).trans cx1
            have dy0 : u.w.cell? ⟨h, hoff, none⟩ = some (.int .i64 y.1) := (u.h.cell (p := ⟨h, hoff, none⟩) hh0').trans cy0
            have dy1 : u.w.cell? ⟨h, hoff + 1, none⟩ = some (.int .i64 y.2) := (u.h.cell (p := ⟨h, hoff + 1, none⟩) hh0').trans cy1
            have hxl2 : xb < u.w.heap.size := Nat.lt_of_lt_of_le hxl u.h.size
            have hh2 : h < u.w.heap.size := Nat.lt_of_lt_of_le hh0' u.h.size
            have HYX : Hid (¬ y.1 < x.1) := hyx
            have hc := fun W => byKey_any W x y
            obtain ⟨t2, ht2⟩ : ∃ b, Hid (ltK kf x y = b) := ⟨_, rfl⟩
            rw [ht2.out] at hc
            clear hyx cx0 cx1 cy0 cy1 HM
            go_wp2
            refine wp_region_bel (by kernel_rfl) (by kernel_rfl) ?_
            intro hne
            repeat go_big_quiet_step ((exact Calls.bel_of (hc _)))
            refine wpQuiet_nil ?_
            rintro _ ⟨u', rfl⟩
            clear hc hne
            have HM3 : Hid (Mk w u'.w (.slice oa k oc) k (cellsOf O)) := HM2.out.below u'.h
            cases t2 with
            | true =>
              have HO3 : Hid (O ++ com (A.drop (i + 1)) (y :: B3) = com A B) := by
                show _ = _
                rw [← hO2.out, com_pass _ _ (by have := HYX.out; omega) (by have := ht2.out; unfold ltK kf at this; exact of_decide_eq_true this)]
              clear HM2 hO2
              go_wp2
              go_roundw
              case rel => exact ⟨y :: B3, O, _, oa, m2, cb2, k, oc, i + 1, rfl, rfl, by go_num, by omega, by omega, hm3, hB2, HM3, HO3⟩
              case measure => simp [intOf]; omega
            | false =>
              have HO3 : Hid (O ++ [x] ++ com (A.drop (i + 1)) (y :: B3) = com A B) := by
                show _ = _
                rw [← hO2.out, com_keep _ _ (by have := HYX.out; omega) (by have h3 := ht2.out; unfold ltK kf at h3; exact of_decide_eq_false h3)]
                simp
              have ex0 : u'.w.cell? ⟨xb, 0, none⟩ = some (.int .i64 x.1) := (u'.h.cell (p := ⟨xb, 0, none⟩) hxl2).trans dx0
              have ex1 : u'.w.cell? ⟨xb, 1, none⟩ = some (.int .i64 x.2) := (u'.h.cell (p := ⟨xb, 1, none⟩) hxl2).trans dx1
              clear HM2 hO2 dx0 dx1 dy0 dy1
              go_wp2_with (at_builtin; refine wpList_mk rfl _ _ rfl _ k _ (HM3.out.alloc _) rfl _ 1 1 [.int .i64 x.1, .int .i64 x.2] rfl rfl (two_at (isCells_new u'.w _ _)) (one2 x) (by omega) ?_; intro v1 w1 m1; obtain ⟨oa', oc', rfl⟩ := own_slice m1.own; have M1 : Hid (Mk w w1 (.slice oa' (k + 1) oc') (k + 1) (cellsOf O ++ [.int .i64 x.1, .int .i64 x.2])) := m1; clear m1)
              go_roundw
              case rel => exact ⟨y :: B3, O ++ [x], _, oa', m2, cb2, k + 1, oc', i + 1, rfl, rfl, by go_num, by omega, by omega, hm3, hB2, (by have := M1.out; rw [cellsOf_append]; exact this), HO3⟩
              case measure => simp [intOf]; omega
    · have HE : Hid (O = com A B) := by
        show _ = _
        have := hO.out
        rw [List.drop_of_length_le (by have := HA.out.len; omega)] at this
        simpa [com] using this
      have HL : Hid (k = (com A B).length) := by
        show _ = _
        have := hM.out.own.1
        rw [cellsOf_length, HE.out] at this
        omega
      go_wp2
      go_ret
      have := hM.out
      rw [HE.out] at this
      refine ⟨oa, oc, ?_, ?_⟩
      · rw [← HL.out]; rfl
      · rw [← HL.out]; exact this

end Go.Proofs.Ytiggpbjgnododaa.T
