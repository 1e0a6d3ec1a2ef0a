/- The document's Lists, walked. -/
import Derived.Test.YtmeinebfdljndaaRls
namespace Go.Proofs.Ytmeinebfdljndaa
open Go.RowKit
set_option linter.unusedVariables false
attribute [local go_sem] Bel.cell Bel.fz

theorem wrE_cases {N : List Pl} {q : Bool} {y : Int} (h : wrE [N] q = y) : (wr1 N ≠ 0 ∧ y = wr1 N) ∨ (wr1 N = 0 ∧ q = false ∧ y = 111) ∨ (wr1 N = 0 ∧ q = true ∧ y = 0) := by
  unfold wrE at h
  by_cases h1 : wr1 N = 0
  · have h2 : wrA [N] = 0 := by simp [wrA, h1]
    rw [if_pos h2] at h
    cases q
    · exact .inr (.inl ⟨h1, rfl, by simpa using h.symm⟩)
    · exact .inr (.inr ⟨h1, rfl, by simpa using h.symm⟩)
  · have h2 : wrA [N] = wr1 N := by simp [wrA, h1]
    rw [h2, if_neg h1] at h
    exact .inl ⟨h1, h.symm⟩

set_option maxRecDepth 100000 in
set_option maxHeartbeats 8000000 in
theorem rlists_err {n : Nat} (w : World) {nm : ByteArray} {dr : Bool} {ka : Option Addr} {kl kc : Nat} {t : TP n} (h : TwAt w w.heap.size n #[.string nm, .bool dr, .slice ka kl kc] t) {la : Option Addr} {lc : Nat} {N : List Pl} (hN : PlsAt w w.heap.size la N) (hc : N.length ≤ lc) (hNm : N.length ≤ 1152921504606846976) (hv : ∀ x ∈ N, Lvl x.s) (ca : Option Addr) (cl cc : Nat) (q : Bool) (hq : q = true ↔ (sps N).Pairwise Ok) (y : Int) (hy : (chkT n t ≠ 0 ∧ y = chkT n t) ∨ (chkT n t = 0 ∧ wrE [N] q = y)) (hy0 : y ≠ 0) :
    Calls Try.prog 9 #[.agg #[.string nm, .bool dr, .slice ka kl kc], .slice la N.length lc, .slice ca cl cc] w fun e w' => e = .returned (.tuple #[.slice none 0 0, .int .i64 y]) ∧ Below w.heap.size w w' := by
  obtain ⟨W, hW⟩ : ∃ W, (w.alloc (.cells #[.string nm, .bool dr, .slice ka kl kc] 24)) = W := ⟨_, rfl⟩
  have hb : Below w.heap.size w W := by rw [← hW]; exact (Below.refl _ _).alloc (Nat.le_refl _) _
  have hck := rcheck_any W ((h.below hb (Nat.le_refl _)).mono hb.size)
  have HRL : Hid (∀ X, Below W.heap.size W X → Calls Try.prog 27 #[.slice la N.length lc] X fun e Y => e = .returned (.int .i64 (wr1 N)) ∧ Hid (Below w.heap.size w Y)) := fun X hX => by
    have bX : Below w.heap.size w X := hb.trans (hX.mono hb.size)
    refine (rlist_any X (cap := lc) (hN.bel bX) hNm hv).mono ?_
    rintro e Y ⟨he, hY⟩
    exact ⟨he, bX.trans (hY.mono bX.size)⟩
  have HCR : Hid (wr1 N = 0 → ∀ X, Below w.heap.size w X → Calls Try.prog 28 #[.slice (some ⟨X.heap.size, 0, none⟩) 1 1] (X.alloc (.cells #[.slice la N.length lc] 25)) fun e Y => e = .returned (.bool (!q)) ∧ Hid (Below w.heap.size w Y)) := fun h0 X hX => by
    have bA : Below w.heap.size w (X.alloc (.cells #[.slice la N.length lc] 25)) := hX.alloc hX.size _
    refine (crossed_any _ (ca := 1) (ll_one (hN.bel hX) hc) (by simp) (by simp [wrA, h0]) q (by simpa using hq)).mono ?_
    rintro e Y ⟨he, hY⟩
    exact ⟨he, bA.trans (hY.mono bA.size)⟩
  have HW : Hid ((w.alloc (.cells #[.string nm, .bool dr, .slice ka kl kc] 24)) = W) := hW
  have HB : Hid (Below w.heap.size w W) := hb
  clear h hb hW hN hv hq
  generalize chkT n t = z at hck hy
  rcases hy with ⟨hz, rfl⟩ | ⟨rfl, hwe⟩
  · clear HRL HCR
    go_enter Try.func9, Try.ntmps9
    go_wp2_with fail
    rw [HW.out]
    with_reducible refine hck.mono ?_
    rintro e X ⟨rfl, hX⟩
    have HX : Hid (Below w.heap.size w X) := HB.out.trans (hX.mono HB.out.size)
    clear hX hck
    go_wp2
    go_ret2
    exact ⟨rfl, HX.out⟩
  · rcases wrE_cases hwe with ⟨h1, rfl⟩ | ⟨h1, rfl, rfl⟩ | ⟨-, -, h3⟩
    · clear HCR hwe
      generalize wr1 N = r at HRL h1 hy0
      go_enter Try.func9, Try.ntmps9
      go_wp2_with fail
      rw [HW.out]
      with_reducible refine hck.mono ?_
      rintro e X ⟨rfl, hX⟩
      have hrl := HRL.out X hX
      clear hX hck HRL
      go_wp2_with fail
      with_reducible refine hrl.mono ?_
      rintro e Y ⟨rfl, HY⟩
      clear hrl
      go_wp2
      go_ret2
      exact ⟨rfl, HY.out⟩
    · rw [h1] at HRL
      have hcr := HCR.out h1
      have HC2 : Hid _ := hcr
      clear HCR hwe h1 hcr
      go_enter Try.func9, Try.ntmps9
      go_wp2_with fail
      rw [HW.out]
      with_reducible refine hck.mono ?_
      rintro e X ⟨rfl, hX⟩
      have hrl := HRL.out X hX
      clear hX hck HRL
      go_wp2_with fail
      with_reducible refine hrl.mono ?_
      rintro e Y ⟨rfl, HY⟩
      have hcr := HC2.out Y HY.out
      clear hrl HC2
      go_wp2_with fail
      with_reducible refine hcr.mono ?_
      rintro e Z ⟨rfl, HZ⟩
      clear hcr HY
      go_wp2
      go_ret2
      exact ⟨rfl, HZ.out⟩
    · exact absurd h3 hy0

theorem fl_step {p : Plc} {N : List Pl} {C : List ByteArray} {k : Nat} {x : Pl} {c : ByteArray} (hx : N[k]? = some x) (hc : C[k]? = some c) : fl p N C (k + 1) = fl p N C k ++ (if mt p c then [x] else []) := by simp only [fl, hx, hc]

set_option maxRecDepth 100000 in
set_option maxHeartbeats 16000000 in
theorem rlists_ok {n : Nat} (w : World) {nm : ByteArray} {dr : Bool} {ka : Option Addr} {kl kc : Nat} {t : TP n} (h : TwAt w w.heap.size n #[.string nm, .bool dr, .slice ka kl kc] t) {la : Option Addr} {lc : Nat} {N : List Pl} (hN : PlsAt w w.heap.size la N) (hc : N.length ≤ lc) (hv : ∀ x ∈ N, Lvl x.s) {ca : Option Addr} {cc : Nat} {C : List ByteArray} (hC : StA w ca C) (hCl : C.length = N.length) (q : Bool) (hq : q = true ↔ (sps N).Pairwise Ok) (hk : chkT n t = 0) (hwe : wrE [N] q = 0) (P : List Plc) (hP : plA n t = P) :
    Calls Try.prog 9 #[.agg #[.string nm, .bool dr, .slice ka kl kc], .slice la N.length lc, .slice ca C.length cc] w fun e w' => ∃ a c, e = .returned (.tuple #[.slice a P.length c, .int .i64 0]) ∧ LlAt w' a (LLf P N C) ∧ Below w.heap.size w w' := by
  have h3 : wr1 N = 0 ∧ q = true := by
    rcases wrE_cases hwe with ⟨h1, h2⟩ | ⟨h1, h2, h3⟩ | ⟨h1, h2, -⟩
    · exact absurd h2.symm h1
    · cases h3
    · exact ⟨h1, h2⟩
  obtain ⟨h1, rfl⟩ := h3
  have hN4 := (wr1_ok h1).1
  have hsz : szT n t ≤ 16 := by
    unfold chkT at hk
    by_cases h2 : 16 < szT n t
    · rw [if_pos h2] at hk
      cases hk
    · omega
  have hP2 : plT n t (-1) 0 = P := by
    unfold plA at hP
    rw [if_pos hk] at hP
    exact hP
  have hPl : P.length ≤ 16 := by rw [← hP2, plT_len]; exact hsz
  obtain ⟨W, hW⟩ : ∃ W, (w.alloc (.cells #[.string nm, .bool dr, .slice ka kl kc] 24)) = W := ⟨_, rfl⟩
  have hb : Below w.heap.size w W := by rw [← hW]; exact (Below.refl _ _).alloc (Nat.le_refl _) _
  have iW : IsCells W w.heap.size #[.string nm, .bool dr, .slice ka kl kc] := by rw [← hW]; exact isCells_new _ _ _
  have hck := rcheck_any W ((h.below hb (Nat.le_refl _)).mono hb.size)
  rw [hk] at hck
  have HRL : Hid (∀ X, Below W.heap.size W X → Calls Try.prog 27 #[.slice la N.length lc] X fun e Y => e = .returned (.int .i64 0) ∧ Hid (Below W.heap.size W Y)) := fun X hX => by
    have bX : Below w.heap.size w X := hb.trans (hX.mono hb.size)
    refine (rlist_any X (cap := lc) (hN.bel bX) (by omega) hv).mono ?_
    rintro e Y ⟨he, hY⟩
    exact ⟨by rw [h1] at he; exact he, hX.trans (hY.mono hX.size)⟩
  have HCR : Hid (∀ X, Below W.heap.size W X → Calls Try.prog 28 #[.slice (some ⟨X.heap.size, 0, none⟩) 1 1] (X.alloc (.cells #[.slice la N.length lc] 25)) fun e Y => e = .returned (.bool (!true)) ∧ Hid (Below W.heap.size W Y)) := fun X hX => by
    have bX : Below w.heap.size w X := hb.trans (hX.mono hb.size)
    have bA : Below W.heap.size W (X.alloc (.cells #[.slice la N.length lc] 25)) := hX.alloc hX.size _
    refine (crossed_any _ (ca := 1) (ll_one (hN.bel bX) hc) (by simp) (by simp [wrA, h1]) true (by simpa using hq)).mono ?_
    rintro e Y ⟨he, hY⟩
    exact ⟨he, bA.trans (hY.mono bA.size)⟩
  have HND : Hid (∀ X, Below W.heap.size W X → Calls Try.prog 29 #[.agg #[.string nm, .bool dr, .slice ka kl kc]] X fun e Y => ∃ a c, e = .returned (.slice a P.length c) ∧ Hid (NdAt Y a P ∧ Below w.heap.size w Y)) := fun X hX => by
    have bX : Below w.heap.size w X := hb.trans (hX.mono hb.size)
    refine (nodes_any X ((h.below bX (Nat.le_refl _)).mono bX.size) hsz P hP2).mono ?_
    rintro e Y ⟨a, c, he, hY, hY2⟩
    exact ⟨a, c, he, row_nd hY, bX.trans (hY2.mono bX.size)⟩
  have HW : Hid ((w.alloc (.cells #[.string nm, .bool dr, .slice ka kl kc] 24)) = W) := hW
  have HI : Hid (IsCells W w.heap.size #[.string nm, .bool dr, .slice ka kl kc]) := iW
  have HIN : Hid (PlsAt w w.heap.size la N ∧ StA w ca C) := ⟨hN, hC⟩
  clear h hb hW hN hv hq iW h1 hk hwe hP hP2 hsz hC
  go_enter Try.func9, Try.ntmps9
  go_wp2_with fail
  rw [HW.out]
  with_reducible refine hck.mono ?_
  rintro e X ⟨rfl, hX⟩
  have hrl := HRL.out X hX
  clear hX hck HRL
  go_wp2_with fail
  with_reducible refine hrl.mono ?_
  rintro e Y ⟨rfl, HY⟩
  have hcr := HCR.out Y HY.out
  clear hrl HCR
  go_wp2_with fail
  with_reducible refine hcr.mono ?_
  rintro e Z ⟨rfl, HZ⟩
  have hnd := HND.out Z HZ.out
  have iZ := HI.out.of_block (HZ.out.block _ HI.out.lt)
  have z0 : Z.cell? ⟨w.heap.size, 0, none⟩ = some (.string nm) := iZ.cell 0
  have z1 : Z.cell? ⟨w.heap.size, 1, none⟩ = some (.bool dr) := iZ.cell 1
  have z2 : Z.cell? ⟨w.heap.size, 2, none⟩ = some (.slice ka kl kc) := iZ.cell 2
  have zl := iZ.lt
  clear hcr HY iZ HND HI
  go_wp2_with fail
  with_reducible refine hnd.mono ?_
  rintro e V ⟨pa, pc, rfl, HV⟩
  clear hnd z0 z1 z2 zl HZ HW
  go_wp2
  have H0 : Hid (RoS V V [] none 0 []) := ⟨own_none _ _ _ _, fun j L hL => by simp at hL, Below.refl _ _⟩
  go_loopw [10, 11] (fun u v wr => ∃ (LLi : List (List Pl)) (oa : Option Addr) (oc : Nat) (xs : List Value), LLi.length ≤ P.length ∧ u = .slice oa LLi.length oc ∧ v = .int .i64 (LLi.length : Int) ∧ Hid (LLi = (LLf P N C).take LLi.length) ∧ Hid (RoS V wr LLi oa oc xs)) (fun _ v _ => P.length - (intOf v).toNat)
  case atStart => exact ⟨[], none, 0, [], by simp, rfl, rfl, by show _ = _; simp, H0⟩
  case round =>
    obtain ⟨LLi, oa, oc, xs, hi, rfl, rfl, HLL, HR⟩ := hrel
    obtain ⟨W5, hW5⟩ : ∃ W5, W5 = wr := ⟨_, rfl⟩
    subst hW5
    clear H0
    by_cases hlt : LLi.length < P.length
    · obtain ⟨p, hp⟩ : ∃ p, P[LLi.length]? = some p := ⟨_, List.getElem?_eq_getElem hlt⟩
      have hlt9 : (LLi.length : Int) < (P.length : Int) := by omega
      have HLN : Hid (LLi ++ [fl p N C N.length] = (LLf P N C).take (LLi.length + 1)) := by
        have hx : (LLf P N C)[LLi.length]? = some (fl p N C N.length) := by unfold LLf; rw [List.getElem?_map, hp]; rfl
        show _ = _
        rw [take_snoc hx, ← HLL.out]
      have HST : Hid (NdAt W5 pa P ∧ PlsAt W5 W5.heap.size la N ∧ StA W5 ca C) := by
        have b1 := HV.out.2
        have b2 := HR.out.bel
        have bw : Below w.heap.size w W5 := b1.trans (b2.mono b1.size)
        exact ⟨HV.out.1.bel b2, HIN.out.1.bel bw, HIN.out.2.bel bw⟩
      have HPP : Hid (P[LLi.length]? = some p) := hp
      have H1 : Hid (W5.ownsRow W5.heap.size 38 4 (.slice none 0 0) 0 [] ∧ Below W5.heap.size W5 W5) := ⟨own_none _ _ _ _, Below.refl _ _⟩
      clear hp HLL
      generalize hil : LLi.length = i at *
      go_wp2
      go_loopw [12, 13] (fun u v wr => ∃ (k : Nat) (M : List Pl) (ma : Option Addr) (mc : Nat), k ≤ N.length ∧ M.length ≤ k ∧ u = .slice ma M.length mc ∧ v = .int .i64 (k : Int) ∧ Hid (M = fl p N C k) ∧ Hid (wr.ownsRow W5.heap.size 38 4 (.slice ma M.length mc) M.length (plCells M) ∧ Below W5.heap.size W5 wr)) (fun _ v _ => N.length - (intOf v).toNat)
      case atStart => exact ⟨0, [], none, 0, by omega, by simp, rfl, rfl, rfl, H1⟩
      case round =>
        obtain ⟨k, M, ma, mc, hk, hMk, rfl, rfl, HM, HS⟩ := hrel
        clear H1
        have hWs : W5.heap.size ≤ wr.heap.size := HS.out.2.size
        by_cases hlk : k < N.length
        · obtain ⟨x, hx⟩ : ∃ x, N[k]? = some x := ⟨_, List.getElem?_eq_getElem hlk⟩
          obtain ⟨c, hcc⟩ : ∃ c, C[k]? = some c := ⟨_, List.getElem?_eq_getElem (by omega)⟩
          obtain ⟨gp, rfl, hgp, p0⟩ := (HST.out.1.bel HS.out.2) i p HPP.out
          obtain ⟨bn, on', rfl, hbn, a0, a1, a2, a3⟩ := (HST.out.2.1.bel HS.out.2) k x hx
          obtain ⟨bc, oc', rfl, hbc, s0⟩ := (HST.out.2.2.bel HS.out.2) k c hcc
          have hlk9 : (k : Int) < (N.length : Int) := by omega
          have hlk8 : (k : Int) < (C.length : Int) := by omega
          have HFS := fl_step (p := p) hx hcc
          obtain ⟨xn, x1, x2, x3⟩ := x
          simp only at *
          clear hx hcc
          cases hm : mt p c
          · have HM2 : Hid (M = fl p N C (k + 1)) := by show _ = _; rw [HFS, hm, HM.out]; simp
            have hm2 : p.nm.toList.isEmpty = false ∧ (p.nm.toList == c.toList) = false := by
              unfold mt at hm
              simpa using hm
            obtain ⟨hE, hNe⟩ := hm2
            clear hm HFS HM
            go_wp2_with fail
            refine wp_region_bel (by kernel_rfl) (by kernel_rfl) ?_
            intro hne
            repeat go_big_quiet_step (fail)
            refine wpQuiet_nil ?_
            rintro _ ⟨u, rfl⟩
            have HSu : Hid (u.w.ownsRow W5.heap.size 38 4 (.slice ma M.length mc) M.length (plCells M) ∧ Below W5.heap.size W5 u.w) := ⟨own_bel HS.out.1 u.h, HS.out.2.trans (u.h.mono HS.out.2.size)⟩
            go_wp2
            go_roundw
            case rel => exact ⟨k + 1, M, ma, mc, by omega, by omega, rfl, by go_num, HM2, HSu⟩
            case measure => simp [intOf]; omega
          · have HM2 : Hid (M ++ [⟨xn, ⟨x1, x2, x3⟩⟩] = fl p N C (k + 1)) := by show _ = _; rw [HFS, hm, HM.out]; simp
            have hm2 : p.nm.toList.isEmpty = true ∨ (p.nm.toList.isEmpty = false ∧ (p.nm.toList == c.toList) = true) := by
              unfold mt at hm
              cases h1 : p.nm.toList.isEmpty
              · rw [h1] at hm
                exact .inr ⟨rfl, by simpa using hm⟩
              · exact .inl rfl
            clear hm HFS HM
            rcases hm2 with hE | ⟨hE, hNe⟩
            · go_wp2_with fail
              refine wp_region_bel (by kernel_rfl) (by kernel_rfl) ?_
              intro hne
              repeat go_big_quiet_step (fail)
              refine wpQuiet_nil ?_
              rintro _ ⟨u, rfl⟩
              have HSu : Hid (u.w.ownsRow W5.heap.size 38 4 (.slice ma M.length mc) M.length (plCells M) ∧ Below W5.heap.size W5 u.w) := ⟨own_bel HS.out.1 u.h, HS.out.2.trans (u.h.mono HS.out.2.size)⟩
              have HOW : Hid ((u.w.alloc (.cells #[.int .u64 xn, .int .u64 x1, .int .u64 x2, .int .i64 x3] 38)).ownsRow W5.heap.size 38 4 (.slice ma M.length mc) M.length (plCells M)) := own_of_block HSu.out.1 (fun j hj => Below.heap_alloc _ _ _ (own_block_lt HSu.out.1 j hj).2)
              have hzB : W5.heap.size ≤ u.w.heap.size := HSu.out.2.size
              have HNW : Hid (∀ j v, (plCells [⟨xn, ⟨x1, x2, x3⟩⟩])[j]? = some v → ∃ ad, (some ⟨u.w.heap.size, 0, none⟩ : Option Addr) = some ad ∧ (u.w.alloc (.cells #[.int .u64 xn, .int .u64 x1, .int .u64 x2, .int .i64 x3] 38)).cell? (ad.add j) = some v) := pl_news u.w ⟨xn, ⟨x1, x2, x3⟩⟩
              have HPU : Hid (∀ va4 vc4 w4, w4.ownsRow W5.heap.size 38 4 (.slice va4 (M.length + 1) vc4) (M.length + 1) (plCells M ++ plCells [⟨xn, ⟨x1, x2, x3⟩⟩]) → (u.w.alloc (.cells #[.int .u64 xn, .int .u64 x1, .int .u64 x2, .int .i64 x3] 38)).grownBy w4 (Value.slice ma M.length mc).ownBlock → w4.ownsRow W5.heap.size 38 4 (.slice va4 (M ++ [(⟨xn, ⟨x1, x2, x3⟩⟩ : Pl)]).length vc4) (M ++ [(⟨xn, ⟨x1, x2, x3⟩⟩ : Pl)]).length (plCells (M ++ [⟨xn, ⟨x1, x2, x3⟩⟩])) ∧ Below W5.heap.size W5 w4) := fun va4 vc4 w4 q1 q2 => ⟨by rw [plCells_append, List.length_append]; exact q1, (HSu.out.2.alloc HSu.out.2.size _).grown q2 (by have := HSu.out.2.size; simp; omega) (fun j hj => (own_block_lt HSu.out.1 j hj).1)⟩
              have tok : True := trivial
              clear HSu HS
              go_wp2_with (at_builtin; have _t := tok; refine wpList_app (by rfl) _ _ (by rfl) Try.underlying25 info38 rfl (by decide) W5.heap.size (.slice ma M.length mc) M.length (plCells M) (by rfl) HOW.out (some ⟨u.w.heap.size, 0, none⟩) 1 1 (plCells [⟨xn, ⟨x1, x2, x3⟩⟩]) (by rfl) (by rfl) HNW.out (plCells_one _) (by unfold maxLen; omega) (by omega) (by simp; omega) ?_; intro v1 w4 hown1 hg1 _ hat1; obtain ⟨va4, vc4, hvv⟩ := own_slice hown1; subst hvv; have HN4 : Hid _ := HPU.out va4 vc4 w4 hown1 hg1; clear tok _t hown1 hg1 hat1 HPU HOW HNW)
              go_roundw
              case rel => exact ⟨k + 1, M ++ [⟨xn, ⟨x1, x2, x3⟩⟩], va4, vc4, by omega, by simp <;> omega, by simp, by go_num, HM2, HN4⟩
              case measure => simp [intOf]; omega
            · go_wp2_with fail
              refine wp_region_bel (by kernel_rfl) (by kernel_rfl) ?_
              intro hne
              repeat go_big_quiet_step (fail)
              refine wpQuiet_nil ?_
              rintro _ ⟨u, rfl⟩
              have HSu : Hid (u.w.ownsRow W5.heap.size 38 4 (.slice ma M.length mc) M.length (plCells M) ∧ Below W5.heap.size W5 u.w) := ⟨own_bel HS.out.1 u.h, HS.out.2.trans (u.h.mono HS.out.2.size)⟩
              have HOW : Hid ((u.w.alloc (.cells #[.int .u64 xn, .int .u64 x1, .int .u64 x2, .int .i64 x3] 38)).ownsRow W5.heap.size 38 4 (.slice ma M.length mc) M.length (plCells M)) := own_of_block HSu.out.1 (fun j hj => Below.heap_alloc _ _ _ (own_block_lt HSu.out.1 j hj).2)
              have hzB : W5.heap.size ≤ u.w.heap.size := HSu.out.2.size
              have HNW : Hid (∀ j v, (plCells [⟨xn, ⟨x1, x2, x3⟩⟩])[j]? = some v → ∃ ad, (some ⟨u.w.heap.size, 0, none⟩ : Option Addr) = some ad ∧ (u.w.alloc (.cells #[.int .u64 xn, .int .u64 x1, .int .u64 x2, .int .i64 x3] 38)).cell? (ad.add j) = some v) := pl_news u.w ⟨xn, ⟨x1, x2, x3⟩⟩
              have HPU : Hid (∀ va4 vc4 w4, w4.ownsRow W5.heap.size 38 4 (.slice va4 (M.length + 1) vc4) (M.length + 1) (plCells M ++ plCells [⟨xn, ⟨x1, x2, x3⟩⟩]) → (u.w.alloc (.cells #[.int .u64 xn, .int .u64 x1, .int .u64 x2, .int .i64 x3] 38)).grownBy w4 (Value.slice ma M.length mc).ownBlock → w4.ownsRow W5.heap.size 38 4 (.slice va4 (M ++ [(⟨xn, ⟨x1, x2, x3⟩⟩ : Pl)]).length vc4) (M ++ [(⟨xn, ⟨x1, x2, x3⟩⟩ : Pl)]).length (plCells (M ++ [⟨xn, ⟨x1, x2, x3⟩⟩])) ∧ Below W5.heap.size W5 w4) := fun va4 vc4 w4 q1 q2 => ⟨by rw [plCells_append, List.length_append]; exact q1, (HSu.out.2.alloc HSu.out.2.size _).grown q2 (by have := HSu.out.2.size; simp; omega) (fun j hj => (own_block_lt HSu.out.1 j hj).1)⟩
              have tok : True := trivial
              clear HSu HS
              go_wp2_with (at_builtin; have _t := tok; refine wpList_app (by rfl) _ _ (by rfl) Try.underlying25 info38 rfl (by decide) W5.heap.size (.slice ma M.length mc) M.length (plCells M) (by rfl) HOW.out (some ⟨u.w.heap.size, 0, none⟩) 1 1 (plCells [⟨xn, ⟨x1, x2, x3⟩⟩]) (by rfl) (by rfl) HNW.out (plCells_one _) (by unfold maxLen; omega) (by omega) (by simp; omega) ?_; intro v1 w4 hown1 hg1 _ hat1; obtain ⟨va4, vc4, hvv⟩ := own_slice hown1; subst hvv; have HN4 : Hid _ := HPU.out va4 vc4 w4 hown1 hg1; clear tok _t hown1 hg1 hat1 HPU HOW HNW)
              go_roundw
              case rel => exact ⟨k + 1, M ++ [⟨xn, ⟨x1, x2, x3⟩⟩], va4, vc4, by omega, by simp <;> omega, by simp, by go_num, HM2, HN4⟩
              case measure => simp [intOf]; omega
        · have hMf : M = fl p N C N.length := by rw [HM.out, show k = N.length by omega]
          rw [← hMf] at HLN
          have hlk9 : ¬ (k : Int) < (N.length : Int) := by omega
          clear HM HST HPP hMf
          subst hil
          have hLP : LLi.length ≤ 16 := by omega
          have HOW : Hid ((wr.alloc (.cells #[.slice ma M.length mc] 25)).ownsRow V.heap.size 25 1 (.slice oa LLi.length oc) LLi.length xs) := own_of_block (own_bel HR.out.own HS.out.2) (fun j hj => Below.heap_alloc _ _ _ (own_block_lt (own_bel HR.out.own HS.out.2) j hj).2)
          have hVB : V.heap.size ≤ wr.heap.size := Nat.le_trans HR.out.bel.size hWs
          have HNW : Hid (∀ j u, [Value.slice ma M.length mc][j]? = some u → ∃ ad, some (⟨wr.heap.size, 0, none⟩ : Addr) = some ad ∧ (wr.alloc (.cells #[.slice ma M.length mc] 25)).cell? (ad.add j) = some u) := news_new wr #[.slice ma M.length mc] 25
          have hone : ∀ u ∈ [Value.slice ma M.length mc], u.oneCell' = true := by
            intro u hu
            simp only [List.mem_cons, List.not_mem_nil, or_false] at hu
            subst hu
            rfl
          have HON : Hid (∀ u ∈ [Value.slice ma M.length mc], u.oneCell' = true) := hone
          have HPU : Hid (∀ va4 vc4 w4, w4.ownsRow V.heap.size 25 1 (.slice va4 (LLi.length + 1) vc4) (LLi.length + 1) (xs ++ [.slice ma M.length mc]) → (wr.alloc (.cells #[.slice ma M.length mc] 25)).grownBy w4 (Value.slice oa LLi.length oc).ownBlock → ((Value.slice va4 (LLi.length + 1) vc4).ownBlock = (Value.slice oa LLi.length oc).ownBlock ∨ (Value.slice va4 (LLi.length + 1) vc4).ownBlock = some (wr.alloc (.cells #[.slice ma M.length mc] 25)).heap.size) → RoS V w4 (LLi ++ [M]) va4 vc4 (xs ++ [.slice ma M.length mc])) := fun va4 vc4 w4 q1 q2 q3 => HR.out.put HS.out.1 HS.out.2 q1 q2 q3
          have tok : True := trivial
          clear HS HR hone
          go_wp2_with (at_builtin; have _t := tok; refine wpList_app (by rfl) _ _ (by rfl) Try.underlying27 info25 rfl (by decide) V.heap.size (.slice oa LLi.length oc) LLi.length xs (by rfl) HOW.out (some ⟨wr.heap.size, 0, none⟩) 1 1 [.slice ma M.length mc] (by rfl) (by rfl) HNW.out HON.out (by unfold maxLen; omega) (by omega) (by simp; omega) ?_; intro v1 w4 hown1 hg1 _ hat1; obtain ⟨va4, vc4, hvv⟩ := own_slice hown1; subst hvv; have HN4 : Hid _ := HPU.out va4 vc4 w4 hown1 hg1 hat1; clear tok _t hown1 hg1 hat1 HPU HOW HNW HON)
          go_roundw
          case rel => exact ⟨LLi ++ [M], va4, vc4, _, by simp; omega, by simp, by simp, by show _ = _; rw [List.length_append]; exact HLN.out, HN4⟩
          case measure => simp [intOf]; omega
    · have hlP : LLi.length = P.length := by omega
      have hfin : LLi = LLf P N C := by
        have h1 := HLL.out
        rw [List.take_of_length_le (by unfold LLf; simp; omega)] at h1
        exact h1
      have HE : Hid (LlAt W5 oa (LLf P N C) ∧ Below w.heap.size w W5) := by
        refine ⟨?_, HV.out.2.trans (HR.out.bel.mono HV.out.2.size)⟩
        rw [← hfin]
        exact HR.out.ll
      have hlt9 : ¬ (LLi.length : Int) < (P.length : Int) := by omega
      clear HLL HR hfin hlt
      rw [hlP] at hlt9 ⊢
      clear hlP
      go_wp2
      go_ret2
      exact ⟨oa, ⟨oc, rfl⟩, HE.out⟩

end Go.Proofs.Ytmeinebfdljndaa
