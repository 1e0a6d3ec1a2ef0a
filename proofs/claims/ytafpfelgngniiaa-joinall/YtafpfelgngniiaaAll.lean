/- JoinAll. -/
import Derived.Test.YtafpfelgngniiaaLiv
namespace Go.Proofs.Ytafpfelgngniiaa
open Go.RowKit
set_option linter.unusedVariables false
attribute [local go_sem] Bel.cell Bel.fz

theorem prE_len (dr : Bool) (A D : List Pl) : (prE dr A D).length ≤ 16384 := by
  unfold prE
  split
  · split
    · simp
    · omega
  · simp
theorem ouE_len (dr : Bool) (A D : List Pl) : (ouE dr A D).length ≤ 8192 := by
  unfold ouE
  split
  · rename_i h
    obtain ⟨-, lA, lD⟩ := err_can h
    unfold roL
    exact Nat.le_trans (List.length_filter_le _ _) lA
  · simp
theorem inE_len (s dr : Bool) (A D : List Pl) : (inE s dr A D).length ≤ 8192 := by
  unfold inE
  split
  · rename_i h
    obtain ⟨-, lA, lD⟩ := err_can h
    unfold inL
    exact Nat.le_trans (List.length_filter_le _ _) lD
  · simp
theorem coE_len (dr : Bool) (A D : List Pl) : (coE dr A D).length ≤ 8192 := by
  unfold coE
  split
  · rename_i h
    obtain ⟨-, lA, lD⟩ := err_can h
    simp [rcL]
    omega
  · simp
theorem neE_len (A D : List Pl) : (neE A D).length ≤ 16384 := by
  unfold neE
  split
  · rename_i h
    obtain ⟨-, lA, lD⟩ := err_can h
    exact Nat.le_trans (List.length_filterMap_le _ _) (by omega)
  · simp

set_option maxRecDepth 100000 in
set_option maxHeartbeats 8000000 in
theorem all_walk (w : World) {A D : List Pl} {a d : Option Addr} {ca cd : Nat} (dr : Bool) (hA : PlsAt w w.heap.size a A) (hD : PlsAt w w.heap.size d D) (hva : ∀ x ∈ A, Lvl x.s) (hvd : ∀ x ∈ D, Lvl x.s) (cA : A.length ≤ ca) (cD : D.length ≤ cd)
    (mA : A.length ≤ maxLen) (sA : A.length * 32 ≤ 140737488355328) (mD : D.length ≤ maxLen) (sD : D.length * 32 ≤ 140737488355328) :
    Calls Try.prog 3 #[.slice a A.length ca, .slice d D.length cd, .bool dr] w fun e w' => e = .returned (.bool true) ∧ Below w.heap.size w w' := by
  have HC1 : Hid (Calls Try.prog 5 #[.slice a A.length ca] w fun e X => ∃ va vc, e = .returned (.slice va A.length vc) ∧ Hid (Below w.heap.size w X) ∧ Hid (PlsAt X X.heap.size va A)) := by
    refine (copied_any w (ca := ca) hA mA sA).mono ?_
    rintro e X ⟨va, vc, rfl, h1, h2⟩
    exact ⟨va, vc, rfl, h2, row_pls h1⟩
  have HC2 : Hid (∀ X, Below w.heap.size w X → Calls Try.prog 5 #[.slice d D.length cd] X fun e Y => ∃ va vc, e = .returned (.slice va D.length vc) ∧ Hid (Below X.heap.size X Y) ∧ Hid (PlsAt Y Y.heap.size va D)) := fun X hX => by
    refine (copied_any X (ca := cd) ((hD.below hX (Nat.le_refl _)).more hX.size) mD sD).mono ?_
    rintro e Y ⟨va, vc, rfl, h1, h2⟩
    exact ⟨va, vc, rfl, h2, row_pls h1⟩
  have HF : Hid (PlsAt w w.heap.size a A ∧ PlsAt w w.heap.size d D) := ⟨hA, hD⟩
  have HG : Hid (∀ w2 xa xc ya yc, PlsAt w2 w2.heap.size xa A → PlsAt w2 w2.heap.size ya D → PlsAt w2 w2.heap.size a A → PlsAt w2 w2.heap.size d D →
      (∀ X Ls, KP w2 Ls X → Calls Try.prog 6 #[.slice xa A.length xc, .slice ya D.length yc, .bool dr] X fun e Y => ∃ va vc, e = .returned (.tuple #[.slice va (prE dr A D).length vc, .int .i64 (prY dr A D)]) ∧ Hid (KP w2 Ls Y) ∧ Hid (PrsAt Y va (prE dr A D)) ∧ Hid (Below X.heap.size X Y)) ∧
      (∀ X Ls, KP w2 Ls X → Calls Try.prog 7 #[.slice a A.length ca, .slice d D.length cd, .bool dr] X fun e Y => ∃ va vc, e = .returned (.tuple #[.slice va (prE dr A D).length vc, .int .i64 (prY dr A D)]) ∧ Hid (KP w2 Ls Y) ∧ Hid (PrsAt Y va (prE dr A D)) ∧ Hid (Below X.heap.size X Y)) ∧
      (∀ X Ls, KP w2 Ls X → Calls Try.prog 9 #[.slice xa A.length xc, .slice ya D.length yc, .bool dr] X fun e Y => ∃ va vc, e = .returned (.tuple #[.slice va (ouE dr A D).length vc, .int .i64 (errP A D)]) ∧ Hid (KP w2 ((va, vc, ouE dr A D) :: Ls) Y)) ∧
      (∀ X Ls, KP w2 Ls X → Calls Try.prog 10 #[.slice a A.length ca, .slice d D.length cd, .bool dr] X fun e Y => ∃ va vc, e = .returned (.tuple #[.slice va (ouE dr A D).length vc, .int .i64 (errP A D)]) ∧ Hid (KP w2 ((va, vc, ouE dr A D) :: Ls) Y)) ∧
      (∀ X Ls, KP w2 Ls X → Calls Try.prog 11 #[.slice xa A.length xc, .slice ya D.length yc, .bool dr] X fun e Y => ∃ va vc, e = .returned (.tuple #[.slice va (inE true dr A D).length vc, .int .i64 (errP A D)]) ∧ Hid (KP w2 ((va, vc, inE true dr A D) :: Ls) Y)) ∧
      (∀ X Ls, KP w2 Ls X → Calls Try.prog 12 #[.slice a A.length ca, .slice d D.length cd, .bool dr] X fun e Y => ∃ va vc, e = .returned (.tuple #[.slice va (inE true dr A D).length vc, .int .i64 (errP A D)]) ∧ Hid (KP w2 ((va, vc, inE true dr A D) :: Ls) Y)) ∧
      (∀ X Ls, KP w2 Ls X → Calls Try.prog 13 #[.slice xa A.length xc, .slice ya D.length yc, .bool dr] X fun e Y => ∃ va vc, e = .returned (.tuple #[.slice va (inE false dr A D).length vc, .int .i64 (errP A D)]) ∧ Hid (KP w2 ((va, vc, inE false dr A D) :: Ls) Y)) ∧
      (∀ X Ls, KP w2 Ls X → Calls Try.prog 14 #[.slice a A.length ca, .slice d D.length cd, .bool dr] X fun e Y => ∃ va vc, e = .returned (.tuple #[.slice va (inE false dr A D).length vc, .int .i64 (errP A D)]) ∧ Hid (KP w2 ((va, vc, inE false dr A D) :: Ls) Y)) ∧
      (∀ X Ls, KP w2 Ls X → Calls Try.prog 16 #[.slice xa A.length xc, .slice ya D.length yc, .bool dr] X fun e Y => ∃ va vc, e = .returned (.tuple #[.slice va (coE dr A D).length vc, .int .i64 (errP A D)]) ∧ Hid (KP w2 Ls Y) ∧ Hid (KsAt Y va (coE dr A D)) ∧ Hid (Below X.heap.size X Y)) ∧
      (∀ X Ls, KP w2 Ls X → Calls Try.prog 17 #[.slice a A.length ca, .slice d D.length cd, .bool dr] X fun e Y => ∃ va vc, e = .returned (.tuple #[.slice va (coE dr A D).length vc, .int .i64 (errP A D)]) ∧ Hid (KP w2 Ls Y) ∧ Hid (KsAt Y va (coE dr A D)) ∧ Hid (Below X.heap.size X Y)) ∧
      (∀ X Ls, KP w2 Ls X → Calls Try.prog 18 #[.slice xa A.length xc, .slice ya D.length yc] X fun e Y => ∃ va vc, e = .returned (.tuple #[.slice va (neE A D).length vc, .int .i64 (errP A D)]) ∧ Hid (KP w2 Ls Y) ∧ Hid (PrsAt Y va (neE A D)) ∧ Hid (Below X.heap.size X Y)) ∧
      (∀ X Ls, KP w2 Ls X → Calls Try.prog 19 #[.slice a A.length ca, .slice d D.length cd] X fun e Y => ∃ va vc, e = .returned (.tuple #[.slice va (neE A D).length vc, .int .i64 (errP A D)]) ∧ Hid (KP w2 Ls Y) ∧ Hid (PrsAt Y va (neE A D)) ∧ Hid (Below X.heap.size X Y))) := by
    intro w2 xa xc ya yc px py pa pd
    refine ⟨?_, ?_, ?_, ?_, ?_, ?_, ?_, ?_, ?_, ?_, ?_, ?_⟩ <;> intro X Ls h
    · exact h.callP (pairs_any X dr (h.old px) (h.old py) hva hvd)
    · exact h.callP (rpairs_any X dr (h.old pa) (h.old pd) hva hvd cA cD)
    · exact h.call (outer_any X dr (h.old px) (h.old py) hva hvd)
    · exact h.call (router_any X dr (h.old pa) (h.old pd) hva hvd cA cD)
    · exact h.call (inner_q X dr (h.old px) (h.old py) hva hvd)
    · exact h.call (rinner_q X dr (h.old pa) (h.old pd) hva hvd cA cD)
    · exact h.call (without_q X dr (h.old px) (h.old py) hva hvd)
    · exact h.call (rwithout_q X dr (h.old pa) (h.old pd) hva hvd cA cD)
    · exact h.callK (count_any X dr (h.old px) (h.old py) hva hvd)
    · exact h.callK (rcount_any X dr (h.old pa) (h.old pd) hva hvd cA cD)
    · exact h.callP (nearest_any X (h.old px) (h.old py) hva hvd)
    · exact h.callP (rnearest_any X (h.old pa) (h.old pd) hva hvd cA cD)
  have n1 := prE_len dr A D
  have n2 := ouE_len dr A D
  have n3 := inE_len true dr A D
  have n4 := inE_len false dr A D
  have n5 := coE_len dr A D
  have n6 := neE_len A D
  generalize prE dr A D = P1 at HG n1
  generalize prY dr A D = y1 at HG
  generalize ouE dr A D = P2 at HG n2
  generalize inE true dr A D = P3 at HG n3
  generalize inE false dr A D = P4 at HG n4
  generalize coE dr A D = P5 at HG n5
  generalize neE A D = P6 at HG n6
  generalize errP A D = y at HG
  clear hA hD hva hvd cA cD
  go_enter Try.func3, Try.ntmps3
  go_wp2_with fail
  with_reducible refine HC1.out.mono ?_
  rintro e X1 ⟨xa, xc, rfl, B1, R1⟩
  have HC2' := HC2.out X1 B1.out
  clear HC1 HC2
  go_wp2_with fail
  with_reducible refine HC2'.mono ?_
  rintro e w2 ⟨ya, yc, rfl, B2, R2⟩
  have HF2 : Hid (PlsAt w2 w2.heap.size xa A ∧ PlsAt w2 w2.heap.size ya D ∧ PlsAt w2 w2.heap.size a A ∧ PlsAt w2 w2.heap.size d D ∧ Below w.heap.size w w2) := by
    have b : Below w.heap.size w w2 := B1.out.trans (B2.out.mono B1.out.size)
    exact ⟨(R1.out.below B2.out (Nat.le_refl _)).more B2.out.size, R2.out, (HF.out.1.below b (Nat.le_refl _)).more b.size, (HF.out.2.below b (Nat.le_refl _)).more b.size, b⟩
  have HG2 := HG.out w2 xa xc ya yc HF2.out.1 HF2.out.2.1 HF2.out.2.2.1 HF2.out.2.2.2.1
  have K0 : Hid (KP w2 [] w2) := ⟨Below.refl _ _, fun a c L h => by cases h⟩
  obtain ⟨g1, g2, g3, g4, g5, g6, g7, g8, g9, g10, g11, g12⟩ := HG2
  have G1 : Hid _ := g1
  have G2 : Hid _ := g2
  have G3 : Hid _ := g3
  have G4 : Hid _ := g4
  have G5 : Hid _ := g5
  have G6 : Hid _ := g6
  have G7 : Hid _ := g7
  have G8 : Hid _ := g8
  have G9 : Hid _ := g9
  have G10 : Hid _ := g10
  have G11 : Hid _ := g11
  have G12 : Hid _ := g12
  clear g1 g2 g3 g4 g5 g6 g7 g8 g9 g10 g11 g12 HG HF HC2' R1 R2 B1 B2
  have t1 := G1.out w2 [] K0.out
  clear G1 K0
  go_wp2_with fail
  with_reducible refine t1.mono ?_
  rintro e X2 ⟨l1, c1, rfl, K1, R1, B1⟩
  have t2 := G2.out X2 [] K1.out
  clear G2 t1 B1 K1
  go_wp2_with fail
  with_reducible refine t2.mono ?_
  rintro e X3 ⟨l2, c2, rfl, K2, R2, B2⟩
  have t3 := pairs_same X3 (ca := c1) (cb := c2) (R1.out.bel B2.out) R2.out n1
  clear t2
  go_wp2_with fail
  with_reducible refine t3.mono ?_
  rintro e X4 ⟨rfl, hb4⟩
  have K4 : Hid (KP w2 [] X4) := K2.out.on hb4
  clear R1 R2 B2 K2 hb4 t3
  have t1 := G3.out X4 [] K4.out
  clear G3 K4
  go_wp2_with fail
  with_reducible refine t1.mono ?_
  rintro e X5 ⟨p, pc, rfl, K5⟩
  have t1 := G4.out X5 _ K5.out
  clear G4 K5
  go_wp2_with fail
  with_reducible refine t1.mono ?_
  rintro e X6 ⟨q, qc, rfl, K6⟩
  have t1 := G5.out X6 _ K6.out
  clear G5 K6
  go_wp2_with fail
  with_reducible refine t1.mono ?_
  rintro e X7 ⟨r, rc, rfl, K7⟩
  have t1 := G6.out X7 _ K7.out
  clear G6 K7
  go_wp2_with fail
  with_reducible refine t1.mono ?_
  rintro e X8 ⟨s, sc, rfl, K8⟩
  have t1 := G7.out X8 _ K8.out
  clear G7 K8
  go_wp2_with fail
  with_reducible refine t1.mono ?_
  rintro e X9 ⟨t, tc, rfl, K9⟩
  have t1 := G8.out X9 _ K9.out
  clear G8 K9
  go_wp2_with fail
  with_reducible refine t1.mono ?_
  rintro e X10 ⟨u, uc, rfl, K10⟩
  have t1 := placed_same X10 (a := p) (b := q) (ca := pc) (cb := qc) (L := P2) (K10.out.pls (c := pc) (by simp)) (K10.out.pls (c := qc) (by simp)) (by omega)
  go_wp2_with fail
  with_reducible refine t1.mono ?_
  rintro e X11 ⟨rfl, hb⟩
  have K11 : Hid (KP w2 _ X11) := K10.out.on hb
  clear K10 hb
  have t1 := placed_same X11 (a := r) (b := s) (ca := rc) (cb := sc) (L := P3) (K11.out.pls (c := rc) (by simp)) (K11.out.pls (c := sc) (by simp)) (by omega)
  go_wp2_with fail
  with_reducible refine t1.mono ?_
  rintro e X12 ⟨rfl, hb⟩
  have K12 : Hid (KP w2 _ X12) := K11.out.on hb
  clear K11 hb
  have t1 := placed_same X12 (a := t) (b := u) (ca := tc) (cb := uc) (L := P4) (K12.out.pls (c := tc) (by simp)) (K12.out.pls (c := uc) (by simp)) (by omega)
  go_wp2_with fail
  with_reducible refine t1.mono ?_
  rintro e X13 ⟨rfl, hb⟩
  have K13 : Hid (KP w2 _ X13) := K12.out.on hb
  clear K12 hb
  have t1 := G9.out X13 _ K13.out
  clear G9 K13
  go_wp2_with fail
  with_reducible refine t1.mono ?_
  rintro e X14 ⟨n, nc, rfl, K14, N14, -⟩
  have t1 := G10.out X14 _ K14.out
  clear G10 K14
  go_wp2_with fail
  with_reducible refine t1.mono ?_
  rintro e X15 ⟨o, oc, rfl, K15, O15, B15⟩
  have N15 : Hid (KsAt X15 n P5) := N14.out.bel B15.out
  clear N14 B15
  have t1 := G11.out X15 _ K15.out
  clear G11 K15
  go_wp2_with fail
  with_reducible refine t1.mono ?_
  rintro e X16 ⟨v, vc, rfl, K16, V16, B16⟩
  have N16 : Hid (KsAt X16 n P5 ∧ KsAt X16 o P5) := ⟨N15.out.bel B16.out, O15.out.bel B16.out⟩
  clear N15 O15 B16
  have t1 := G12.out X16 _ K16.out
  clear G12 K16
  go_wp2_with fail
  with_reducible refine t1.mono ?_
  rintro e X17 ⟨z, zc, rfl, K17, Z17, B17⟩
  have N17 : Hid (KsAt X17 n P5 ∧ KsAt X17 o P5) := ⟨N16.out.1.bel B17.out, N16.out.2.bel B17.out⟩
  have t1 := pairs_same X17 (ca := vc) (cb := zc) (V16.out.bel B17.out) Z17.out n6
  clear N16 V16 B17 Z17
  go_wp2_with fail
  with_reducible refine t1.mono ?_
  rintro e X18 ⟨rfl, hb⟩
  have N18 : Hid (KsAt X18 n P5 ∧ KsAt X18 o P5) := ⟨N17.out.1.bel hb, N17.out.2.bel hb⟩
  have K18 : Hid (KP w2 _ X18) := K17.out.on hb
  have H18 : Hid (ZS w2 p P2.length t P4.length X18) := ⟨K18.out.1, Sz.of (c := pc) K18.out (by simp), Sz.of (c := tc) K18.out (by simp)⟩
  clear K17 N17 hb K18 t1
  go_wp2
  go_loopw [27] (fun u wr => ∃ k : Nat, k ≤ P5.length ∧ u = .int .i64 (k : Int) ∧ Hid (KsAt wr n P5 ∧ KsAt wr o P5) ∧ Hid (ZS w2 p P2.length t P4.length wr)) (fun u _ => P5.length - (intOf u).toNat)
  case atStart => exact ⟨0, by omega, rfl, N18, H18⟩
  case round =>
    obtain ⟨k, hk, rfl, HN, HZ⟩ := hrel
    by_cases hlt : k < P5.length
    · obtain ⟨j, hj⟩ : ∃ j, P5[k]? = some j := ⟨_, List.getElem?_eq_getElem hlt⟩
      obtain ⟨f, rfl, hf, a0⟩ := HN.out.1 k j hj
      obtain ⟨g, rfl, hg, b0⟩ := HN.out.2 k j hj
      have hi9 : (k : Int) < (P5.length : Int) := by omega
      clear hj
      go_wp2_with fail
      refine wp_region_bel (by kernel_rfl) (by kernel_rfl) ?_
      intro hne
      repeat go_big_quiet_step (fail)
      refine wpQuiet_nil ?_
      rintro _ ⟨uu, rfl⟩
      have HU1 : Hid (KsAt uu.w (some ⟨f, 0, none⟩) P5 ∧ KsAt uu.w (some ⟨g, 0, none⟩) P5) := ⟨HN.out.1.bel uu.h, HN.out.2.bel uu.h⟩
      have HU2 : Hid (ZS w2 p P2.length t P4.length uu.w) := HZ.out.on uu.h
      go_wp2
      go_roundw
      case rel => exact ⟨k + 1, by omega, by go_num, HU1, HU2⟩
      case measure => simp [intOf]; omega
    · go_wp2
      clear HN N18 H18
      go_loopw [28] (fun u wr => ∃ k : Nat, k ≤ P2.length ∧ u = .int .i64 (k : Int) ∧ Hid (ZS w2 p P2.length t P4.length wr)) (fun u _ => P2.length - (intOf u).toNat)
      case atStart => exact ⟨0, by omega, rfl, HZ⟩
      case round =>
        obtain ⟨k2, hk2, rfl, HZk2⟩ := hrel
        by_cases hltk2 : k2 < P2.length
        · obtain ⟨g, rfl, hg, hgl, hcs⟩ := HZk2.out.2.1.at hltk2
          obtain ⟨⟨v0, d0⟩, z0⟩ := hcs 0 (by omega)
          obtain ⟨⟨v1, d1⟩, z1⟩ := hcs 1 (by omega)
          obtain ⟨⟨v2, d2⟩, z2⟩ := hcs 2 (by omega)
          obtain ⟨⟨v3, d3⟩, z3⟩ := hcs 3 (by omega)
          rw [Nat.add_zero] at d0 z0
          clear hcs
          have hi9 : (k2 : Int) < (P2.length : Int) := by omega
          go_wp2
          go_roundw
          case rel => exact ⟨k2 + 1, by omega, by go_num, (((HZk2.out.set hg _ _).set hg _ _).set hg _ _).set hg _ _⟩
          case measure => simp [intOf]; omega
        · go_wp2
          go_loopw [29] (fun u wr => ∃ k : Nat, k ≤ P4.length ∧ u = .int .i64 (k : Int) ∧ Hid (ZS w2 p P2.length t P4.length wr)) (fun u _ => P4.length - (intOf u).toNat)
          case atStart => exact ⟨0, by omega, rfl, HZk2⟩
          case round =>
            obtain ⟨k3, hk3, rfl, HZk3⟩ := hrel
            by_cases hltk3 : k3 < P4.length
            · obtain ⟨g, rfl, hg, hgl, hcs⟩ := HZk3.out.2.2.at hltk3
              obtain ⟨⟨v0, d0⟩, z0⟩ := hcs 0 (by omega)
              obtain ⟨⟨v1, d1⟩, z1⟩ := hcs 1 (by omega)
              obtain ⟨⟨v2, d2⟩, z2⟩ := hcs 2 (by omega)
              obtain ⟨⟨v3, d3⟩, z3⟩ := hcs 3 (by omega)
              rw [Nat.add_zero] at d0 z0
              clear hcs
              have hi9 : (k3 : Int) < (P4.length : Int) := by omega
              go_wp2
              go_roundw
              case rel => exact ⟨k3 + 1, by omega, by go_num, (((HZk3.out.set hg _ _).set hg _ _).set hg _ _).set hg _ _⟩
              case measure => simp [intOf]; omega
            · go_wp2_with fail
              have px : Hid (PlsAt wr wr.heap.size xa A ∧ PlsAt wr wr.heap.size ya D ∧ PlsAt wr wr.heap.size a A ∧ PlsAt wr wr.heap.size d D ∧ Below w.heap.size w wr) := by
                have b := HZk3.out.1
                obtain ⟨f1, f2, f3, f4, f5⟩ := HF2.out
                exact ⟨(f1.below b (Nat.le_refl _)).more b.size, (f2.below b (Nat.le_refl _)).more b.size, (f3.below b (Nat.le_refl _)).more b.size, (f4.below b (Nat.le_refl _)).more b.size, f5.trans (b.mono f5.size)⟩
              have t1 := placed_long wr (ca := xc) (cb := ca) px.out.1 px.out.2.2.1 (by omega)
              with_reducible refine t1.mono ?_
              rintro e Y1 ⟨rfl, hb1⟩
              have t2 := placed_long Y1 (ca := yc) (cb := cd) ((px.out.2.1.below hb1 (Nat.le_refl _)).more hb1.size) ((px.out.2.2.2.1.below hb1 (Nat.le_refl _)).more hb1.size) (by omega)
              have HB1 : Hid (Below w.heap.size w Y1) := px.out.2.2.2.2.trans (hb1.mono px.out.2.2.2.2.size)
              clear hb1 t1
              go_wp2_with fail
              with_reducible refine t2.mono ?_
              rintro e Y2 ⟨rfl, hb2⟩
              have HB2 : Hid (Below w.heap.size w Y2) := HB1.out.trans (hb2.mono HB1.out.size)
              have t3 := lives_any Y2
              clear hb2 t2 HB1
              go_wp2_with fail
              with_reducible refine t3.mono ?_
              rintro e Y3 ⟨rfl, hb3⟩
              have HB3 : Hid (Below w.heap.size w Y3) := HB2.out.trans (hb3.mono HB2.out.size)
              clear hb3 t3 HB2
              go_wp2
              go_ret
              exact ⟨rfl, HB3.out⟩

end Go.Proofs.Ytafpfelgngniiaa
