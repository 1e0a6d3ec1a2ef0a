/- JoinParts. -/
import Derived.Test.YtafpfelgngniiaaAll
import Derived.Test.YtafpfelgngniiaaPt
namespace Go.Proofs.Ytafpfelgngniiaa
open Go.RowKit
set_option linter.unusedVariables false
attribute [local go_sem] Bel.cell Bel.fz

/-- What is so in plain where the lists can be. -/
structure PtOk (D : List Pl) (P1 P2 : List (Int × Int)) (y1 y2 : Int) (I O : List Pl) (C : List Nat) (p : Pl → Bool) : Prop where
  both : I.length + O.length = D.length
  i1 : ∀ j y, D[j]? = some y → p y = true → I[cntP p D j]? = some y
  i0 : ∀ j y z, D[j]? = some y → p y = false → I[cntP p D j]? = some z → y.s.b < z.s.b
  o0 : ∀ j y, D[j]? = some y → p y = false → O[j - cntP p D j]? = some y
  e1 : y1 = 0 ∨ (y1 = 2 ∧ 16384 < C.sum)
  e2 : y1 = 0 → y2 = 0 ∧ C.sum = P1.length ∧ P2.Sublist P1
  big : C.sum ≤ 67108864
theorem ptOk {A D : List Pl} (h : errP A D = 0) : PtOk D (prE false A D) (prE true A D) (prY false A D) (prY true A D) (inE true false A D) (inE false false A D) (coE false A D) (fun y => decide (0 < (opn false A y.s).length)) := by
  obtain ⟨hCan, lA, lD⟩ := err_can h
  unfold prE prY inE coE
  simp only [if_pos h, inL_true, inL_false]
  have hs := rcL_sum false A D
  have hb : (prL false A D).length ≤ 67108864 := by
    have := prL_len false A D
    exact Nat.le_trans this (Nat.mul_le_mul lD lA)
  have hsub := prL_sub A D
  refine ⟨cnt_both _ D, fun j y hj hp => filt_at hj hp, fun j y z hj hp hz => filt_not hCan.rd hj hp hz, fun j y hj hp => ?_, ?_, ?_, by omega⟩
  · have := filt_at (p := fun y => !decide (0 < (opn false A y.s).length)) hj (by rw [hp]; rfl)
    rwa [cntP_both (fun y => decide (0 < (opn false A y.s).length)) (Nat.le_of_lt (List.getElem?_eq_some_iff.1 hj).1)] at this
  · by_cases h1 : 16384 < (prL false A D).length
    · exact .inr ⟨by rw [if_pos h1], by omega⟩
    · exact .inl (by rw [if_neg h1])
  · intro h1
    have h2 : ¬ 16384 < (prL false A D).length := by
      intro h3
      rw [if_pos h3] at h1
      cases h1
    have h3 : ¬ 16384 < (prL true A D).length := by
      have := hsub.length_le
      omega
    rw [if_neg h2, if_neg h3, if_neg h3]
    exact ⟨rfl, hs, hsub⟩
theorem ptErr {A D : List Pl} (h : errP A D ≠ 0) : prY false A D = errP A D ∧ prY true A D = errP A D := by
  unfold prY
  rw [if_neg h, if_neg h]
  exact ⟨rfl, rfl⟩

/-- What JoinParts holds on to. -/
structure JS (D : List Pl) (d : Option Addr) (P1 P2 : List (Int × Int)) (I O : List Pl) (C : List Nat) (l1 l2 i o n : Option Addr) (X : World) : Prop where
  pd : PlsAt X X.heap.size d D
  p1 : PrsAt X l1 P1
  p2 : PrsAt X l2 P2
  pi : PlsAt X X.heap.size i I
  po : PlsAt X X.heap.size o O
  pc : KsAt X n C
theorem PlsAt.bel {w w' : World} {a : Option Addr} {L : List Pl} (h : PlsAt w w.heap.size a L) (hb : Below w.heap.size w w') : PlsAt w' w'.heap.size a L := (h.below hb (Nat.le_refl _)).more hb.size
theorem PlsAt.bel' {w w' : World} {a : Option Addr} {L : List Pl} (h : PlsAt w w.heap.size a L) (hb : Below w.heap.size w w') : PlsAt w' w'.heap.size a L := h.bel hb
theorem JS.bel {D : List Pl} {d : Option Addr} {P1 P2 : List (Int × Int)} {I O : List Pl} {C : List Nat} {l1 l2 i o n : Option Addr} {X Y : World} (h : JS D d P1 P2 I O C l1 l2 i o n X) (hb : Below X.heap.size X Y) : JS D d P1 P2 I O C l1 l2 i o n Y :=
  ⟨h.pd.bel hb, h.p1.bel hb, h.p2.bel hb, h.pi.bel hb, h.po.bel hb, h.pc.bel hb⟩

/-- What is left of the pairs that are looked for lies in what is left of all. -/
theorem sub_step {P1 P2 : List (Int × Int)} {j k : Nat} {q : Int × Int} (hq : P2[j]? = some q) (h : (P2.drop j).Sublist (P1.drop k)) : k < P1.length ∧ ∃ x, P1[k]? = some x ∧ ((x ≠ q ∧ (P2.drop j).Sublist (P1.drop (k + 1))) ∨ (x = q ∧ (P2.drop (j + 1)).Sublist (P1.drop k))) := by
  have hj := (List.getElem?_eq_some_iff.1 hq).1
  have e : P2[j]'hj = q := (List.getElem?_eq_some_iff.1 hq).2
  have hd : P2.drop j = q :: P2.drop (j + 1) := by rw [← e]; exact (List.getElem_cons_drop hj).symm
  have hk : k < P1.length := by
    have := h.length_le
    simp at this
    omega
  have hd1 : P1.drop k = P1[k]'hk :: P1.drop (k + 1) := (List.getElem_cons_drop hk).symm
  refine ⟨hk, P1[k]'hk, List.getElem?_eq_getElem hk, ?_⟩
  by_cases hx : P1[k]'hk = q
  · refine .inr ⟨hx, ?_⟩
    rw [hd] at h
    exact (List.sublist_cons_self _ _).trans h
  · refine .inl ⟨hx, ?_⟩
    rw [hd, hd1] at h
    rw [hd]
    cases h with
    | cons _ h => exact h
    | cons_cons _ h => exact absurd rfl hx

set_option maxRecDepth 100000 in
set_option maxHeartbeats 8000000 in
theorem parts_walk (w : World) {A D : List Pl} {a d : Option Addr} {ca cd : Nat} (hA : PlsAt w w.heap.size a A) (hD : PlsAt w w.heap.size d D) (hva : ∀ x ∈ A, Lvl x.s) (hvd : ∀ x ∈ D, Lvl x.s) (cA : A.length ≤ ca) (cD : D.length ≤ cd)
    (mA : A.length ≤ maxLen) (sA : A.length * 32 ≤ 140737488355328) (mD : D.length ≤ maxLen) (sD : D.length * 32 ≤ 140737488355328) :
    Calls Try.prog 4 #[.slice a A.length ca, .slice d D.length cd] w fun e w' => e = .returned (.bool true) ∧ Below w.heap.size w w' := by
  have HCa : Hid (∀ X, Below w.heap.size w X → Calls Try.prog 5 #[.slice a A.length ca] X fun e Y => ∃ va vc, e = .returned (.slice va A.length vc) ∧ Hid (Below w.heap.size w Y) ∧ Hid (Below X.heap.size X Y) ∧ Hid (PlsAt Y Y.heap.size va A)) := fun X hX => by
    refine (copied_any X (ca := ca) ((hA.below hX (Nat.le_refl _)).more hX.size) mA sA).mono ?_
    rintro e Y ⟨va, vc, rfl, h1, h2⟩
    exact ⟨va, vc, rfl, hX.trans (h2.mono hX.size), h2, row_pls h1⟩
  have HCd : Hid (∀ X, Below w.heap.size w X → Calls Try.prog 5 #[.slice d D.length cd] X fun e Y => ∃ va vc, e = .returned (.slice va D.length vc) ∧ Hid (Below w.heap.size w Y) ∧ Hid (Below X.heap.size X Y) ∧ Hid (PlsAt Y Y.heap.size va D)) := fun X hX => by
    refine (copied_any X (ca := cd) ((hD.below hX (Nat.le_refl _)).more hX.size) mD sD).mono ?_
    rintro e Y ⟨va, vc, rfl, h1, h2⟩
    exact ⟨va, vc, rfl, hX.trans (h2.mono hX.size), h2, row_pls h1⟩
  have HF : Hid (PlsAt w w.heap.size d D) := hD
  have HC6 : Hid (∀ X xa xc ya yc, Below w.heap.size w X → PlsAt X X.heap.size xa A → PlsAt X X.heap.size ya D → Calls Try.prog 6 #[.slice xa A.length xc, .slice ya D.length yc, .bool false] X fun e Y => ∃ va vc, e = .returned (.tuple #[.slice va (prE false A D).length vc, .int .i64 (prY false A D)]) ∧ Hid (Below w.heap.size w Y) ∧ Hid (Below X.heap.size X Y) ∧ Hid (PrsAt Y va (prE false A D))) := fun X xa xc ya yc hX h1 h2 => by
    refine (pairs_any X false h1 h2 hva hvd).mono ?_
    rintro e Y ⟨va, vc, rfl, h3, h4⟩
    exact ⟨va, vc, rfl, hX.trans (h4.mono hX.size), h4, h3⟩
  have HC6t : Hid (∀ X xa xc ya yc, Below w.heap.size w X → PlsAt X X.heap.size xa A → PlsAt X X.heap.size ya D → Calls Try.prog 6 #[.slice xa A.length xc, .slice ya D.length yc, .bool true] X fun e Y => ∃ va vc, e = .returned (.tuple #[.slice va (prE true A D).length vc, .int .i64 (prY true A D)]) ∧ Hid (Below w.heap.size w Y) ∧ Hid (Below X.heap.size X Y) ∧ Hid (PrsAt Y va (prE true A D))) := fun X xa xc ya yc hX h1 h2 => by
    refine (pairs_any X true h1 h2 hva hvd).mono ?_
    rintro e Y ⟨va, vc, rfl, h3, h4⟩
    exact ⟨va, vc, rfl, hX.trans (h4.mono hX.size), h4, h3⟩
  have HC11 : Hid (∀ X xa xc ya yc, Below w.heap.size w X → PlsAt X X.heap.size xa A → PlsAt X X.heap.size ya D → Calls Try.prog 11 #[.slice xa A.length xc, .slice ya D.length yc, .bool false] X fun e Y => ∃ va vc, e = .returned (.tuple #[.slice va (inE true false A D).length vc, .int .i64 (errP A D)]) ∧ Hid (Below w.heap.size w Y) ∧ Hid (Below X.heap.size X Y) ∧ Hid (PlsAt Y Y.heap.size va (inE true false A D))) := fun X xa xc ya yc hX h1 h2 => by
    refine (inner_q X false h1 h2 hva hvd).mono ?_
    rintro e Y ⟨va, vc, rfl, -, h3, h4⟩
    exact ⟨va, vc, rfl, hX.trans (h4.mono hX.size), h4, h3⟩
  have HC13 : Hid (∀ X xa xc ya yc, Below w.heap.size w X → PlsAt X X.heap.size xa A → PlsAt X X.heap.size ya D → Calls Try.prog 13 #[.slice xa A.length xc, .slice ya D.length yc, .bool false] X fun e Y => ∃ va vc, e = .returned (.tuple #[.slice va (inE false false A D).length vc, .int .i64 (errP A D)]) ∧ Hid (Below w.heap.size w Y) ∧ Hid (Below X.heap.size X Y) ∧ Hid (PlsAt Y Y.heap.size va (inE false false A D))) := fun X xa xc ya yc hX h1 h2 => by
    refine (without_q X false h1 h2 hva hvd).mono ?_
    rintro e Y ⟨va, vc, rfl, -, h3, h4⟩
    exact ⟨va, vc, rfl, hX.trans (h4.mono hX.size), h4, h3⟩
  have HC16 : Hid (∀ X xa xc ya yc, Below w.heap.size w X → PlsAt X X.heap.size xa A → PlsAt X X.heap.size ya D → Calls Try.prog 16 #[.slice xa A.length xc, .slice ya D.length yc, .bool false] X fun e Y => ∃ va vc, e = .returned (.tuple #[.slice va (coE false A D).length vc, .int .i64 (errP A D)]) ∧ Hid (Below w.heap.size w Y) ∧ Hid (Below X.heap.size X Y) ∧ Hid (KsAt Y va (coE false A D))) := fun X xa xc ya yc hX h1 h2 => by
    refine (count_any X false h1 h2 hva hvd).mono ?_
    rintro e Y ⟨va, vc, rfl, h3, h4⟩
    exact ⟨va, vc, rfl, hX.trans (h4.mono hX.size), h4, h3⟩
  have HC21 : Hid (∀ X, Below w.heap.size w X → Calls Try.prog 21 #[.slice a A.length ca, .slice d D.length cd] X fun e Y => e = .returned (.int .i64 (errP A D)) ∧ Hid (Below w.heap.size w Y) ∧ Hid (Below X.heap.size X Y)) := fun X hX => by
    refine (rfits_any X (ca := ca) (cd := cd) (hA.bel' hX) (hD.bel' hX) hva hvd cA cD _ (err_eq A D).symm).mono ?_
    rintro e Y ⟨rfl, h2⟩
    exact ⟨rfl, hX.trans (h2.mono hX.size), h2⟩
  have HE0 : Hid (errP A D = 0 → ∃ p, PtOk D (prE false A D) (prE true A D) (prY false A D) (prY true A D) (inE true false A D) (inE false false A D) (coE false A D) p) := fun h => ⟨_, ptOk h⟩
  have HE1 : Hid (errP A D ≠ 0 → prY false A D = errP A D ∧ prY true A D = errP A D) := ptErr
  have n1 := prE_len false A D
  have n2 := prE_len true A D
  have n3 := inE_len true false A D
  have n4 := inE_len false false A D
  have n5 := coE_len false A D
  generalize prE false A D = P1 at HC6 HE0 n1
  generalize prE true A D = P2 at HC6t HE0 n2
  generalize prY false A D = y1 at HC6 HE0 HE1
  generalize prY true A D = y2 at HC6t HE0 HE1
  generalize inE true false A D = I at HC11 HE0 n3
  generalize inE false false A D = O at HC13 HE0 n4
  generalize coE false A D = C at HC16 HE0 n5
  generalize errP A D = y at HC11 HC13 HC16 HC21 HE0 HE1
  clear hA hD hva hvd cA cD mA mD
  have t1 := HCa.out w (Below.refl _ _)
  go_enter Try.func4, Try.ntmps4
  go_wp2_with fail
  with_reducible refine t1.mono ?_
  rintro e X1 ⟨xa, xc, rfl, W1, B1, R1⟩
  have t1 := HCd.out X1 W1.out
  go_wp2_with fail
  with_reducible refine t1.mono ?_
  rintro e X2 ⟨ya, yc, rfl, W2, B2, R2⟩
  have t1 := HC6.out X2 xa xc ya yc W2.out (R1.out.bel B2.out) R2.out
  go_wp2_with fail
  with_reducible refine t1.mono ?_
  rintro e X3 ⟨l1, k1, rfl, W3, -, Q1⟩
  clear W1 B1 R1 W2 B2 R2 HC6
  have t1 := HCa.out X3 W3.out
  go_wp2_with fail
  with_reducible refine t1.mono ?_
  rintro e X1 ⟨xa, xc, rfl, W1, B1, R1⟩
  have t1 := HCd.out X1 W1.out
  go_wp2_with fail
  with_reducible refine t1.mono ?_
  rintro e X2 ⟨ya, yc, rfl, W2, B2, R2⟩
  have t1 := HC6t.out X2 xa xc ya yc W2.out (R1.out.bel B2.out) R2.out
  go_wp2_with fail
  with_reducible refine t1.mono ?_
  rintro e X4 ⟨l2, k2, rfl, W4, B3, Q2⟩
  have Q1 : Hid (PrsAt X4 l1 P1) := ((Q1.out.bel B1.out).bel B2.out).bel B3.out
  clear W1 B1 R1 W2 B2 R2 B3 HC6t W3
  have t1 := HCa.out X4 W4.out
  go_wp2_with fail
  with_reducible refine t1.mono ?_
  rintro e X1 ⟨xa, xc, rfl, W1, B1, R1⟩
  have t1 := HCd.out X1 W1.out
  go_wp2_with fail
  with_reducible refine t1.mono ?_
  rintro e X2 ⟨ya, yc, rfl, W2, B2, R2⟩
  have t1 := HC11.out X2 xa xc ya yc W2.out (R1.out.bel B2.out) R2.out
  go_wp2_with fail
  with_reducible refine t1.mono ?_
  rintro e X5 ⟨i, ic, rfl, W5, B3, Q3⟩
  have Q12 : Hid (PrsAt X5 l1 P1 ∧ PrsAt X5 l2 P2) := ⟨((Q1.out.bel B1.out).bel B2.out).bel B3.out, ((Q2.out.bel B1.out).bel B2.out).bel B3.out⟩
  clear W1 B1 R1 W2 B2 R2 B3 HC11 W4 Q1 Q2
  have t1 := HCa.out X5 W5.out
  go_wp2_with fail
  with_reducible refine t1.mono ?_
  rintro e X1 ⟨xa, xc, rfl, W1, B1, R1⟩
  have t1 := HCd.out X1 W1.out
  go_wp2_with fail
  with_reducible refine t1.mono ?_
  rintro e X2 ⟨ya, yc, rfl, W2, B2, R2⟩
  have t1 := HC13.out X2 xa xc ya yc W2.out (R1.out.bel B2.out) R2.out
  go_wp2_with fail
  with_reducible refine t1.mono ?_
  rintro e X6 ⟨o, oc, rfl, W6, B3, Q4⟩
  have Q13 : Hid (PrsAt X6 l1 P1 ∧ PrsAt X6 l2 P2 ∧ PlsAt X6 X6.heap.size i I) := ⟨((Q12.out.1.bel B1.out).bel B2.out).bel B3.out, ((Q12.out.2.bel B1.out).bel B2.out).bel B3.out, ((Q3.out.bel B1.out).bel B2.out).bel B3.out⟩
  clear W1 B1 R1 W2 B2 R2 B3 HC13 W5 Q12 Q3
  have t1 := HCa.out X6 W6.out
  go_wp2_with fail
  with_reducible refine t1.mono ?_
  rintro e X1 ⟨xa, xc, rfl, W1, B1, R1⟩
  have t1 := HCd.out X1 W1.out
  go_wp2_with fail
  with_reducible refine t1.mono ?_
  rintro e X2 ⟨ya, yc, rfl, W2, B2, R2⟩
  have t1 := HC16.out X2 xa xc ya yc W2.out (R1.out.bel B2.out) R2.out
  go_wp2_with fail
  with_reducible refine t1.mono ?_
  rintro e X7 ⟨n, nc, rfl, W7, B3, Q5⟩
  have HJ : Hid (JS D d P1 P2 I O C l1 l2 i o n X7) := ⟨HF.out.bel' W7.out, ((Q13.out.1.bel B1.out).bel B2.out).bel B3.out, ((Q13.out.2.1.bel B1.out).bel B2.out).bel B3.out, ((Q13.out.2.2.bel B1.out).bel B2.out).bel B3.out, ((Q4.out.bel B1.out).bel B2.out).bel B3.out, Q5.out⟩
  clear W1 B1 R1 W2 B2 R2 B3 HC16 W6 Q13 Q4 Q5 HCa HCd
  have t1 := HC21.out X7 W7.out
  go_wp2_with fail
  with_reducible refine t1.mono ?_
  rintro e X8 ⟨rfl, W8, B8⟩
  have HJ : Hid (JS D d P1 P2 I O C l1 l2 i o n X8) := HJ.out.bel B8.out
  clear W7 B8 HC21 HF t1
  by_cases hy : y = 0
  · subst hy
    obtain ⟨p, hp⟩ := HE0.out rfl
    have HP : Hid (PtOk D P1 P2 y1 y2 I O C p) := hp
    have hb1 : (I.length : Int) + (O.length : Int) = (D.length : Int) := by have := hp.both; omega
    clear HE0 HE1 hp
    go_wp2
    go_loopw [15, 17] (fun u v wr => ∃ j : Nat, j ≤ D.length ∧ u = .int .i64 ((cntP p D j : Nat) : Int) ∧ v = .int .i64 (j : Int) ∧ Hid (Below w.heap.size w wr) ∧ Hid (JS D d P1 P2 I O C l1 l2 i o n wr)) (fun _ v _ => D.length - (intOf v).toNat)
    case atStart => exact ⟨0, by omega, rfl, rfl, W8, HJ⟩
    case round =>
      obtain ⟨j, hj, rfl, rfl, HW, HS⟩ := hrel
      by_cases hlt : j < D.length
      · obtain ⟨y, hy⟩ : ∃ y, D[j]? = some y := ⟨_, List.getElem?_eq_getElem hlt⟩
        obtain ⟨gd, od, rfl, hgd, d0, d1, d2, d3⟩ := HS.out.pd j y hy
        have hj9 : (j : Int) < (D.length : Int) := by omega
        have hle := cntP_le p D j
        have HK2 : Hid (cntP p D (j + 1) = cntP p D j + if p y then 1 else 0) := cntP_snoc hy
        cases hp : p y with
        | true =>
          have hI := HP.out.i1 j y hy hp
          generalize cntP p D j = K at HK2 hI hle ⊢
          obtain ⟨gi, oi, rfl, hgi, i0, i1, i2, i3⟩ := HS.out.pi K y hI
          have hK9 : (K : Int) < (I.length : Int) := by have := (List.getElem?_eq_some_iff.1 hI).1; omega
          have HK3 : Hid (cntP p D (j + 1) = K + 1) := by show _ = _; rw [HK2.out, if_pos hp]
          clear hI hy hp HK2
          go_wp2_with fail
          refine wp_region_bel (by kernel_rfl) (by kernel_rfl) ?_
          intro hne
          repeat go_big_quiet_step (fail)
          refine wpQuiet_nil ?_
          rintro _ ⟨uu, rfl⟩
          have HU1 : Hid (Below w.heap.size w uu.w) := HW.out.trans (uu.h.mono HW.out.size)
          have HU2 := HS.out.bel uu.h
          have HU3 : Hid _ := HU2
          clear HU2
          go_wp2
          go_roundw
          case rel => exact ⟨j + 1, by omega, by rw [HK3.out]; go_num, by go_num, HU1, HU3⟩
          case measure => simp [intOf]; omega
        | false =>
          have hO := HP.out.o0 j y hy hp
          have hI := fun z => HP.out.i0 j y z hy hp
          generalize cntP p D j = K at HK2 hI hO hle ⊢
          obtain ⟨m, hm0⟩ : ∃ m, m = j - K := ⟨_, rfl⟩
          rw [← hm0] at hO
          obtain ⟨go, oo, rfl, hgo, o0, o1, o2, o3⟩ := HS.out.po m y hO
          have hm : (j : Int) - (K : Int) = (m : Int) := by omega
          have hm9 : (m : Int) < (O.length : Int) := by have := (List.getElem?_eq_some_iff.1 hO).1; omega
          have hm8 : ¬ (O.length : Int) ≤ (m : Int) := by omega
          have hm7 : decide (O.length ≤ m) = false := decide_eq_false (by omega)
          have hm6 : decide ((O.length : Int) ≤ (m : Int)) = false := decide_eq_false (by omega)
          have HK3 : Hid (cntP p D (j + 1) = K) := by show _ = _; rw [HK2.out, if_neg (by simp [hp])]; rfl
          clear hO hy hp HK2 hm0
          by_cases hK : K < I.length
          · obtain ⟨z, hz⟩ : ∃ z, I[K]? = some z := ⟨_, List.getElem?_eq_getElem hK⟩
            obtain ⟨gi, oi, rfl, hgi, i0, i1, i2, i3⟩ := HS.out.pi K z hz
            have hK9 : (K : Int) < (I.length : Int) := by omega
            have hzy : ¬ z.s.b = y.s.b := by have := hI z hz; omega
            clear hI hz
            go_wp2_with fail
            refine wp_region_bel (by kernel_rfl) (by kernel_rfl) ?_
            intro hne
            repeat go_big_quiet_step (fail)
            refine wpQuiet_nil ?_
            rintro _ ⟨uu, rfl⟩
            have HU1 : Hid (Below w.heap.size w uu.w) := HW.out.trans (uu.h.mono HW.out.size)
            have HU2 : Hid _ := HS.out.bel uu.h
            have q0 : uu.w.cell? ⟨gd, od + j * 4, none⟩ = some (.int .u64 y.n) := (uu.h.cell (p := ⟨gd, od + j * 4, none⟩) hgd).trans d0
            have q1 : uu.w.cell? ⟨gd, od + j * 4 + 1, none⟩ = some (.int .u64 y.s.b) := (uu.h.cell (p := ⟨gd, od + j * 4 + 1, none⟩) hgd).trans d1
            have q2 : uu.w.cell? ⟨gd, od + j * 4 + 2, none⟩ = some (.int .u64 y.s.e) := (uu.h.cell (p := ⟨gd, od + j * 4 + 2, none⟩) hgd).trans d2
            have q3 : uu.w.cell? ⟨gd, od + j * 4 + 3, none⟩ = some (.int .i64 y.s.l) := (uu.h.cell (p := ⟨gd, od + j * 4 + 3, none⟩) hgd).trans d3
            have r0 : uu.w.cell? ⟨go, oo + m * 4, none⟩ = some (.int .u64 y.n) := (uu.h.cell (p := ⟨go, oo + m * 4, none⟩) hgo).trans o0
            have r1 : uu.w.cell? ⟨go, oo + m * 4 + 1, none⟩ = some (.int .u64 y.s.b) := (uu.h.cell (p := ⟨go, oo + m * 4 + 1, none⟩) hgo).trans o1
            have r2 : uu.w.cell? ⟨go, oo + m * 4 + 2, none⟩ = some (.int .u64 y.s.e) := (uu.h.cell (p := ⟨go, oo + m * 4 + 2, none⟩) hgo).trans o2
            have r3 : uu.w.cell? ⟨go, oo + m * 4 + 3, none⟩ = some (.int .i64 y.s.l) := (uu.h.cell (p := ⟨go, oo + m * 4 + 3, none⟩) hgo).trans o3
            have hgd2 : gd < uu.w.heap.size := Nat.lt_of_lt_of_le hgd uu.h.size
            have hgo2 : go < uu.w.heap.size := Nat.lt_of_lt_of_le hgo uu.h.size
            obtain ⟨Y, hY⟩ : ∃ Y, uu.w = Y := ⟨_, rfl⟩
            rw [hY] at HU1 HU2 q0 q1 q2 q3 r0 r1 r2 r3 hgd2 hgo2 ⊢
            clear hY uu hne
            go_wp2_with fail
            refine wp_region_bel (by kernel_rfl) (by kernel_rfl) ?_
            intro hne
            repeat go_big_quiet_step (fail)
            refine wpQuiet_nil ?_
            rintro _ ⟨uu, rfl⟩
            have HV1 : Hid (Below w.heap.size w uu.w) := HU1.out.trans (uu.h.mono HU1.out.size)
            have HV3 : Hid _ := HU2.out.bel uu.h
            go_wp2
            go_roundw
            case rel => exact ⟨j + 1, by omega, by rw [HK3.out], by go_num, HV1, HV3⟩
            case measure => simp [intOf]; omega
          · have hK9 : ¬ (K : Int) < (I.length : Int) := by omega
            clear hI
            go_wp2_with fail
            refine wp_region_bel (by kernel_rfl) (by kernel_rfl) ?_
            intro hne
            repeat go_big_quiet_step (fail)
            refine wpQuiet_nil ?_
            rintro _ ⟨uu, rfl⟩
            have HU1 : Hid (Below w.heap.size w uu.w) := HW.out.trans (uu.h.mono HW.out.size)
            have HU2 : Hid _ := HS.out.bel uu.h
            have q0 : uu.w.cell? ⟨gd, od + j * 4, none⟩ = some (.int .u64 y.n) := (uu.h.cell (p := ⟨gd, od + j * 4, none⟩) hgd).trans d0
            have q1 : uu.w.cell? ⟨gd, od + j * 4 + 1, none⟩ = some (.int .u64 y.s.b) := (uu.h.cell (p := ⟨gd, od + j * 4 + 1, none⟩) hgd).trans d1
            have q2 : uu.w.cell? ⟨gd, od + j * 4 + 2, none⟩ = some (.int .u64 y.s.e) := (uu.h.cell (p := ⟨gd, od + j * 4 + 2, none⟩) hgd).trans d2
            have q3 : uu.w.cell? ⟨gd, od + j * 4 + 3, none⟩ = some (.int .i64 y.s.l) := (uu.h.cell (p := ⟨gd, od + j * 4 + 3, none⟩) hgd).trans d3
            have r0 : uu.w.cell? ⟨go, oo + m * 4, none⟩ = some (.int .u64 y.n) := (uu.h.cell (p := ⟨go, oo + m * 4, none⟩) hgo).trans o0
            have r1 : uu.w.cell? ⟨go, oo + m * 4 + 1, none⟩ = some (.int .u64 y.s.b) := (uu.h.cell (p := ⟨go, oo + m * 4 + 1, none⟩) hgo).trans o1
            have r2 : uu.w.cell? ⟨go, oo + m * 4 + 2, none⟩ = some (.int .u64 y.s.e) := (uu.h.cell (p := ⟨go, oo + m * 4 + 2, none⟩) hgo).trans o2
            have r3 : uu.w.cell? ⟨go, oo + m * 4 + 3, none⟩ = some (.int .i64 y.s.l) := (uu.h.cell (p := ⟨go, oo + m * 4 + 3, none⟩) hgo).trans o3
            have hgd2 : gd < uu.w.heap.size := Nat.lt_of_lt_of_le hgd uu.h.size
            have hgo2 : go < uu.w.heap.size := Nat.lt_of_lt_of_le hgo uu.h.size
            obtain ⟨Y, hY⟩ : ∃ Y, uu.w = Y := ⟨_, rfl⟩
            rw [hY] at HU1 HU2 q0 q1 q2 q3 r0 r1 r2 r3 hgd2 hgo2 ⊢
            clear hY uu hne
            go_wp2_with fail
            refine wp_region_bel (by kernel_rfl) (by kernel_rfl) ?_
            intro hne
            repeat go_big_quiet_step (fail)
            refine wpQuiet_nil ?_
            rintro _ ⟨uu, rfl⟩
            have HV1 : Hid (Below w.heap.size w uu.w) := HU1.out.trans (uu.h.mono HU1.out.size)
            have HV3 : Hid _ := HU2.out.bel uu.h
            go_wp2
            go_roundw
            case rel => exact ⟨j + 1, by omega, by rw [HK3.out], by go_num, HV1, HV3⟩
            case measure => simp [intOf]; omega
      · have hbig := HP.out.big
        clear HJ W8
        go_wp2
        go_loopw [16, 18] (fun u v wr => ∃ j : Nat, j ≤ C.length ∧ u = .int .i64 (((C.take j).sum : Nat) : Int) ∧ v = .int .i64 (j : Int) ∧ Hid (Below w.heap.size w wr) ∧ Hid (JS D d P1 P2 I O C l1 l2 i o n wr)) (fun _ v _ => C.length - (intOf v).toNat)
        case atStart => exact ⟨0, by omega, rfl, rfl, HW, HS⟩
        case round =>
          obtain ⟨j2, hj2, rfl, rfl, HW2, HS2⟩ := hrel
          by_cases hlt2 : j2 < C.length
          · obtain ⟨c, hc⟩ : ∃ c, C[j2]? = some c := ⟨_, List.getElem?_eq_getElem hlt2⟩
            obtain ⟨g, rfl, hg, a0⟩ := HS2.out.pc j2 c hc
            have hi9 : (j2 : Int) < (C.length : Int) := by omega
            have hs : (C.take (j2 + 1)).sum = (C.take j2).sum + c := by rw [take_snoc hc]; simp
            have hs2 : (C.take (j2 + 1)).sum ≤ C.sum := by
              conv => rhs; rw [← List.take_append_drop (j2 + 1) C]
              rw [List.sum_append]
              omega
            obtain ⟨s2, hq⟩ : ∃ s2, (C.take (j2 + 1)).sum = s2 := ⟨_, rfl⟩
            rw [hq] at hs hs2
            have HQ : Hid ((C.take (j2 + 1)).sum = s2) := hq
            generalize (C.take j2).sum = s1 at hs ⊢
            have HS9 : Hid (s2 = s1 + c) := hs
            have hs3 : (s1 : Int) + (c : Int) < 9223372036854775808 := by omega
            clear hc hs hq
            go_wp2
            go_roundw
            case rel => exact ⟨j2 + 1, by omega, by rw [HQ.out, HS9.out]; go_num, by go_num, HW2, HS2⟩
            case measure => simp [intOf]; omega
          · have hjj : j2 = C.length := by omega
            have hsum : (C.take j2).sum = C.sum := by rw [hjj, List.take_length]
            rw [hsum]
            clear hsum hjj
            rcases HP.out.e1 with h1 | ⟨h1, h2⟩
            · obtain ⟨e1, e2, e3⟩ := HP.out.e2 h1
              have HU : Hid (C.sum = P1.length ∧ P2.Sublist P1) := ⟨e2, e3⟩
              subst h1 e1
              rw [e2]
              clear e2 e3
              go_wp2
              go_loopw [15, 19] (fun u v wr => ∃ j k : Nat, j ≤ P2.length ∧ k ≤ P1.length ∧ u = .int .i64 (k : Int) ∧ v = .int .i64 (j : Int) ∧ Hid ((P2.drop j).Sublist (P1.drop k)) ∧ Hid (Below w.heap.size w wr) ∧ Hid (JS D d P1 P2 I O C l1 l2 i o n wr)) (fun _ v _ => P2.length - (intOf v).toNat)
              case atStart => exact ⟨0, 0, by omega, by omega, rfl, rfl, by show List.Sublist _ _; simpa using HU.out.2, HW2, HS2⟩
              case round =>
                obtain ⟨j3, k3, hj3, hk3, rfl, rfl, HB3, HW3, HS3⟩ := hrel
                by_cases hlt3 : j3 < P2.length
                · obtain ⟨q, hq⟩ : ∃ q, P2[j3]? = some q := ⟨_, List.getElem?_eq_getElem hlt3⟩
                  have hq9 : (j3 : Int) < (P2.length : Int) := by omega
                  have HQ : Hid (P2[j3]? = some q) := hq
                  clear hq
                  go_wp2
                  go_loopw [15] (fun u wr => ∃ k : Nat, k ≤ P1.length ∧ u = .int .i64 (k : Int) ∧ Hid ((P2.drop j3).Sublist (P1.drop k)) ∧ Hid (Below w.heap.size w wr) ∧ Hid (JS D d P1 P2 I O C l1 l2 i o n wr)) (fun u _ => P1.length - (intOf u).toNat)
                  case atStart => exact ⟨k3, hk3, rfl, HB3, HW3, HS3⟩
                  case round =>
                    obtain ⟨k4, hk4, rfl, HB4, HW4, HS4⟩ := hrel
                    obtain ⟨hk5, x, hx, hcase⟩ := sub_step HQ.out HB4.out
                    obtain ⟨g1, o1, rfl, hg1, a0, a1⟩ := HS4.out.p1 k4 x hx
                    obtain ⟨g2, o2, rfl, hg2, b0, b1⟩ := HS4.out.p2 j3 q HQ.out
                    have hk9 : (k4 : Int) < (P1.length : Int) := by omega
                    clear hx
                    obtain ⟨x1, x2⟩ := x
                    obtain ⟨q1, q2⟩ := q
                    rcases hcase with ⟨hn, hsub⟩ | ⟨he, hsub⟩
                    · have HB5 : Hid ((P2.drop j3).Sublist (P1.drop (k4 + 1))) := hsub
                      clear hsub
                      by_cases h1 : x1 = q1
                      · subst h1
                        have h2 : ¬ x2 = q2 := fun h => hn (by rw [h])
                        clear hn
                        go_wp2_with fail
                        refine wp_region_bel (by kernel_rfl) (by kernel_rfl) ?_
                        intro hne
                        repeat go_big_quiet_step (fail)
                        refine wpQuiet_nil ?_
                        rintro _ ⟨uu, rfl⟩
                        have HU1 : Hid (Below w.heap.size w uu.w) := HW4.out.trans (uu.h.mono HW4.out.size)
                        have HU2 : Hid _ := HS4.out.bel uu.h
                        go_wp2
                        go_roundw
                        case rel => exact ⟨k4 + 1, by omega, by go_num, HB5, HU1, HU2⟩
                        case measure => simp [intOf]; omega
                      · clear hn
                        go_wp2_with fail
                        refine wp_region_bel (by kernel_rfl) (by kernel_rfl) ?_
                        intro hne
                        repeat go_big_quiet_step (fail)
                        refine wpQuiet_nil ?_
                        rintro _ ⟨uu, rfl⟩
                        have HU1 : Hid (Below w.heap.size w uu.w) := HW4.out.trans (uu.h.mono HW4.out.size)
                        have HU2 : Hid _ := HS4.out.bel uu.h
                        go_wp2
                        go_roundw
                        case rel => exact ⟨k4 + 1, by omega, by go_num, HB5, HU1, HU2⟩
                        case measure => simp [intOf]; omega
                    · have HB5 : Hid ((P2.drop (j3 + 1)).Sublist (P1.drop k4)) := hsub
                      simp only [Prod.mk.injEq] at he
                      obtain ⟨rfl, rfl⟩ := he
                      have hkk : ¬ (k4 : Int) = (P1.length : Int) := by omega
                      clear hsub
                      go_wp2_with fail
                      refine wp_region_bel (by kernel_rfl) (by kernel_rfl) ?_
                      intro hne
                      repeat go_big_quiet_step (fail)
                      refine wpQuiet_nil ?_
                      rintro _ ⟨uu, rfl⟩
                      have HU1 : Hid (Below w.heap.size w uu.w) := HW4.out.trans (uu.h.mono HW4.out.size)
                      have HU2 : Hid _ := HS4.out.bel uu.h
                      go_wp2
                      go_roundw
                      case rel => exact ⟨j3 + 1, k4, by omega, by omega, rfl, by go_num, HB5, HU1, HU2⟩
                      case measure => simp [intOf]; omega
                · have t1 := lives_any wr
                  go_wp2_with fail
                  with_reducible refine t1.mono ?_
                  rintro e X9 ⟨rfl, hb9⟩
                  have HB9 : Hid (Below w.heap.size w X9) := HW3.out.trans (hb9.mono HW3.out.size)
                  clear hb9 t1
                  go_wp2
                  go_ret
                  exact ⟨rfl, HB9.out⟩
            · subst h1
              have h3 : (16384 : Int) < (C.sum : Int) := by omega
              generalize C.sum = s at h3 ⊢
              go_wp2
              go_ret
              exact ⟨rfl, HW2.out⟩
  · obtain ⟨h1, h2⟩ := HE1.out hy
    subst h1 h2
    clear HE0 HE1
    have t1 := lives_any X8
    go_wp2_with fail
    with_reducible refine t1.mono ?_
    rintro e X9 ⟨rfl, hb9⟩
    have HB9 : Hid (Below w.heap.size w X9) := W8.out.trans (hb9.mono W8.out.size)
    clear hb9 t1 W8
    go_wp2
    go_ret
    exact ⟨rfl, HB9.out⟩

end Go.Proofs.Ytafpfelgngniiaa
