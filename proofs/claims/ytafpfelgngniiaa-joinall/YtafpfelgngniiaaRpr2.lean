/- The document's Pairs: its walk. -/
import Derived.Test.YtafpfelgngniiaaRpr
namespace Go.Proofs.Ytafpfelgngniiaa
open Go.RowKit
set_option linter.unusedVariables false
attribute [local go_sem] Bel.cell Bel.fz

/-- Where Pairs is: so many of d are through, and of a so many with the next. -/
def RpS (X : World) (dr : Bool) (A D : List Pl) (L : List (Int × Int)) (oa : Option Addr) (n oc : Nat) (W : World) : Prop := n = L.length ∧ W.ownsRow X.heap.size 46 2 (.slice oa n oc) n (prCells L) ∧ Below X.heap.size X W

set_option maxRecDepth 100000 in
set_option maxHeartbeats 4000000 in
theorem rpairs_ok (w : World) {A D : List Pl} {a d : Option Addr} {ca cd : Nat} (dr : Bool) (hA : PlsAt w w.heap.size a A) (hD : PlsAt w w.heap.size d D) (hva : ∀ x ∈ A, Lvl x.s) (hvd : ∀ x ∈ D, Lvl x.s) (cA : A.length ≤ ca) (cD : D.length ≤ cd) (hy : errP A D = 0) :
    Calls Try.prog 7 #[.slice a A.length ca, .slice d D.length cd, .bool dr] w (PrP w (prL dr A D)) := by
  obtain ⟨hCan, lA, lD⟩ := err_can hy
  have hjn := rfits_any w (ca := ca) (cd := cd) hA hD hva hvd cA cD 0 (by rw [← err_eq]; exact hy)
  have HA : Hid (PlsAt w w.heap.size a A ∧ ∀ x ∈ A, Lvl x.s) := ⟨hA, hva⟩
  have HD : Hid (PlsAt w w.heap.size d D ∧ ∀ x ∈ D, Lvl x.s) := ⟨hD, hvd⟩
  have HCan : Hid (Can A D) := hCan
  have HQ1 : Hid (∀ X oa n oc, n ≤ 16384 → n = (prL dr A D).length → X.ownsRow w.heap.size 46 2 (.slice oa n oc) n (prCells (prL dr A D)) → Below w.heap.size w X → PrP w (prL dr A D) (.returned (.tuple #[.slice oa n oc, .int .i64 0])) X) := fun X oa n oc h0 hn h1 h2 => by
    subst hn
    unfold PrP
    rw [if_neg (by omega)]
    exact ⟨oa, oc, rfl, h1, h2⟩
  have HQ2 : Hid (∀ X, 16384 < (prL dr A D).length → Below w.heap.size w X → PrP w (prL dr A D) (.returned (.tuple #[.slice none 0 0, .int .i64 2])) X) := fun X h0 h2 => by
    unfold PrP
    rw [if_pos h0]
    exact ⟨none, 0, rfl, own_none _ _ _ _, h2⟩
  generalize PrP w (prL dr A D) = Q at HQ1 HQ2 ⊢
  clear hA hD hva hvd hy hCan
  go_enter Try.func7, Try.ntmps7
  go_wp2_with fail
  with_reducible refine hjn.mono ?_
  rintro e X ⟨rfl, hb⟩
  have HB : Hid (Below w.heap.size w X) := hb
  have hwX : w.heap.size ≤ X.heap.size := hb.size
  clear hb hjn
  go_wp2
  go_loopw [9, 10] (fun v9 v10 wr => ∃ (i : Nat) (oa : Option Addr) (n oc : Nat), i ≤ D.length ∧ v9 = .slice oa n oc ∧ v10 = .int .i64 (i : Int) ∧ n ≤ 16384 ∧ X.heap.size ≤ wr.heap.size ∧ Hid (RpS X dr A D (prL dr A (D.take i)) oa n oc wr)) (fun _ v _ => D.length - (intOf v).toNat)
  case atStart => exact ⟨0, _, 0, 0, by omega, rfl, rfl, by omega, by simp, rfl, own_new X 46 2, (Below.refl _ _).alloc (Nat.le_refl _) _⟩
  case round =>
    obtain ⟨i, oa, n, oc, hi, rfl, rfl, hn8, hxz, HS⟩ := hrel
    by_cases hlt : i < D.length
    · obtain ⟨y, hy⟩ : ∃ y, D[i]? = some y := ⟨_, List.getElem?_eq_getElem hlt⟩
      have HY : Hid (D[i]? = some y) := hy
      have hi9 : (i : Int) < (D.length : Int) := by omega
      have HSN : Hid (prL dr A (D.take (i + 1)) = prL dr A (D.take i) ++ prO A y (opn dr A y.s)) := prL_snoc hy
      have HPR : Hid (∀ k, k ≤ A.length → (prL dr A (D.take i) ++ prO A y (oD dr A y.s k)).length ≤ (prL dr A D).length) := fun k hk => by
        refine Nat.le_trans ?_ (prL_pre (i := i + 1))
        rw [HSN.out, List.length_append, List.length_append, prO_len (oD_lt hk), prO_len opn_lt]
        have := oD_pre (dr := dr) (s := y.s) hk
        omega
      have HS0 : Hid (RpS X dr A D (prL dr A (D.take i) ++ prO A y (oD dr A y.s 0)) oa n oc wr) := by
        have e : prL dr A (D.take i) ++ prO A y (oD dr A y.s 0) = prL dr A (D.take i) := by simp [oD, prO]
        rw [e]
        exact HS
      clear hy HS
      go_wp2
      go_loopw [9, 11] (fun v9 v11 wr => ∃ (k : Nat) (oa : Option Addr) (n oc : Nat), k ≤ A.length ∧ v9 = .slice oa n oc ∧ v11 = .int .i64 (k : Int) ∧ n ≤ 16384 ∧ X.heap.size ≤ wr.heap.size ∧ Hid (RpS X dr A D (prL dr A (D.take i) ++ prO A y (oD dr A y.s k)) oa n oc wr)) (fun _ v _ => A.length - (intOf v).toNat)
      case atStart => exact ⟨0, _, _, _, by omega, rfl, rfl, hn8, hxz, HS0.out⟩
      case round =>
        clear HS0 hxz hn8
        obtain ⟨k, oa, n, oc, hk, rfl, rfl, hn8, hxz, HS⟩ := hrel
        have hwr : Below w.heap.size w wr := HB.out.trans (HS.out.2.2.mono hwX)
        by_cases hkl : k < A.length
        · obtain ⟨x, hx⟩ : ∃ x, A[k]? = some x := ⟨_, List.getElem?_eq_getElem hkl⟩
          have HX : Hid (A[k]? = some x) := hx
          have hjx := fun W => rjoins_any W x.s y.s dr (HA.out.2 x (List.mem_of_getElem? hx)) (HD.out.2 y (List.mem_of_getElem? HY.out))
          obtain ⟨f, p, rfl, hf, p0, p1, p2, p3⟩ := (HA.out.1.below hwr (Nat.le_refl _)) k x hx
          obtain ⟨g, o, rfl, hg, c0, c1, c2, c3⟩ := (HD.out.1.below hwr (Nat.le_refl _)) i y HY.out
          have lf : f < wr.heap.size := by have := hwr.size; omega
          have lg : g < wr.heap.size := by have := hwr.size; omega
          have hk9 : (k : Int) < (A.length : Int) := by omega
          have hg1 : decide ((k : Int) < (A.length : Int)) = true := by simp; omega
          have hg2 : decide (k < A.length) = true := by simp; omega
          unfold sv at hjx
          clear hwr hx
          by_cases hb : x.s.b < y.s.b
          · have hg3 : decide (x.s.b < y.s.b) = true := by simp [hb]
            have HT : Hid (oD dr A y.s (k + 1) = oD dr A y.s k ++ (if jns dr x.s y.s then [k] else [])) := oD_snoc HX.out
            generalize jns dr x.s y.s = r at hjx HT
            go_wp2_with fail
            refine wp_region_bel (by kernel_rfl) (by kernel_rfl) ?_
            intro hne
            repeat go_big_quiet_step (fail)
            refine wpQuiet_nil ?_
            rintro _ ⟨u, rfl⟩
            go_wp2_with fail
            refine wp_region_belOf u (by kernel_rfl) (by kernel_rfl) ?_
            intro hne
            repeat go_big_quiet_step ((go_at_call 25; with_reducible exact Calls.bel_of (hjx _)))
            refine wpQuiet_nil ?_
            rintro _ ⟨v, rfl⟩
            have hxv : X.heap.size ≤ v.w.heap.size := Nat.le_trans hxz v.h.size
            have HV : Hid (RpS X dr A D (prL dr A (D.take i) ++ prO A y (oD dr A y.s k)) oa n oc v.w) := ⟨HS.out.1, own_tn HS.out.2.1 (Tn.bel v) (fun _ _ => id), HS.out.2.2.trans (v.h.mono hxz)⟩
            cases r with
            | false =>
              have HV2 : Hid (RpS X dr A D (prL dr A (D.take i) ++ prO A y (oD dr A y.s (k + 1))) oa n oc v.w) := by
                rw [HT.out]
                simpa using HV
              clear HS HV HT
              go_wp2
              go_roundw
              case rel => exact ⟨k + 1, oa, n, oc, by omega, rfl, by go_num, hn8, hxv, HV2⟩
              case measure => simp [intOf]; omega
            | true =>
              have hp1 : prO A y [k] = [(x.n, y.n)] := by simp [prO, HX.out]
              have HT2 : Hid (prL dr A (D.take i) ++ prO A y (oD dr A y.s (k + 1)) = prL dr A (D.take i) ++ prO A y (oD dr A y.s k) ++ [(x.n, y.n)]) := by
                show _ = _
                rw [HT.out, if_pos rfl, prO_app, hp1, List.append_assoc]
              by_cases hfull : 16384 ≤ n
              · have HX2 : Hid (Q (.returned (.tuple #[.slice none 0 0, .int .i64 2])) v.w) := HQ2.out v.w (by
                  have h1 := HPR.out (k + 1) (by omega)
                  rw [HT2.out, List.length_append, ← HV.out.1] at h1
                  simp at h1
                  omega) (HB.out.trans (HV.out.2.2.mono hwX))
                have hf9 : (16384 : Int) ≤ (n : Int) := by omega
                clear HS HV HT HT2 hp1
                go_wp2
                exact HX2.out
              · obtain ⟨xs, hxs⟩ : ∃ xs, prCells (prL dr A (D.take i) ++ prO A y (oD dr A y.s k)) = xs := ⟨_, rfl⟩
                have HN1 : Hid ((prL dr A (D.take i) ++ prO A y (oD dr A y.s (k + 1))).length = n + 1 ∧ prCells (prL dr A (D.take i) ++ prO A y (oD dr A y.s (k + 1))) = xs ++ prCells [(x.n, y.n)]) := ⟨by rw [HT2.out, List.length_append, ← HV.out.1]; rfl, by rw [HT2.out, prCells_append, hxs]⟩
                have hf9 : ¬ ((16384 : Int) ≤ (n : Int)) := by omega
                have tA : Tn (fun _ => False) v.w (v.w.alloc (.cells #[.int .u64 x.n, .int .u64 y.n] 46)) := (Tn.refl _ _).alloc _
                have hrow : v.w.ownsRow X.heap.size 46 2 (.slice oa n oc) n xs := by rw [← hxs]; exact HV.out.2.1
                have HOW : Hid ((v.w.alloc (.cells #[.int .u64 x.n, .int .u64 y.n] 46)).drew.ownsRow X.heap.size 46 2 (.slice oa n oc) n xs) := own_tn hrow tA.drew (fun _ _ => id)
                have HNX : Hid (∀ va vc w3, w3.ownsRow X.heap.size 46 2 (.slice va (n + 1) vc) (n + 1) (xs ++ prCells [(x.n, y.n)]) → (v.w.alloc (.cells #[.int .u64 x.n, .int .u64 y.n] 46)).drew.grownBy w3 (Value.slice oa n oc).ownBlock → X.heap.size ≤ w3.heap.size ∧ w3.ownsRow X.heap.size 46 2 (.slice va (n + 1) vc) (n + 1) (xs ++ prCells [(x.n, y.n)]) ∧ Below X.heap.size X w3) := fun va vc w3 q1 q2 => by
                  have tY : Tn (fun b => (Value.slice oa n oc).ownBlock = some b) (v.w.alloc (.cells #[.int .u64 x.n, .int .u64 y.n] 46)).drew w3 := ⟨q2.os, q2.tape, q2.output, q2.size, fun j hj hn => q2.block j hj (fun e => hn e.symm)⟩
                  have tW : Tn (fun b => (Value.slice oa n oc).ownBlock = some b) v.w w3 := (tA.drew.mono (fun _ _ h => h.elim)).trans tY (fun _ _ h => h)
                  have hb : Below X.heap.size X w3 := HV.out.2.2.trans (tW.below hxv (fun b hb => (own_block_lt hrow b hb).1))
                  exact ⟨hb.size, q1, hb⟩
                clear HS HV HT HT2 hp1 tA hrow hxs
                go_wp2_with fail
                go_region_law (refine step_app (by rfl) _ _ (by rfl) Try.underlying24 info46 rfl (by decide) X.heap.size (.slice oa n oc) n xs (by rfl) HOW.out (some ⟨v.w.heap.size, 0, none⟩) 1 1 (prCells [(x.n, y.n)]) (by rfl) (by rfl) (pr_news v.w x.n y.n) (prCells_one _) (by unfold maxLen; omega) (by omega) (by simp; omega) ?_; intro v1 w3 hown1 hg1 _ hat1; obtain ⟨va, vc, hvv⟩ := own_slice hown1; subst hvv; obtain ⟨hz3, HN2⟩ := HNX.out va vc w3 hown1 hg1; have HN3 : Hid (w3.ownsRow X.heap.size 46 2 (.slice va (n + 1) vc) (n + 1) (xs ++ prCells [(x.n, y.n)]) ∧ Below X.heap.size X w3) := HN2; clear hown1 hg1 hat1 HNX HOW HN2)
                all_goals (
                  go_wp2
                  go_roundw
                  case rel => exact ⟨k + 1, va, n + 1, vc, by omega, rfl, by go_num, by omega, hz3, HN1.out.1.symm, by rw [HN1.out.2]; exact HN3.out.1, HN3.out.2⟩
                  case measure => simp [intOf]; omega)
          · have hg3 : decide (x.s.b < y.s.b) = false := by simp; omega
            have HE : Hid (prL dr A (D.take (i + 1)) = prL dr A (D.take i) ++ prO A y (oD dr A y.s k)) := by
              show _ = _
              rw [HSN.out, oD_all HCan.out hk (fun z hz => by rw [HX.out] at hz; cases hz; omega)]
            go_wp2_with fail
            refine wp_region_bel (by kernel_rfl) (by kernel_rfl) ?_
            intro hne
            repeat go_big_quiet_step (fail)
            refine wpQuiet_nil ?_
            rintro _ ⟨u, rfl⟩
            have HU : Hid (X.heap.size ≤ u.w.heap.size ∧ RpS X dr A D (prL dr A (D.take (i + 1))) oa n oc u.w) := by
              show _ ∧ _
              rw [HE.out]
              exact ⟨Nat.le_trans hxz u.h.size, HS.out.1, own_tn HS.out.2.1 (Tn.bel u) (fun _ _ => id), HS.out.2.2.trans (u.h.mono hxz)⟩
            go_wp2
            go_roundw
            case rel => exact ⟨i + 1, oa, n, oc, by omega, rfl, by go_num, hn8, HU.out.1, HU.out.2⟩
            case measure => simp [intOf]; omega
        · have hkd : k = A.length := by omega
          have HE : Hid (prL dr A (D.take (i + 1)) = prL dr A (D.take i) ++ prO A y (oD dr A y.s k)) := by
            show _ = _
            rw [HSN.out, oD_all HCan.out hk (fun z hz => by rw [List.getElem?_eq_none (by omega)] at hz; cases hz)]
          have hg1 : decide ((k : Int) < (A.length : Int)) = false := by simp; omega
          have hg2 : decide (k < A.length) = false := by simp; omega
          clear hkd hwr
          go_wp2_with fail
          refine wp_region_bel (by kernel_rfl) (by kernel_rfl) ?_
          intro hne
          repeat go_big_quiet_step (fail)
          refine wpQuiet_nil ?_
          rintro _ ⟨u, rfl⟩
          have HU : Hid (X.heap.size ≤ u.w.heap.size ∧ RpS X dr A D (prL dr A (D.take (i + 1))) oa n oc u.w) := by
            show _ ∧ _
            rw [HE.out]
            exact ⟨Nat.le_trans hxz u.h.size, HS.out.1, own_tn HS.out.2.1 (Tn.bel u) (fun _ _ => id), HS.out.2.2.trans (u.h.mono hxz)⟩
          go_wp2
          go_roundw
          case rel => exact ⟨i + 1, oa, n, oc, by omega, rfl, by go_num, hn8, HU.out.1, HU.out.2⟩
          case measure => simp [intOf]; omega
    · have hil : i = D.length := by omega
      subst hil
      rw [List.take_length] at HS
      have HX : Hid (Q (.returned (.tuple #[.slice oa n oc, .int .i64 0])) wr) := HQ1.out wr oa n oc hn8 HS.out.1 (own_less HS.out.2.1 hwX) (HB.out.trans (HS.out.2.2.mono hwX))
      go_wp2
      exact HX.out

end Go.Proofs.Ytafpfelgngniiaa
