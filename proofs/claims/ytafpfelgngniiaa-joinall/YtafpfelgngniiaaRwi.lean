/- The document's within. -/
import Derived.Test.YtafpfelgngniiaaRjn
import Derived.Test.YtafpfelgngniiaaRft
import Derived.Test.YtafpfelgngniiaaCou
namespace Go.Proofs.Ytafpfelgngniiaa
open Go.RowKit
set_option linter.unusedVariables false
attribute [local go_sem] Bel.cell Bel.fz

theorem opn_pos {dr : Bool} {A : List Pl} {s : Sp} : decide (0 < (opn dr A s).length) = A.any (fun x => jns dr x.s s) := by
  rw [Bool.eq_iff_iff, decide_eq_true_eq, List.length_pos_iff_exists_mem, List.any_eq_true]
  constructor
  · rintro ⟨k, hk⟩
    simp only [opn, List.mem_filter, List.mem_range] at hk
    obtain ⟨h1, h2⟩ := hk
    rw [List.getElem?_eq_getElem h1] at h2
    exact ⟨_, List.getElem_mem h1, h2⟩
  · rintro ⟨x, hx, hj⟩
    obtain ⟨k, hk, e⟩ := List.getElem_of_mem hx
    refine ⟨k, ?_⟩
    simp only [opn, List.mem_filter, List.mem_range]
    refine ⟨hk, ?_⟩
    rw [List.getElem?_eq_getElem hk, e]
    exact hj

set_option maxRecDepth 100000 in
theorem rwithin_err (w : World) {A D : List Pl} {a d : Option Addr} {ca cd : Nat} (dr s : Bool) (hA : PlsAt w w.heap.size a A) (hD : PlsAt w w.heap.size d D) (hva : ∀ x ∈ A, Lvl x.s) (hvd : ∀ x ∈ D, Lvl x.s) (cA : A.length ≤ ca) (cD : D.length ≤ cd) (y : Int) (hy : errP A D = y) (hne : y ≠ 0) :
    Calls Try.prog 28 #[.slice a A.length ca, .slice d D.length cd, .bool dr, .bool s] w (LsP w 41 4 0 [] y) := by
  have hjn := rfits_any w (ca := ca) (cd := cd) hA hD hva hvd cA cD y (by rw [← err_eq]; exact hy)
  have HR : Hid (∀ X, Below w.heap.size w X → LsP w 41 4 0 [] y (.returned (.tuple #[.slice none 0 0, .int .i64 y])) X) := fun X h => ⟨none, 0, rfl, own_none _ _ _ _, h⟩
  generalize LsP w 41 4 0 [] y = Q at HR ⊢
  clear hA hD hva hvd hy
  go_enter Try.func28, Try.ntmps28
  go_wp2_with fail
  with_reducible refine hjn.mono ?_
  rintro e X ⟨rfl, hb⟩
  have HX : Hid (Q (.returned (.tuple #[.slice none 0 0, .int .i64 y])) X) := HR.out X hb
  clear hb hjn HR
  go_wp2
  exact HX.out

set_option maxRecDepth 100000 in
set_option maxHeartbeats 4000000 in
theorem rwithin_ok (w : World) {A D : List Pl} {a d : Option Addr} {ca cd : Nat} (dr s : Bool) (hA : PlsAt w w.heap.size a A) (hD : PlsAt w w.heap.size d D) (hva : ∀ x ∈ A, Lvl x.s) (hvd : ∀ x ∈ D, Lvl x.s) (cA : A.length ≤ ca) (cD : D.length ≤ cd) (hy : errP A D = 0) :
    Calls Try.prog 28 #[.slice a A.length ca, .slice d D.length cd, .bool dr, .bool s] w (LsP w 41 4 (inL s dr A D).length (plCells (inL s dr A D)) 0) := by
  obtain ⟨hCan, lA, lD⟩ := err_can hy
  have hjn := rfits_any w (ca := ca) (cd := cd) hA hD hva hvd cA cD 0 (by rw [← err_eq]; exact hy)
  have HA : Hid (PlsAt w w.heap.size a A ∧ ∀ x ∈ A, Lvl x.s) := ⟨hA, hva⟩
  have HD : Hid (PlsAt w w.heap.size d D ∧ ∀ x ∈ D, Lvl x.s) := ⟨hD, hvd⟩
  have HQ : Hid (∀ X oa oc, X.ownsRow w.heap.size 41 4 (.slice oa (inL s dr A D).length oc) (inL s dr A D).length (plCells (inL s dr A D)) → Below w.heap.size w X → LsP w 41 4 (inL s dr A D).length (plCells (inL s dr A D)) 0 (.returned (.tuple #[.slice oa (inL s dr A D).length oc, .int .i64 0])) X) := fun X oa oc h1 h2 => ⟨oa, oc, rfl, h1, h2⟩
  generalize LsP w 41 4 (inL s dr A D).length (plCells (inL s dr A D)) 0 = Q at HQ ⊢
  clear hA hD hva hvd hy hCan
  go_enter Try.func28, Try.ntmps28
  go_wp2_with fail
  with_reducible refine hjn.mono ?_
  rintro e X ⟨rfl, hb⟩
  have HB : Hid (Below w.heap.size w X) := hb
  have hwX : w.heap.size ≤ X.heap.size := hb.size
  clear hb hjn
  go_wp2
  go_loopw [11, 12] (fun v11 v12 wr => ∃ (i : Nat) (oa : Option Addr) (oc : Nat), i ≤ D.length ∧ v11 = .slice oa (inL s dr A (D.take i)).length oc ∧ v12 = .int .i64 (i : Int) ∧ X.heap.size ≤ wr.heap.size ∧ Hid (wr.ownsRow X.heap.size 41 4 (.slice oa (inL s dr A (D.take i)).length oc) (inL s dr A (D.take i)).length (plCells (inL s dr A (D.take i))) ∧ Below X.heap.size X wr)) (fun _ v _ => D.length - (intOf v).toNat)
  case atStart => exact ⟨0, _, 0, by omega, rfl, rfl, by simp, own_new X 41 4, (Below.refl _ _).alloc (Nat.le_refl _) _⟩
  case round =>
    obtain ⟨i, oa, oc, hi, rfl, rfl, hxz, HS⟩ := hrel
    by_cases hlt : i < D.length
    · obtain ⟨y, hy⟩ : ∃ y, D[i]? = some y := ⟨_, List.getElem?_eq_getElem hlt⟩
      have hsn := inL_snoc (s := s) (dr := dr) (A := A) hy
      have hln := inL_len s dr A D i
      have HY : Hid (D[i]? = some y) := hy
      have hi9 : (i : Int) < (D.length : Int) := by omega
      obtain ⟨n, hn⟩ : ∃ n, (inL s dr A (D.take i)).length = n := ⟨_, rfl⟩
      obtain ⟨xs, hxs⟩ : ∃ xs, plCells (inL s dr A (D.take i)) = xs := ⟨_, rfl⟩
      have HSN : Hid (inL s dr A (D.take (i + 1)) = inL s dr A (D.take i) ++ (if (A.any (fun x => jns dr x.s y.s) == s) then [y] else [])) := by rw [opn_pos] at hsn; exact hsn
      have HN : Hid ((inL s dr A (D.take i)).length = n ∧ plCells (inL s dr A (D.take i)) = xs) := ⟨hn, hxs⟩
      rw [hn] at HS hln ⊢
      rw [hxs] at HS
      clear hsn hn hxs hy
      go_wp2
      obtain ⟨W1, hW1⟩ : ∃ W1, W1 = wr := ⟨wr, rfl⟩
      rw [← hW1] at HS hxz ⊢
      clear hW1 wr
      go_loopw [13, 14] (fun v13 v14 wi => ∃ k : Nat, k ≤ A.length ∧ v13 = .bool ((A.take k).any (fun x => jns dr x.s y.s)) ∧ v14 = .int .i64 (k : Int) ∧ W1.heap.size ≤ wi.heap.size ∧ Hid (Below W1.heap.size W1 wi)) (fun _ v _ => A.length - (intOf v).toNat)
      case atStart => exact ⟨0, by omega, rfl, rfl, Nat.le_refl _, Below.refl _ _⟩
      case round =>
        obtain ⟨k, hk, rfl, rfl, hwz, HI⟩ := hrel
        have hwr : Below w.heap.size w wr := HB.out.trans ((HS.out.2.mono hwX).trans (HI.out.mono (by omega)))
        obtain ⟨z, hz⟩ : ∃ z, (A.take k).any (fun x => jns dr x.s y.s) = z := ⟨_, rfl⟩
        have HZ : Hid ((A.take k).any (fun x => jns dr x.s y.s) = z) := hz
        rw [hz]
        clear hz
        by_cases hgo : k < A.length ∧ z = false
        · obtain ⟨hkl, rfl⟩ := hgo
          obtain ⟨x, hx⟩ : ∃ x, A[k]? = some x := ⟨_, List.getElem?_eq_getElem hkl⟩
          have hjx := fun W => rjoins_any W x.s y.s dr (HA.out.2 x (List.mem_of_getElem? hx)) (HD.out.2 y (List.mem_of_getElem? HY.out))
          obtain ⟨f, p, rfl, hf, p0, p1, p2, p3⟩ := (HA.out.1.below hwr (Nat.le_refl _)) k x hx
          obtain ⟨g, o, rfl, hg, c0, c1, c2, c3⟩ := (HD.out.1.below hwr (Nat.le_refl _)) i y HY.out
          have lf : f < wr.heap.size := by have := hwr.size; omega
          have lg : g < wr.heap.size := by have := hwr.size; omega
          have hk9 : (k : Int) < (A.length : Int) := by omega
          have HT : Hid ((A.take (k + 1)).any (fun x => jns dr x.s y.s) = jns dr x.s y.s) := by
            show _ = _
            rw [take_snoc hx, List.any_append, HZ.out]
            simp
          unfold sv at hjx
          generalize jns dr x.s y.s = r at hjx HT
          clear hwr hx p0 c0
          go_wp2_with fail
          refine wp_region_bel (by kernel_rfl) (by kernel_rfl) ?_
          intro hne
          repeat go_big_quiet_step ((go_at_call 25; with_reducible exact Calls.bel_of (hjx _)))
          refine wpQuiet_nil ?_
          rintro _ ⟨u, rfl⟩
          have HU : Hid (W1.heap.size ≤ u.w.heap.size ∧ Below W1.heap.size W1 u.w) := ⟨Nat.le_trans hwz u.h.size, HI.out.trans (u.h.mono hwz)⟩
          go_wp2
          go_roundw
          case rel => exact ⟨k + 1, by omega, by rw [HT.out], by go_num, HU.out.1, HU.out.2⟩
          case measure => simp [intOf]; omega
        · have HAny : Hid (A.any (fun x => jns dr x.s y.s) = z) := by
            show _ = _
            by_cases hkl : k < A.length
            · have hz1 : z = true := by cases z <;> simp_all
              subst hz1
              have h := HZ.out
              rw [List.any_eq_true] at h ⊢
              obtain ⟨q, hq, hj⟩ := h
              exact ⟨q, List.mem_of_mem_take hq, hj⟩
            · have := HZ.out
              rwa [List.take_of_length_le (by omega)] at this
          obtain ⟨g, o, rfl, hg, c0, c1, c2, c3⟩ := (HD.out.1.below hwr (Nat.le_refl _)) i y HY.out
          have lg : g < wr.heap.size := by have := hwr.size; omega
          have hgb : (k < A.length ∧ z = true) ∨ ¬ k < A.length := by
            by_cases hkl : k < A.length
            · exact .inl ⟨hkl, by cases z <;> simp_all⟩
            · exact .inr hkl
          have tI : Tn (fun _ => False) W1 wr := Tn.of_below HI.out (Nat.le_refl _)
          have HS2 : Hid (wr.ownsRow X.heap.size 41 4 (.slice oa n oc) n xs ∧ Below X.heap.size X wr) := ⟨own_tn HS.out.1 tI (fun _ _ => id), HS.out.2.trans (HI.out.mono hxz)⟩
          have hxw : X.heap.size ≤ wr.heap.size := by omega
          have hsn := HSN.out
          rw [HAny.out] at hsn
          clear hwr HS HI HZ HSN HAny hgo tI
          by_cases hzs : z = s
          · subst hzs
            simp only [beq_self_eq_true, if_true] at hsn
            have HN1 : Hid ((inL z dr A (D.take (i + 1))).length = n + 1 ∧ plCells (inL z dr A (D.take (i + 1))) = xs ++ plCells [y]) := ⟨by rw [hsn]; simp [HN.out.1], by rw [hsn, plCells_append, HN.out.2]⟩
            have HOW : Hid ((wr.alloc (.cells #[.int .u64 y.n, .int .u64 y.s.b, .int .u64 y.s.e, .int .i64 y.s.l] 41)).ownsRow X.heap.size 41 4 (.slice oa n oc) n xs) := own_tn HS2.out.1 ((Tn.refl (fun _ => False) _).alloc _) (fun _ _ => id)
            have HNX : Hid (∀ va vc w3, w3.ownsRow X.heap.size 41 4 (.slice va (n + 1) vc) (n + 1) (xs ++ plCells [y]) → (wr.alloc (.cells #[.int .u64 y.n, .int .u64 y.s.b, .int .u64 y.s.e, .int .i64 y.s.l] 41)).grownBy w3 (Value.slice oa n oc).ownBlock → X.heap.size ≤ w3.heap.size ∧ w3.ownsRow X.heap.size 41 4 (.slice va (n + 1) vc) (n + 1) (xs ++ plCells [y]) ∧ Below X.heap.size X w3) := fun va vc w3 q1 q2 => by
              have hb := (HS2.out.2.alloc hxw (.cells #[.int .u64 y.n, .int .u64 y.s.b, .int .u64 y.s.e, .int .i64 y.s.l] 41)).grown q2 (by simp; omega) (fun k hk => (own_block_lt HS2.out.1 k hk).1)
              exact ⟨hb.size, q1, hb⟩
            have tok : True := trivial
            clear hsn HS2 HN
            rcases hgb with ⟨hkl, rfl⟩ | hkl
            all_goals (
              go_wp2_with (at_builtin; have _t := tok; refine wpList_app (by rfl) _ _ (by rfl) Try.underlying22 info41 rfl (by decide) X.heap.size (.slice oa n oc) n xs (by rfl) HOW.out (some ⟨wr.heap.size, 0, none⟩) 1 1 (plCells [y]) (by rfl) (by rfl) (pl_news' wr y) (plCells_one _) (by unfold maxLen; omega) (by omega) (by simp; omega) ?_; intro v1 w3 hown1 hg1 _ hat1; obtain ⟨va, vc, hvv⟩ := own_slice hown1; subst hvv; obtain ⟨hz3, HN2⟩ := HNX.out va vc w3 hown1 hg1; have HN3 : Hid (w3.ownsRow X.heap.size 41 4 (.slice va (n + 1) vc) (n + 1) (xs ++ plCells [y]) ∧ Below X.heap.size X w3) := HN2; clear tok _t hown1 hg1 hat1 HNX HOW HN2)
              go_roundw
              case rel => exact ⟨i + 1, va, vc, by omega, by rw [HN1.out.1], by go_num, hz3, by rw [HN1.out.1, HN1.out.2]; exact HN3⟩
              case measure => simp [intOf]; omega)
          · have hzb : (z == s) = false := by cases z <;> cases s <;> simp_all
            rw [hzb] at hsn
            simp only [Bool.false_eq_true, if_false, List.append_nil] at hsn
            have HSN2 : Hid (inL s dr A (D.take (i + 1)) = inL s dr A (D.take i)) := hsn
            clear hsn
            rcases hgb with ⟨hkl, rfl⟩ | hkl
            all_goals (
              go_wp2
              go_roundw
              case rel => exact ⟨i + 1, oa, oc, by omega, by rw [HSN2.out, HN.out.1], by go_num, hxw, by rw [HSN2.out, HN.out.1, HN.out.2]; exact HS2⟩
              case measure => simp [intOf]; omega)
    · have hil : i = D.length := by omega
      subst hil
      rw [List.take_length] at HS ⊢
      have HX : Hid (Q (.returned (.tuple #[.slice oa (inL s dr A D).length oc, .int .i64 0])) wr) := HQ.out wr oa oc (own_less HS.out.1 hwX) (HB.out.trans (HS.out.2.mono hwX))
      go_wp2
      exact HX.out

end Go.Proofs.Ytafpfelgngniiaa
