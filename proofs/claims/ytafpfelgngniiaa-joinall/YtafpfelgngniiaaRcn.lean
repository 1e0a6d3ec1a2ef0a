/- The document's Count. -/
import Derived.Test.YtafpfelgngniiaaRwi
namespace Go.Proofs.Ytafpfelgngniiaa
open Go.RowKit
set_option linter.unusedVariables false
attribute [local go_sem] Bel.cell Bel.fz

/-- With how many of L one joins. -/
def rcF (dr : Bool) (x : Pl) (L : List Pl) : Nat := (L.filter (fun y => jns dr x.s y.s)).length
theorem rcF_le (dr : Bool) (x : Pl) (L : List Pl) : rcF dr x L ≤ L.length := List.length_filter_le _ _
theorem rcF_snoc {dr : Bool} {x y : Pl} {L : List Pl} {i : Nat} (h : L[i]? = some y) : rcF dr x (L.take (i + 1)) = rcF dr x (L.take i) + (if jns dr x.s y.s then 1 else 0) := by
  rw [take_snoc h]
  unfold rcF
  rw [List.filter_append, List.length_append]
  cases e : jns dr x.s y.s <;> simp [e]
def rcL (dr : Bool) (A D : List Pl) : List Nat := A.map (fun x => rcF dr x D)

set_option maxRecDepth 100000 in
theorem rcount_err (w : World) {A D : List Pl} {a d : Option Addr} {ca cd : Nat} (dr : Bool) (hA : PlsAt w w.heap.size a A) (hD : PlsAt w w.heap.size d D) (hva : ∀ x ∈ A, Lvl x.s) (hvd : ∀ x ∈ D, Lvl x.s) (cA : A.length ≤ ca) (cD : D.length ≤ cd) (y : Int) (hy : errP A D = y) (hne : y ≠ 0) :
    Calls Try.prog 17 #[.slice a A.length ca, .slice d D.length cd, .bool dr] w (LsP w 3 1 0 [] y) := by
  have hjn := rfits_any w (ca := ca) (cd := cd) hA hD hva hvd cA cD y (by rw [← err_eq]; exact hy)
  have HR : Hid (∀ X, Below w.heap.size w X → LsP w 3 1 0 [] y (.returned (.tuple #[.slice none 0 0, .int .i64 y])) X) := fun X h => ⟨none, 0, rfl, own_none _ _ _ _, h⟩
  generalize LsP w 3 1 0 [] y = Q at HR ⊢
  clear hA hD hva hvd hy
  go_enter Try.func17, Try.ntmps17
  go_wp2_with fail
  with_reducible refine hjn.mono ?_
  rintro e X ⟨rfl, hb⟩
  have HX : Hid (Q (.returned (.tuple #[.slice none 0 0, .int .i64 y])) X) := HR.out X hb
  clear hb hjn HR
  go_wp2
  exact HX.out

set_option maxRecDepth 100000 in
set_option maxHeartbeats 4000000 in
theorem rcount_ok (w : World) {A D : List Pl} {a d : Option Addr} {ca cd : Nat} (dr : Bool) (hA : PlsAt w w.heap.size a A) (hD : PlsAt w w.heap.size d D) (hva : ∀ x ∈ A, Lvl x.s) (hvd : ∀ x ∈ D, Lvl x.s) (cA : A.length ≤ ca) (cD : D.length ≤ cd) (hy : errP A D = 0) :
    Calls Try.prog 17 #[.slice a A.length ca, .slice d D.length cd, .bool dr] w (LsP w 3 1 (rcL dr A D).length (ks (rcL dr A D)) 0) := by
  obtain ⟨hCan, lA, lD⟩ := err_can hy
  have hjn := rfits_any w (ca := ca) (cd := cd) hA hD hva hvd cA cD 0 (by rw [← err_eq]; exact hy)
  have HA : Hid (PlsAt w w.heap.size a A ∧ ∀ x ∈ A, Lvl x.s) := ⟨hA, hva⟩
  have HD : Hid (PlsAt w w.heap.size d D ∧ ∀ x ∈ D, Lvl x.s) := ⟨hD, hvd⟩
  have HQ : Hid (∀ X oa oc, X.ownsRow w.heap.size 3 1 (.slice oa (rcL dr A D).length oc) (rcL dr A D).length (ks (rcL dr A D)) → Below w.heap.size w X → LsP w 3 1 (rcL dr A D).length (ks (rcL dr A D)) 0 (.returned (.tuple #[.slice oa (rcL dr A D).length oc, .int .i64 0])) X) := fun X oa oc h1 h2 => ⟨oa, oc, rfl, h1, h2⟩
  have hlen : (rcL dr A D).length = A.length := by simp [rcL]
  rw [hlen] at HQ ⊢
  generalize LsP w 3 1 A.length (ks (rcL dr A D)) 0 = Q at HQ ⊢
  clear hA hD hva hvd hy hCan hlen
  go_enter Try.func17, Try.ntmps17
  go_wp2_with fail
  with_reducible refine hjn.mono ?_
  rintro e X ⟨rfl, hb⟩
  have HB : Hid (Below w.heap.size w X) := hb
  have hwX : w.heap.size ≤ X.heap.size := hb.size
  clear hb hjn
  go_wp2
  go_loopw [9, 10] (fun v9 v10 wr => ∃ (k : Nat) (oa : Option Addr) (oc : Nat), k ≤ A.length ∧ v9 = .slice oa k oc ∧ v10 = .int .i64 (k : Int) ∧ X.heap.size ≤ wr.heap.size ∧ Hid (wr.ownsRow X.heap.size 3 1 (.slice oa k oc) k (ks (rcL dr (A.take k) D)) ∧ Below X.heap.size X wr)) (fun _ v _ => A.length - (intOf v).toNat)
  case atStart => exact ⟨0, _, 0, by omega, rfl, rfl, by simp, own_new X 3 1, (Below.refl _ _).alloc (Nat.le_refl _) _⟩
  case round =>
    obtain ⟨k, oa, oc, hk, rfl, rfl, hxz, HS⟩ := hrel
    by_cases hlt : k < A.length
    · obtain ⟨x, hx⟩ : ∃ x, A[k]? = some x := ⟨_, List.getElem?_eq_getElem hlt⟩
      have HX : Hid (A[k]? = some x) := hx
      have hk9 : (k : Int) < (A.length : Int) := by omega
      obtain ⟨xs, hxs⟩ : ∃ xs, ks (rcL dr (A.take k) D) = xs := ⟨_, rfl⟩
      have HSN : Hid (ks (rcL dr (A.take (k + 1)) D) = xs ++ ks [rcF dr x D]) := by
        show _ = _
        rw [← hxs, take_snoc hx]
        simp [rcL, ks]
      rw [hxs] at HS
      clear hxs hx
      go_wp2
      obtain ⟨W1, hW1⟩ : ∃ W1, W1 = wr := ⟨wr, rfl⟩
      rw [← hW1] at HS hxz ⊢
      clear hW1 wr
      go_loopw [11, 12] (fun v11 v12 wi => ∃ i : Nat, i ≤ D.length ∧ v11 = .int .i64 ((rcF dr x (D.take i) : Nat) : Int) ∧ v12 = .int .i64 (i : Int) ∧ W1.heap.size ≤ wi.heap.size ∧ Hid (Below W1.heap.size W1 wi)) (fun _ v _ => D.length - (intOf v).toNat)
      case atStart => exact ⟨0, by omega, rfl, rfl, Nat.le_refl _, Below.refl _ _⟩
      case round =>
        obtain ⟨i, hi, rfl, rfl, hwz, HI⟩ := hrel
        have hwr : Below w.heap.size w wr := HB.out.trans ((HS.out.2.mono hwX).trans (HI.out.mono (by omega)))
        have hql := rcF_le dr x (D.take i)
        have hqd : (D.take i).length ≤ D.length := by simp; omega
        by_cases hil : i < D.length
        · obtain ⟨y, hy⟩ : ∃ y, D[i]? = some y := ⟨_, List.getElem?_eq_getElem hil⟩
          have hjx := fun W => rjoins_any W x.s y.s dr (HA.out.2 x (List.mem_of_getElem? HX.out)) (HD.out.2 y (List.mem_of_getElem? hy))
          obtain ⟨f, p, rfl, hf, p0, p1, p2, p3⟩ := (HA.out.1.below hwr (Nat.le_refl _)) k x HX.out
          obtain ⟨g, o, rfl, hg, c0, c1, c2, c3⟩ := (HD.out.1.below hwr (Nat.le_refl _)) i y hy
          have lf : f < wr.heap.size := by have := hwr.size; omega
          have lg : g < wr.heap.size := by have := hwr.size; omega
          have hi9 : (i : Int) < (D.length : Int) := by omega
          have hT := rcF_snoc (dr := dr) (x := x) hy
          have HT : Hid (rcF dr x (D.take (i + 1)) = rcF dr x (D.take i) + (if jns dr x.s y.s then 1 else 0)) := hT
          obtain ⟨q, hq⟩ : ∃ q, rcF dr x (D.take i) = q := ⟨_, rfl⟩
          rw [hq] at hql HT ⊢
          unfold sv at hjx
          generalize jns dr x.s y.s = r at hjx HT
          clear hwr hy p0 c0 hT hq
          cases r with
          | true =>
            go_wp2_with fail
            refine wp_region_bel (by kernel_rfl) (by kernel_rfl) ?_
            intro hne
            repeat go_big_quiet_step ((go_at_call 25; with_reducible exact Calls.bel_of (hjx _)))
            refine wpQuiet_nil ?_
            rintro _ ⟨u, rfl⟩
            have HU : Hid (W1.heap.size ≤ u.w.heap.size ∧ Below W1.heap.size W1 u.w) := ⟨Nat.le_trans hwz u.h.size, HI.out.trans (u.h.mono hwz)⟩
            go_wp2
            go_roundw
            case rel => exact ⟨i + 1, by omega, by rw [HT.out]; rfl, by go_num, HU.out.1, HU.out.2⟩
            case measure => simp [intOf]; omega
          | false =>
            go_wp2_with fail
            refine wp_region_bel (by kernel_rfl) (by kernel_rfl) ?_
            intro hne
            repeat go_big_quiet_step ((go_at_call 25; with_reducible exact Calls.bel_of (hjx _)))
            refine wpQuiet_nil ?_
            rintro _ ⟨u, rfl⟩
            have HU : Hid (W1.heap.size ≤ u.w.heap.size ∧ Below W1.heap.size W1 u.w) := ⟨Nat.le_trans hwz u.h.size, HI.out.trans (u.h.mono hwz)⟩
            go_wp2
            go_roundw
            case rel => exact ⟨i + 1, by omega, by rw [HT.out]; rfl, by go_num, HU.out.1, HU.out.2⟩
            case measure => simp [intOf]; omega
        · have hid : i = D.length := by omega
          subst hid
          rw [List.take_length] at hql ⊢
          have tI : Tn (fun _ => False) W1 wr := Tn.of_below HI.out (Nat.le_refl _)
          have HS2 : Hid (wr.ownsRow X.heap.size 3 1 (.slice oa k oc) k xs ∧ Below X.heap.size X wr) := ⟨own_tn HS.out.1 tI (fun _ _ => id), HS.out.2.trans (HI.out.mono hxz)⟩
          have hxw : X.heap.size ≤ wr.heap.size := by omega
          obtain ⟨q, hq⟩ : ∃ q, rcF dr x D = q := ⟨_, rfl⟩
          rw [hq] at hql HSN ⊢
          have HOW : Hid ((wr.alloc (.cells #[.int .i64 (q : Int)] 3)).ownsRow X.heap.size 3 1 (.slice oa k oc) k xs) := own_tn HS2.out.1 ((Tn.refl (fun _ => False) _).alloc _) (fun _ _ => id)
          have HNX : Hid (∀ va vc w3, w3.ownsRow X.heap.size 3 1 (.slice va (k + 1) vc) (k + 1) (xs ++ ks [q]) → (wr.alloc (.cells #[.int .i64 (q : Int)] 3)).grownBy w3 (Value.slice oa k oc).ownBlock → X.heap.size ≤ w3.heap.size ∧ w3.ownsRow X.heap.size 3 1 (.slice va (k + 1) vc) (k + 1) (xs ++ ks [q]) ∧ Below X.heap.size X w3) := fun va vc w3 q1 q2 => by
            have hb := (HS2.out.2.alloc hxw (.cells #[.int .i64 (q : Int)] 3)).grown q2 (by simp; omega) (fun k hk => (own_block_lt HS2.out.1 _ hk).1)
            exact ⟨hb.size, q1, hb⟩
          have tok : True := trivial
          clear hwr HS HI HS2 tI hq
          go_wp2_with (at_builtin; have _t := tok; refine wpList_app (by rfl) _ _ (by rfl) Try.underlying32 info3 rfl (by decide) X.heap.size (.slice oa k oc) k xs (by rfl) HOW.out (some ⟨wr.heap.size, 0, none⟩) 1 1 (ks [q]) (by rfl) (by rfl) (ks_news wr q) (ks_one _) (by unfold maxLen; omega) (by omega) (by simp; omega) ?_; intro v1 w3 hown1 hg1 _ hat1; obtain ⟨va, vc, hvv⟩ := own_slice hown1; subst hvv; obtain ⟨hz3, HN2⟩ := HNX.out va vc w3 hown1 hg1; have HN3 : Hid (w3.ownsRow X.heap.size 3 1 (.slice va (k + 1) vc) (k + 1) (xs ++ ks [q]) ∧ Below X.heap.size X w3) := HN2; clear tok _t hown1 hg1 hat1 HNX HOW HN2)
          go_roundw
          case rel => exact ⟨k + 1, va, vc, by omega, rfl, by go_num, hz3, by rw [HSN.out]; exact HN3⟩
          case measure => simp [intOf]; omega
    · have hkl : k = A.length := by omega
      subst hkl
      rw [List.take_length] at HS
      have HX : Hid (Q (.returned (.tuple #[.slice oa A.length oc, .int .i64 0])) wr) := HQ.out wr oa oc (own_less HS.out.1 hwX) (HB.out.trans (HS.out.2.mono hwX))
      go_wp2
      exact HX.out

end Go.Proofs.Ytafpfelgngniiaa
