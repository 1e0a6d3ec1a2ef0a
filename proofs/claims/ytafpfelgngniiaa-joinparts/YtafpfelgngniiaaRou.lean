/- The document's Outer. -/
import Derived.Test.YtafpfelgngniiaaRcn
namespace Go.Proofs.Ytafpfelgngniiaa
open Go.RowKit
set_option linter.unusedVariables false

/-- Those of a that join with one of d. -/
def roL (dr : Bool) (D A : List Pl) : List Pl := A.filter (fun x => decide (0 < rcF dr x D))
theorem roL_len (dr : Bool) (D A : List Pl) (k : Nat) : (roL dr D (A.take k)).length ≤ A.length := Nat.le_trans (List.length_filter_le _ _) (by simp; omega)
theorem roL_snoc {dr : Bool} {D A : List Pl} {k : Nat} {x : Pl} (h : A[k]? = some x) : roL dr D (A.take (k + 1)) = roL dr D (A.take k) ++ (if 0 < rcF dr x D then [x] else []) := by
  rw [take_snoc h]
  unfold roL
  rw [List.filter_append]
  congr 1
  by_cases h0 : 0 < rcF dr x D <;> simp [h0]

set_option maxRecDepth 100000 in
theorem router_err (w : World) {A D : List Pl} {a d : Option Addr} {ca cd : Nat} (dr : Bool) (hA : PlsAt w w.heap.size a A) (hD : PlsAt w w.heap.size d D) (hva : ∀ x ∈ A, Lvl x.s) (hvd : ∀ x ∈ D, Lvl x.s) (cA : A.length ≤ ca) (cD : D.length ≤ cd) (y : Int) (hy : errP A D = y) (hne : y ≠ 0) :
    Calls Try.prog 10 #[.slice a A.length ca, .slice d D.length cd, .bool dr] w (LsP w 41 4 0 [] y) := by
  have hjn : Calls Try.prog 17 #[.slice a A.length ca, .slice d D.length cd, .bool dr] w fun e X => ∃ va vc, e = .returned (.tuple #[.slice va 0 vc, .int .i64 y]) ∧ LsP w 41 4 0 [] y (.returned (.tuple #[.slice none 0 0, .int .i64 y])) X := by
    refine (rcount_err w (ca := ca) (cd := cd) dr hA hD hva hvd cA cD y hy hne).mono ?_
    rintro e X ⟨va, vc, rfl, -, hb⟩
    exact ⟨va, vc, rfl, none, 0, rfl, own_none _ _ _ _, hb⟩
  generalize LsP w 41 4 0 [] y = Q at hjn ⊢
  clear hA hD hva hvd hy
  go_enter Try.func10, Try.ntmps10
  go_wp2_with fail
  with_reducible refine hjn.mono ?_
  rintro e X ⟨va, vc, rfl, hQ⟩
  have HX : Hid (Q (.returned (.tuple #[.slice none 0 0, .int .i64 y])) X) := hQ
  clear hQ hjn
  go_wp2
  exact HX.out

set_option maxRecDepth 100000 in
set_option maxHeartbeats 4000000 in
theorem router_ok (w : World) {A D : List Pl} {a d : Option Addr} {ca cd : Nat} (dr : Bool) (hA : PlsAt w w.heap.size a A) (hD : PlsAt w w.heap.size d D) (hva : ∀ x ∈ A, Lvl x.s) (hvd : ∀ x ∈ D, Lvl x.s) (cA : A.length ≤ ca) (cD : D.length ≤ cd) (hy : errP A D = 0) :
    Calls Try.prog 10 #[.slice a A.length ca, .slice d D.length cd, .bool dr] w (LsP w 41 4 (roL dr D A).length (plCells (roL dr D A)) 0) := by
  obtain ⟨hCan, lA, lD⟩ := err_can hy
  have hlen : (rcL dr A D).length = A.length := by simp [rcL]
  have hjn : Calls Try.prog 17 #[.slice a A.length ca, .slice d D.length cd, .bool dr] w fun e X => ∃ va vc, e = .returned (.tuple #[.slice va A.length vc, .int .i64 0]) ∧ KsAt X va (rcL dr A D) ∧ A.length ≤ vc ∧ Below w.heap.size w X := by
    refine (rcount_ok w (ca := ca) (cd := cd) dr hA hD hva hvd cA cD hy).mono ?_
    rintro e X ⟨va, vc, rfl, ho, hb⟩
    have h := row_ks ho
    rw [hlen] at h
    rw [hlen]
    exact ⟨va, vc, rfl, h.1, h.2, hb⟩
  have HA : Hid (PlsAt w w.heap.size a A) := hA
  have HQ : Hid (∀ X oa oc, X.ownsRow w.heap.size 41 4 (.slice oa (roL dr D A).length oc) (roL dr D A).length (plCells (roL dr D A)) → Below w.heap.size w X → LsP w 41 4 (roL dr D A).length (plCells (roL dr D A)) 0 (.returned (.tuple #[.slice oa (roL dr D A).length oc, .int .i64 0])) X) := fun X oa oc h1 h2 => ⟨oa, oc, rfl, h1, h2⟩
  generalize LsP w 41 4 (roL dr D A).length (plCells (roL dr D A)) 0 = Q at HQ ⊢
  clear hA hD hva hvd hy hCan hlen
  go_enter Try.func10, Try.ntmps10
  go_wp2_with fail
  with_reducible refine hjn.mono ?_
  rintro e X ⟨ra, rc, rfl, hks, hrc, hb⟩
  have HB : Hid (Below w.heap.size w X) := hb
  have HK : Hid (KsAt X ra (rcL dr A D)) := hks
  have hwX : w.heap.size ≤ X.heap.size := hb.size
  clear hb hjn hks
  go_wp2
  go_loopw [10, 11] (fun v10 v11 wr => ∃ (k : Nat) (oa : Option Addr) (oc : Nat), k ≤ A.length ∧ v10 = .slice oa (roL dr D (A.take k)).length oc ∧ v11 = .int .i64 (k : Int) ∧ X.heap.size ≤ wr.heap.size ∧ Hid (wr.ownsRow X.heap.size 41 4 (.slice oa (roL dr D (A.take k)).length oc) (roL dr D (A.take k)).length (plCells (roL dr D (A.take k))) ∧ Below X.heap.size X wr)) (fun _ v _ => A.length - (intOf v).toNat)
  case atStart => exact ⟨0, _, 0, by omega, rfl, rfl, by simp, own_new X 41 4, (Below.refl _ _).alloc (Nat.le_refl _) _⟩
  case round =>
    obtain ⟨k, oa, oc, hk, rfl, rfl, hyz, HS⟩ := hrel
    by_cases hlt : k < A.length
    · obtain ⟨x, hx⟩ : ∃ x, A[k]? = some x := ⟨_, List.getElem?_eq_getElem hlt⟩
      have hwr : Below w.heap.size w wr := HB.out.trans (HS.out.2.mono hwX)
      obtain ⟨g, o, rfl, hg, c0, c1, c2, c3⟩ := (HA.out.below hwr (Nat.le_refl _)) k x hx
      have hgw : g < wr.heap.size := by omega
      obtain ⟨v, hv⟩ : ∃ v, rcF dr x D = v := ⟨_, rfl⟩
      have tX : Tn (fun _ => False) X wr := Tn.of_below HS.out.2 (Nat.le_refl _)
      obtain ⟨q, rfl, hq, cq⟩ := HK.out.tn tX k v (by simp [rcL, hx, hv])
      have hv8 : v ≤ 8192 := by rw [← hv]; exact Nat.le_trans (rcF_le dr x D) lD
      have hsn := roL_snoc (dr := dr) (D := D) hx
      have hln := roL_len dr D A k
      have hk9 : (k : Int) < (A.length : Int) := by omega
      rw [hv] at hsn
      clear hwr hx tX
      obtain ⟨n, hn⟩ : ∃ n, (roL dr D (A.take k)).length = n := ⟨_, rfl⟩
      obtain ⟨xs, hxs⟩ : ∃ xs, plCells (roL dr D (A.take k)) = xs := ⟨_, rfl⟩
      have HN0 : Hid ((roL dr D (A.take k)).length = n ∧ plCells (roL dr D (A.take k)) = xs) := ⟨hn, hxs⟩
      by_cases h0 : 0 < v
      · rw [if_pos h0] at hsn
        have HN : Hid ((roL dr D (A.take (k + 1))).length = n + 1 ∧ plCells (roL dr D (A.take (k + 1))) = xs ++ plCells [x]) := ⟨by rw [hsn]; simp [hn], by rw [hsn, plCells_append, hxs]⟩
        rw [hn] at HS hln ⊢
        rw [hxs] at HS
        have HOW : Hid ((wr.alloc (.cells #[.int .u64 x.n, .int .u64 x.s.b, .int .u64 x.s.e, .int .i64 x.s.l] 41)).ownsRow X.heap.size 41 4 (.slice oa n oc) n xs) := own_tn HS.out.1 ((Tn.refl (fun _ => False) _).alloc _) (fun _ _ => id)
        have HNX : Hid (∀ va vc w3, w3.ownsRow X.heap.size 41 4 (.slice va (n + 1) vc) (n + 1) (xs ++ plCells [x]) → (wr.alloc (.cells #[.int .u64 x.n, .int .u64 x.s.b, .int .u64 x.s.e, .int .i64 x.s.l] 41)).grownBy w3 (Value.slice oa n oc).ownBlock → X.heap.size ≤ w3.heap.size ∧ w3.ownsRow X.heap.size 41 4 (.slice va (n + 1) vc) (n + 1) (xs ++ plCells [x]) ∧ Below X.heap.size X w3) := fun va vc w3 q1 q2 => by
          have hb := (HS.out.2.alloc hyz (.cells #[.int .u64 x.n, .int .u64 x.s.b, .int .u64 x.s.e, .int .i64 x.s.l] 41)).grown q2 (by simp; omega) (fun k hk => (own_block_lt HS.out.1 k hk).1)
          exact ⟨hb.size, q1, hb⟩
        have tok : True := trivial
        clear hsn hn hxs hv HN0
        go_wp2_with (at_builtin; have _t := tok; refine wpList_app (by rfl) _ _ (by rfl) Try.underlying22 info41 rfl (by decide) X.heap.size (.slice oa n oc) n xs (by rfl) HOW.out (some ⟨wr.heap.size, 0, none⟩) 1 1 (plCells [x]) (by rfl) (by rfl) (pl_news' wr x) (plCells_one _) (by unfold maxLen; omega) (by omega) (by simp; omega) ?_; intro v1 w3 hown1 hg1 _ hat1; obtain ⟨va, vc, hvv⟩ := own_slice hown1; subst hvv; obtain ⟨hz3, HN2⟩ := HNX.out va vc w3 hown1 hg1; have HN3 : Hid (w3.ownsRow X.heap.size 41 4 (.slice va (n + 1) vc) (n + 1) (xs ++ plCells [x]) ∧ Below X.heap.size X w3) := HN2; clear tok _t hown1 hg1 hat1 HNX HOW HN2)
        go_roundw
        case rel => exact ⟨k + 1, va, vc, by omega, by rw [HN.out.1], by go_num, hz3, by rw [HN.out.1, HN.out.2]; exact HN3⟩
        case measure => simp [intOf]; omega
      · rw [if_neg h0, List.append_nil] at hsn
        have hv0 : v = 0 := by omega
        subst hv0
        have HSN : Hid (roL dr D (A.take (k + 1)) = roL dr D (A.take k)) := hsn
        clear hsn hn hxs hv
        go_wp2
        go_roundw
        case rel => exact ⟨k + 1, oa, oc, by omega, by rw [HSN.out], by go_num, hyz, by rw [HSN.out]; exact HS⟩
        case measure => simp [intOf]; omega
    · have hkl : k = A.length := by omega
      subst hkl
      rw [List.take_length] at HS ⊢
      have HX : Hid (Q (.returned (.tuple #[.slice oa (roL dr D A).length oc, .int .i64 0])) wr) := HQ.out wr oa oc (own_less HS.out.1 hwX) (HB.out.trans (HS.out.2.mono hwX))
      go_wp2
      exact HX.out

end Go.Proofs.Ytafpfelgngniiaa
