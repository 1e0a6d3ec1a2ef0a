/- The document's Nearest. -/
import Derived.Test.YtafpfelgngniiaaRwi
import Derived.Test.YtafpfelgngniiaaPrk
namespace Go.Proofs.Ytafpfelgngniiaa
open Go.RowKit
set_option linter.unusedVariables false
attribute [local go_sem] Bel.cell Bel.fz

def oK (A : List Pl) (s : Sp) (K : Nat) : List Nat := (List.range K).filter (fun j => match A[j]? with | none => false | some x => jns false x.s s)
def atI (l : List Nat) : Int := match l.getLast? with | none => -1 | some k => (k : Int)
theorem oK_all (A : List Pl) (s : Sp) : oK A s A.length = opn false A s := rfl
theorem oK_snoc {A : List Pl} {s : Sp} {k : Nat} {x : Pl} (h : A[k]? = some x) : oK A s (k + 1) = oK A s k ++ (if anc x.s s then [k] else []) := by
  unfold oK
  rw [List.range_succ, List.filter_append]
  congr 1
  have e : jns false x.s s = anc x.s s := by simp [jns]
  cases e1 : anc x.s s <;> simp [h, e, e1]
theorem atI_snoc (l : List Nat) (k : Nat) : atI (l ++ [k]) = (k : Int) := by simp [atI]
theorem atI_lt (l : List Nat) : -1 ≤ atI l := by
  unfold atI
  cases l.getLast? with
  | none => simp
  | some k => simp

set_option maxRecDepth 100000 in
theorem rnearest_err (w : World) {A D : List Pl} {a d : Option Addr} {ca cd : Nat} (hA : PlsAt w w.heap.size a A) (hD : PlsAt w w.heap.size d D) (hva : ∀ x ∈ A, Lvl x.s) (hvd : ∀ x ∈ D, Lvl x.s) (cA : A.length ≤ ca) (cD : D.length ≤ cd) (y : Int) (hy : errP A D = y) (hne : y ≠ 0) :
    Calls Try.prog 19 #[.slice a A.length ca, .slice d D.length cd] w (LsP w 46 2 0 [] y) := by
  have hjn := rfits_any w (ca := ca) (cd := cd) hA hD hva hvd cA cD y (by rw [← err_eq]; exact hy)
  have HR : Hid (∀ X, Below w.heap.size w X → LsP w 46 2 0 [] y (.returned (.tuple #[.slice none 0 0, .int .i64 y])) X) := fun X h => ⟨none, 0, rfl, own_none _ _ _ _, h⟩
  generalize LsP w 46 2 0 [] y = Q at HR ⊢
  clear hA hD hva hvd hy
  go_enter Try.func19, Try.ntmps19
  go_wp2_with fail
  with_reducible refine hjn.mono ?_
  rintro e X ⟨rfl, hb⟩
  have HX : Hid (Q (.returned (.tuple #[.slice none 0 0, .int .i64 y])) X) := HR.out X hb
  clear hb hjn HR
  go_wp2
  exact HX.out

set_option maxRecDepth 100000 in
set_option maxHeartbeats 4000000 in
theorem rnearest_ok (w : World) {A D : List Pl} {a d : Option Addr} {ca cd : Nat} (hA : PlsAt w w.heap.size a A) (hD : PlsAt w w.heap.size d D) (hva : ∀ x ∈ A, Lvl x.s) (hvd : ∀ x ∈ D, Lvl x.s) (cA : A.length ≤ ca) (cD : D.length ≤ cd) (hy : errP A D = 0) :
    Calls Try.prog 19 #[.slice a A.length ca, .slice d D.length cd] w (LsP w 46 2 (nrL A D).length (prCells (nrL A D)) 0) := by
  obtain ⟨hCan, lA, lD⟩ := err_can hy
  have hjn := rfits_any w (ca := ca) (cd := cd) hA hD hva hvd cA cD 0 (by rw [← err_eq]; exact hy)
  have HA : Hid (PlsAt w w.heap.size a A) := hA
  have HD : Hid (PlsAt w w.heap.size d D) := hD
  have HQ : Hid (∀ X oa oc, X.ownsRow w.heap.size 46 2 (.slice oa (nrL A D).length oc) (nrL A D).length (prCells (nrL A D)) → Below w.heap.size w X → LsP w 46 2 (nrL A D).length (prCells (nrL A D)) 0 (.returned (.tuple #[.slice oa (nrL A D).length oc, .int .i64 0])) X) := fun X oa oc h1 h2 => ⟨oa, oc, rfl, h1, h2⟩
  generalize LsP w 46 2 (nrL A D).length (prCells (nrL A D)) 0 = Q at HQ ⊢
  clear hA hD hva hvd hy hCan
  go_enter Try.func19, Try.ntmps19
  go_wp2_with fail
  with_reducible refine hjn.mono ?_
  rintro e X ⟨rfl, hb⟩
  have HB : Hid (Below w.heap.size w X) := hb
  have hwX : w.heap.size ≤ X.heap.size := hb.size
  clear hb hjn
  go_wp2
  go_loopw [7, 8] (fun v7 v8 wr => ∃ (i : Nat) (oa : Option Addr) (oc : Nat), i ≤ D.length ∧ v7 = .slice oa (nrL A (D.take i)).length oc ∧ v8 = .int .i64 (i : Int) ∧ X.heap.size ≤ wr.heap.size ∧ Hid (wr.ownsRow X.heap.size 46 2 (.slice oa (nrL A (D.take i)).length oc) (nrL A (D.take i)).length (prCells (nrL A (D.take i))) ∧ Below X.heap.size X wr)) (fun _ v _ => D.length - (intOf v).toNat)
  case atStart => exact ⟨0, _, 0, by omega, rfl, rfl, by simp, own_new X 46 2, (Below.refl _ _).alloc (Nat.le_refl _) _⟩
  case round =>
    obtain ⟨i, oa, oc, hi, rfl, rfl, hxz, HS⟩ := hrel
    by_cases hlt : i < D.length
    · obtain ⟨y, hy⟩ : ∃ y, D[i]? = some y := ⟨_, List.getElem?_eq_getElem hlt⟩
      have hln := nrL_len A D i
      have HY : Hid (D[i]? = some y) := hy
      have hi9 : (i : Int) < (D.length : Int) := by omega
      obtain ⟨n, hn⟩ : ∃ n, (nrL A (D.take i)).length = n := ⟨_, rfl⟩
      obtain ⟨xs, hxs⟩ : ∃ xs, prCells (nrL A (D.take i)) = xs := ⟨_, rfl⟩
      have HSN : Hid (nrL A (D.take (i + 1)) = nrL A (D.take i) ++ (nr1 A y).toList) := nrL_snoc hy
      have HN : Hid ((nrL A (D.take i)).length = n ∧ prCells (nrL A (D.take i)) = xs) := ⟨hn, hxs⟩
      rw [hn] at HS hln ⊢
      rw [hxs] at HS
      clear hn hxs hy
      go_wp2
      obtain ⟨W1, hW1⟩ : ∃ W1, W1 = wr := ⟨wr, rfl⟩
      rw [← hW1] at HS hxz ⊢
      clear hW1 wr
      go_loopw [9, 10] (fun v9 v10 wi => ∃ k : Nat, k ≤ A.length ∧ v9 = .int .i64 (atI (oK A y.s k)) ∧ v10 = .int .i64 (k : Int) ∧ W1.heap.size ≤ wi.heap.size ∧ Hid (Below W1.heap.size W1 wi)) (fun _ v _ => A.length - (intOf v).toNat)
      case atStart => exact ⟨0, by omega, rfl, rfl, Nat.le_refl _, Below.refl _ _⟩
      case round =>
        obtain ⟨k, hk, rfl, rfl, hwz, HI⟩ := hrel
        have hwr : Below w.heap.size w wr := HB.out.trans ((HS.out.2.mono hwX).trans (HI.out.mono (by omega)))
        by_cases hkl : k < A.length
        · obtain ⟨x, hx⟩ : ∃ x, A[k]? = some x := ⟨_, List.getElem?_eq_getElem hkl⟩
          have hjx := fun W => rarnd_any W x.s y.s
          obtain ⟨f, p, rfl, hf, p0, p1, p2, p3⟩ := (HA.out.below hwr (Nat.le_refl _)) k x hx
          obtain ⟨g, o, rfl, hg, c0, c1, c2, c3⟩ := (HD.out.below hwr (Nat.le_refl _)) i y HY.out
          have lf : f < wr.heap.size := by have := hwr.size; omega
          have lg : g < wr.heap.size := by have := hwr.size; omega
          have hk9 : (k : Int) < (A.length : Int) := by omega
          have HT : Hid (oK A y.s (k + 1) = oK A y.s k ++ (if anc x.s y.s then [k] else [])) := oK_snoc hx
          unfold sv at hjx
          generalize anc x.s y.s = r at hjx HT
          obtain ⟨z, hz⟩ : ∃ z, atI (oK A y.s k) = z := ⟨_, rfl⟩
          have HZ : Hid (atI (oK A y.s k) = z) := hz
          rw [hz]
          clear hwr hx p0 c0 hz
          cases r with
          | true =>
            go_wp2_with fail
            refine wp_region_bel (by kernel_rfl) (by kernel_rfl) ?_
            intro hne
            repeat go_big_quiet_step ((go_at_call 30; with_reducible exact Calls.bel_of (hjx _)))
            refine wpQuiet_nil ?_
            rintro _ ⟨u, rfl⟩
            have HU : Hid (W1.heap.size ≤ u.w.heap.size ∧ Below W1.heap.size W1 u.w) := ⟨Nat.le_trans hwz u.h.size, HI.out.trans (u.h.mono hwz)⟩
            go_wp2
            go_roundw
            case rel => exact ⟨k + 1, by omega, by rw [HT.out]; simp [atI_snoc], by go_num, HU.out.1, HU.out.2⟩
            case measure => simp [intOf]; omega
          | false =>
            go_wp2_with fail
            refine wp_region_bel (by kernel_rfl) (by kernel_rfl) ?_
            intro hne
            repeat go_big_quiet_step ((go_at_call 30; with_reducible exact Calls.bel_of (hjx _)))
            refine wpQuiet_nil ?_
            rintro _ ⟨u, rfl⟩
            have HU : Hid (W1.heap.size ≤ u.w.heap.size ∧ Below W1.heap.size W1 u.w) := ⟨Nat.le_trans hwz u.h.size, HI.out.trans (u.h.mono hwz)⟩
            go_wp2
            go_roundw
            case rel => exact ⟨k + 1, by omega, by rw [HT.out]; simp [HZ.out], by go_num, HU.out.1, HU.out.2⟩
            case measure => simp [intOf]; omega
        · have hkd : k = A.length := by omega
          subst hkd
          rw [oK_all]
          have tI : Tn (fun _ => False) W1 wr := Tn.of_below HI.out (Nat.le_refl _)
          have HS2 : Hid (wr.ownsRow X.heap.size 46 2 (.slice oa n oc) n xs ∧ Below X.heap.size X wr) := ⟨own_tn HS.out.1 tI (fun _ _ => id), HS.out.2.trans (HI.out.mono hxz)⟩
          have hxw : X.heap.size ≤ wr.heap.size := by omega
          have hsn := HSN.out
          by_cases hs : 0 < (opn false A y.s).length
          · obtain ⟨k, x, hk1, hk2, hkx⟩ := opn_last (dr := false) (A := A) (s := y.s) hs
            have hn1 : nr1 A y = some (x.n, y.n) := by unfold nr1; rw [hk2]; simp only [hkx]
            have hat : atI (opn false A y.s) = (k : Int) := by unfold atI; rw [hk2]
            rw [hn1] at hsn
            rw [hat]
            have hkl := (List.getElem?_eq_some_iff.1 hkx).1
            simp only [Option.toList] at hsn
            have HN1 : Hid ((nrL A (D.take (i + 1))).length = n + 1 ∧ prCells (nrL A (D.take (i + 1))) = xs ++ prCells [(x.n, y.n)]) := ⟨by rw [hsn]; simp [HN.out.1], by rw [hsn, prCells_append, HN.out.2]⟩
            obtain ⟨f, p, rfl, hf, p0, p1, p2, p3⟩ := (HA.out.below hwr (Nat.le_refl _)) k x hkx
            obtain ⟨g, o, rfl, hg, c0, c1, c2, c3⟩ := (HD.out.below hwr (Nat.le_refl _)) i y HY.out
            have lf : f < wr.heap.size := by have := hwr.size; omega
            have lg : g < wr.heap.size := by have := hwr.size; omega
            have hk9 : (k : Int) < (A.length : Int) := by omega
            have tA : Tn (fun _ => False) wr (wr.alloc (.cells #[.int .u64 x.n, .int .u64 y.n] 46)) := (Tn.refl _ _).alloc _
            have HOW : Hid ((wr.alloc (.cells #[.int .u64 x.n, .int .u64 y.n] 46)).drew.ownsRow X.heap.size 46 2 (.slice oa n oc) n xs) := own_tn HS2.out.1 tA.drew (fun _ _ => id)
            have HNX : Hid (∀ va vc w3, w3.ownsRow X.heap.size 46 2 (.slice va (n + 1) vc) (n + 1) (xs ++ prCells [(x.n, y.n)]) → (wr.alloc (.cells #[.int .u64 x.n, .int .u64 y.n] 46)).drew.grownBy w3 (Value.slice oa n oc).ownBlock → X.heap.size ≤ w3.heap.size ∧ w3.ownsRow X.heap.size 46 2 (.slice va (n + 1) vc) (n + 1) (xs ++ prCells [(x.n, y.n)]) ∧ Below X.heap.size X w3) := fun va vc w3 q1 q2 => by
              have tY : Tn (fun b => (Value.slice oa n oc).ownBlock = some b) (wr.alloc (.cells #[.int .u64 x.n, .int .u64 y.n] 46)).drew w3 := ⟨q2.os, q2.tape, q2.output, q2.size, fun j hj hn => q2.block j hj (fun e => hn e.symm)⟩
              have tW : Tn (fun b => (Value.slice oa n oc).ownBlock = some b) wr w3 := (tA.drew.mono (fun _ _ h => h.elim)).trans tY (fun _ _ h => h)
              have hb : Below X.heap.size X w3 := HS2.out.2.trans (tW.below hxw (fun b hb => (own_block_lt HS2.out.1 b hb).1))
              exact ⟨hb.size, q1, hb⟩
            clear hsn HS2 HN HSN HS HI hwr tI tA hkx hk1 hk2 hat hn1 p1 p2 p3 c1 c2 c3
            go_wp2_with fail
            go_region_law (refine step_app (by rfl) _ _ (by rfl) Try.underlying24 info46 rfl (by decide) X.heap.size (.slice oa n oc) n xs (by rfl) HOW.out (some ⟨wr.heap.size, 0, none⟩) 1 1 (prCells [(x.n, y.n)]) (by rfl) (by rfl) (pr_news wr x.n y.n) (prCells_one _) (by unfold maxLen; omega) (by omega) (by simp; omega) ?_; intro v1 w3 hown1 hg1 _ hat1; obtain ⟨va, vc, hvv⟩ := own_slice hown1; subst hvv; obtain ⟨hz3, HN2⟩ := HNX.out va vc w3 hown1 hg1; have HN3 : Hid (w3.ownsRow X.heap.size 46 2 (.slice va (n + 1) vc) (n + 1) (xs ++ prCells [(x.n, y.n)]) ∧ Below X.heap.size X w3) := HN2; clear hown1 hg1 hat1 HNX HOW HN2)
            all_goals (
              go_wp2
              go_roundw
              case rel => exact ⟨i + 1, va, vc, by omega, by rw [HN1.out.1], by go_num, hz3, by rw [HN1.out.1, HN1.out.2]; exact HN3⟩
              case measure => simp [intOf]; omega)
          · have he : opn false A y.s = [] := List.length_eq_zero_iff.1 (by omega)
            have hn1 : nr1 A y = none := by unfold nr1; rw [he]; rfl
            rw [hn1] at hsn
            simp only [Option.toList, List.append_nil] at hsn
            rw [he]
            have hat : atI [] = -1 := rfl
            rw [hat]
            have HSN2 : Hid (nrL A (D.take (i + 1)) = nrL A (D.take i)) := hsn
            clear hsn HSN HS HI hwr tI he hn1 hat
            go_wp2
            go_roundw
            case rel => exact ⟨i + 1, oa, oc, by omega, by rw [HSN2.out, HN.out.1], by go_num, hxw, by rw [HSN2.out, HN.out.1, HN.out.2]; exact HS2⟩
            case measure => simp [intOf]; omega
    · have hil : i = D.length := by omega
      subst hil
      rw [List.take_length] at HS ⊢
      have HX : Hid (Q (.returned (.tuple #[.slice oa (nrL A D).length oc, .int .i64 0])) wr) := HQ.out wr oa oc (own_less HS.out.1 hwX) (HB.out.trans (HS.out.2.mono hwX))
      go_wp2
      exact HX.out

end Go.Proofs.Ytafpfelgngniiaa
