/- Count and Outer of the program. -/
import Derived.Test.YtafpfelgngniiaaCnt2
namespace Go.Proofs.Ytafpfelgngniiaa
open Go.RowKit
set_option linter.unusedVariables false

/-- What Count leaves. -/
def CoP (w : World) (n : Nat) (f : Nat → Nat) (e : Ending) (w' : World) : Prop := ∃ nr, e = .returned (.tuple #[.slice (some ⟨nr, 0, none⟩) n n, .int .i64 0]) ∧ w.heap.size ≤ nr ∧ IsCells w' nr (cnA n f) ∧ Below w.heap.size w w'

set_option maxRecDepth 100000 in
theorem count_err (w : World) {A D : List Pl} {a d : Option Addr} {ca cd : Nat} (dr : Bool) (hA : PlsAt w w.heap.size a A) (hD : PlsAt w w.heap.size d D) (hva : ∀ x ∈ A, Lvl x.s) (hvd : ∀ x ∈ D, Lvl x.s) (y : Int) (hy : errP A D = y) (hne : y ≠ 0) :
    Calls Try.prog 16 #[.slice a A.length ca, .slice d D.length cd, .bool dr] w (LsP w 3 1 0 [] y) := by
  have hjn := joinable_any w (ca := ca) (cd := cd) hA hD hva hvd y hy
  have HR : Hid (∀ X, Below w.heap.size w X → LsP w 3 1 0 [] y (.returned (.tuple #[.slice none 0 0, .int .i64 y])) X) := fun X h => ⟨none, 0, rfl, own_none _ _ _ _, h⟩
  generalize LsP w 3 1 0 [] y = Q at HR ⊢
  clear hA hD hva hvd hy
  go_enter Try.func16, Try.ntmps16
  go_wp2_with fail
  with_reducible refine hjn.mono ?_
  rintro e X ⟨rfl, hb⟩
  have HX : Hid (Q (.returned (.tuple #[.slice none 0 0, .int .i64 y])) X) := HR.out X hb
  clear hb hjn HR
  go_wp2
  exact HX.out

set_option maxRecDepth 100000 in
theorem count_ok (w : World) {A D : List Pl} {a d : Option Addr} {ca cd : Nat} (dr : Bool) (hA : PlsAt w w.heap.size a A) (hD : PlsAt w w.heap.size d D) (hva : ∀ x ∈ A, Lvl x.s) (hvd : ∀ x ∈ D, Lvl x.s) (hy : errP A D = 0) :
    Calls Try.prog 16 #[.slice a A.length ca, .slice d D.length cd, .bool dr] w (CoP w A.length (cnF dr A D)) := by
  obtain ⟨hCan, lA, lD⟩ := err_can hy
  have hjn := joinable_any w (ca := ca) (cd := cd) hA hD hva hvd 0 hy
  have HM : Hid (∀ X, Below w.heap.size w X → Calls Try.prog 26 #[.slice a A.length ca, .slice d D.length cd, .bool dr] X fun e Y => ∃ nr, e = .returned (.slice (some ⟨nr, 0, none⟩) A.length A.length) ∧ CoP w A.length (cnF dr A D) (.returned (.tuple #[.slice (some ⟨nr, 0, none⟩) A.length A.length, .int .i64 0])) Y) := fun X h => by
    refine (counts_any X dr ((hA.below h (Nat.le_refl _)).more h.size) ((hD.below h (Nat.le_refl _)).more h.size) hCan lA lD).mono ?_
    rintro e Y ⟨nr, rfl, h1, h2, h3⟩
    exact ⟨nr, rfl, nr, rfl, Nat.le_trans h.size h1, h2, h.trans (h3.mono h.size)⟩
  generalize CoP w A.length (cnF dr A D) = Q at HM ⊢
  clear hA hD hva hvd hy hCan
  go_enter Try.func16, Try.ntmps16
  go_wp2_with fail
  with_reducible refine hjn.mono ?_
  rintro e X ⟨rfl, hb⟩
  have hm := HM.out X hb
  clear hb hjn HM
  go_wp2_with fail
  with_reducible refine hm.mono ?_
  rintro e Y ⟨nr, rfl, h⟩
  have HX : Hid (Q (.returned (.tuple #[.slice (some ⟨nr, 0, none⟩) A.length A.length, .int .i64 0])) Y) := h
  clear h hm
  go_wp2
  exact HX.out

/-- Those of a with which some join. -/
def ouL (f : Nat → Nat) (A : List Pl) : List Pl := A.zipIdx.filterMap (fun p => if 0 < f p.2 then some p.1 else none)
theorem ouL_len (f : Nat → Nat) (A : List Pl) (k : Nat) : (ouL f (A.take k)).length ≤ k := Nat.le_trans (List.length_filterMap_le _ _) (by simp; omega)
theorem ouL_snoc {f : Nat → Nat} {A : List Pl} {k : Nat} {x : Pl} (h : A[k]? = some x) : ouL f (A.take (k + 1)) = ouL f (A.take k) ++ (if 0 < f k then [x] else []) := by
  have hk := (List.getElem?_eq_some_iff.1 h).1
  rw [take_snoc h]
  simp only [ouL, List.zipIdx_append, List.filterMap_append]
  congr 1
  simp only [List.zipIdx_cons, List.zipIdx_nil]
  by_cases h0 : 0 < f k
  · simp [h0, Nat.min_eq_left (Nat.le_of_lt hk)]
  · simp [h0, Nat.min_eq_left (Nat.le_of_lt hk)]

set_option maxRecDepth 100000 in
theorem outer_err (w : World) {A D : List Pl} {a d : Option Addr} {ca cd : Nat} (dr : Bool) (hA : PlsAt w w.heap.size a A) (hD : PlsAt w w.heap.size d D) (hva : ∀ x ∈ A, Lvl x.s) (hvd : ∀ x ∈ D, Lvl x.s) (y : Int) (hy : errP A D = y) (hne : y ≠ 0) :
    Calls Try.prog 9 #[.slice a A.length ca, .slice d D.length cd, .bool dr] w (LsP w 41 4 0 [] y) := by
  have hjn := joinable_any w (ca := ca) (cd := cd) hA hD hva hvd y hy
  have HR : Hid (∀ X, Below w.heap.size w X → LsP w 41 4 0 [] y (.returned (.tuple #[.slice none 0 0, .int .i64 y])) X) := fun X h => ⟨none, 0, rfl, own_none _ _ _ _, h⟩
  generalize LsP w 41 4 0 [] y = Q at HR ⊢
  clear hA hD hva hvd hy
  go_enter Try.func9, Try.ntmps9
  go_wp2_with fail
  with_reducible refine hjn.mono ?_
  rintro e X ⟨rfl, hb⟩
  have HX : Hid (Q (.returned (.tuple #[.slice none 0 0, .int .i64 y])) X) := HR.out X hb
  clear hb hjn HR
  go_wp2
  exact HX.out

theorem pl_news' (w : World) (x : Pl) : ∀ j u, (plCells [x])[j]? = some u → ∃ ad, (some ⟨w.heap.size, 0, none⟩ : Option Addr) = some ad ∧ (w.alloc (.cells #[.int .u64 x.n, .int .u64 x.s.b, .int .u64 x.s.e, .int .i64 x.s.l] 41)).cell? (ad.add j) = some u := pl_news w x

set_option maxRecDepth 100000 in
set_option maxHeartbeats 2000000 in
theorem outer_ok (w : World) {A D : List Pl} {a d : Option Addr} {ca cd : Nat} (dr : Bool) (hA : PlsAt w w.heap.size a A) (hD : PlsAt w w.heap.size d D) (hva : ∀ x ∈ A, Lvl x.s) (hvd : ∀ x ∈ D, Lvl x.s) (hy : errP A D = 0) :
    Calls Try.prog 9 #[.slice a A.length ca, .slice d D.length cd, .bool dr] w (LsP w 41 4 (ouL (cnF dr A D) A).length (plCells (ouL (cnF dr A D) A)) 0) := by
  obtain ⟨hCan, lA, lD⟩ := err_can hy
  have hjn := joinable_any w (ca := ca) (cd := cd) hA hD hva hvd 0 hy
  have HM : Hid (∀ X, Below w.heap.size w X → Calls Try.prog 26 #[.slice a A.length ca, .slice d D.length cd, .bool dr] X fun e Y => ∃ nr, e = .returned (.slice (some ⟨nr, 0, none⟩) A.length A.length) ∧ Hid (IsCells Y nr (cnA A.length (cnF dr A D))) ∧ Hid (Below w.heap.size w Y)) := fun X h => by
    refine (counts_any X dr ((hA.below h (Nat.le_refl _)).more h.size) ((hD.below h (Nat.le_refl _)).more h.size) hCan lA lD).mono ?_
    rintro e Y ⟨nr, rfl, h1, h2, h3⟩
    exact ⟨nr, rfl, h2, h.trans (h3.mono h.size)⟩
  have HA : Hid (PlsAt w w.heap.size a A) := hA
  have HF : Hid (∀ k, cnF dr A D k ≤ 67108864) := fun k => Nat.le_trans (cnF_le dr A k _) (Nat.mul_le_mul lD lA)
  generalize cnF dr A D = f at HM HF ⊢
  have HQ : Hid (∀ X oa oc, X.ownsRow w.heap.size 41 4 (.slice oa (ouL f A).length oc) (ouL f A).length (plCells (ouL f A)) → Below w.heap.size w X → LsP w 41 4 (ouL f A).length (plCells (ouL f A)) 0 (.returned (.tuple #[.slice oa (ouL f A).length oc, .int .i64 0])) X) := fun X oa oc h1 h2 => ⟨oa, oc, rfl, h1, h2⟩
  generalize LsP w 41 4 (ouL f A).length (plCells (ouL f A)) 0 = Q at HQ ⊢
  clear hA hD hva hvd hy hCan
  go_enter Try.func9, Try.ntmps9
  go_wp2_with fail
  with_reducible refine hjn.mono ?_
  rintro e X ⟨rfl, hb⟩
  have hm := HM.out X hb
  clear hb hjn HM
  go_wp2_with fail
  with_reducible refine hm.mono ?_
  rintro e Y ⟨nr, rfl, HC, HB⟩
  clear hm
  have hwY : w.heap.size ≤ Y.heap.size := HB.out.size
  go_wp2
  go_loopw [9, 23] (fun v9 v23 wr => ∃ (k : Nat) (oa : Option Addr) (oc : Nat), k ≤ A.length ∧ v9 = .slice oa (ouL f (A.take k)).length oc ∧ v23 = .int .i64 (k : Int) ∧ Y.heap.size ≤ wr.heap.size ∧ Hid (wr.ownsRow Y.heap.size 41 4 (.slice oa (ouL f (A.take k)).length oc) (ouL f (A.take k)).length (plCells (ouL f (A.take k))) ∧ Below Y.heap.size Y wr)) (fun _ v _ => A.length - (intOf v).toNat)
  case atStart => exact ⟨0, none, 0, by omega, rfl, rfl, Nat.le_refl _, own_none _ _ _ _, Below.refl _ _⟩
  case round =>
    obtain ⟨k, oa, oc, hk, rfl, rfl, hyz, HS⟩ := hrel
    by_cases hlt : k < A.length
    · obtain ⟨x, hx⟩ : ∃ x, A[k]? = some x := ⟨_, List.getElem?_eq_getElem hlt⟩
      have hwr : Below w.heap.size w wr := HB.out.trans (HS.out.2.mono hwY)
      obtain ⟨g, o, rfl, hg, c0, c1, c2, c3⟩ := (HA.out.below hwr (Nat.le_refl _)) k x hx
      have hgw : g < wr.heap.size := by omega
      have hnr : IsCells wr nr (cnA A.length f) := HC.out.tn (Tn.of_below (A := fun _ => False) HS.out.2 (Nat.le_refl _)) id
      obtain ⟨v, hv⟩ : ∃ v, f k = v := ⟨_, rfl⟩
      have cn : wr.cell? ⟨nr, k, none⟩ = some (.int .i64 (v : Int)) := by rw [hnr.cell k, cnA_at _ hlt, hv]
      have ln := hnr.lt
      have hv8 : v ≤ 67108864 := by rw [← hv]; exact HF.out k
      have hsn := ouL_snoc (f := f) hx
      have hln := ouL_len f A k
      have hk9 : (k : Int) < (A.length : Int) := by omega
      rw [hv] at hsn
      clear hwr hnr hx
      by_cases h0 : 0 < v
      · rw [if_pos h0] at hsn
        obtain ⟨n, hn⟩ : ∃ n, (ouL f (A.take k)).length = n := ⟨_, rfl⟩
        obtain ⟨xs, hxs⟩ : ∃ xs, plCells (ouL f (A.take k)) = xs := ⟨_, rfl⟩
        have HN : Hid ((ouL f (A.take (k + 1))).length = n + 1 ∧ plCells (ouL f (A.take (k + 1))) = xs ++ plCells [x]) := ⟨by rw [hsn]; simp [hn], by rw [hsn, plCells_append, hxs]⟩
        rw [hn] at HS hln ⊢
        rw [hxs] at HS
        have HOW : Hid ((wr.alloc (.cells #[.int .u64 x.n, .int .u64 x.s.b, .int .u64 x.s.e, .int .i64 x.s.l] 41)).ownsRow Y.heap.size 41 4 (.slice oa n oc) n xs) := own_tn HS.out.1 ((Tn.refl (fun _ => False) _).alloc _) (fun _ _ => id)
        have HNX : Hid (∀ va vc w3, w3.ownsRow Y.heap.size 41 4 (.slice va (n + 1) vc) (n + 1) (xs ++ plCells [x]) → (wr.alloc (.cells #[.int .u64 x.n, .int .u64 x.s.b, .int .u64 x.s.e, .int .i64 x.s.l] 41)).grownBy w3 (Value.slice oa n oc).ownBlock → Y.heap.size ≤ w3.heap.size ∧ w3.ownsRow Y.heap.size 41 4 (.slice va (n + 1) vc) (n + 1) (xs ++ plCells [x]) ∧ Below Y.heap.size Y w3) := fun va vc w3 q1 q2 => by
          have hb := (HS.out.2.alloc hyz (.cells #[.int .u64 x.n, .int .u64 x.s.b, .int .u64 x.s.e, .int .i64 x.s.l] 41)).grown q2 (by simp; omega) (fun k hk => (own_block_lt HS.out.1 k hk).1)
          exact ⟨hb.size, q1, hb⟩
        have hvb : decide ((0 : Int) < (v : Int)) = true := by simp; omega
        have hvc : decide (0 < v) = true := by simp; omega
        have tok : True := trivial
        clear hsn hn hxs hv
        go_wp2_with (at_builtin; have _t := tok; refine wpList_app (by rfl) _ _ (by rfl) Try.underlying22 info41 rfl (by decide) Y.heap.size (.slice oa n oc) n xs (by rfl) HOW.out (some ⟨wr.heap.size, 0, none⟩) 1 1 (plCells [x]) (by rfl) (by rfl) (pl_news' wr x) (plCells_one _) (by unfold maxLen; omega) (by omega) (by simp; omega) ?_; intro v1 w3 hown1 hg1 _ hat1; obtain ⟨va, vc, hvv⟩ := own_slice hown1; subst hvv; obtain ⟨hz3, HN2⟩ := HNX.out va vc w3 hown1 hg1; have HN3 : Hid (w3.ownsRow Y.heap.size 41 4 (.slice va (n + 1) vc) (n + 1) (xs ++ plCells [x]) ∧ Below Y.heap.size Y w3) := HN2; clear tok _t hown1 hg1 hat1 HNX HOW HN2)
        go_roundw
        case rel => exact ⟨k + 1, va, vc, by omega, by rw [HN.out.1], by go_num, hz3, by rw [HN.out.1, HN.out.2]; exact HN3⟩
        case measure => simp [intOf]; omega
      · rw [if_neg h0, List.append_nil] at hsn
        have hv0 : v = 0 := by omega
        subst hv0
        have HSN : Hid (ouL f (A.take (k + 1)) = ouL f (A.take k)) := hsn
        clear hsn
        go_wp2
        go_roundw
        case rel => exact ⟨k + 1, oa, oc, by omega, by rw [HSN.out], by go_num, hyz, by rw [HSN.out]; exact HS⟩
        case measure => simp [intOf]; omega
    · have hkl : k = A.length := by omega
      subst hkl
      rw [List.take_length] at HS ⊢
      have HX : Hid (Q (.returned (.tuple #[.slice oa (ouL f A).length oc, .int .i64 0])) wr) := HQ.out wr oa oc (own_less HS.out.1 hwY) (HB.out.trans (HS.out.2.mono hwY))
      go_wp2
      exact HX.out

end Go.Proofs.Ytafpfelgngniiaa
