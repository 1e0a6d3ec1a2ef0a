/- Both sides' joins, each as one contract; what they answer is the same. -/
import Derived.Test.YtafpfelgngniiaaPrs2
import Derived.Test.YtafpfelgngniiaaNea2
import Derived.Test.YtafpfelgngniiaaRinn
import Derived.Test.YtafpfelgngniiaaRne
import Derived.Test.YtafpfelgngniiaaRpr2
import Derived.Test.YtafpfelgngniiaaEqs
import Derived.Test.YtafpfelgngniiaaSam
import Derived.Test.YtafpfelgngniiaaCop
namespace Go.Proofs.Ytafpfelgngniiaa
open Go.RowKit
set_option linter.unusedVariables false

theorem plCells_get : ∀ (l : List Pl) (i : Nat) (x : Pl), l[i]? = some x → (plCells l)[i * 4]? = some (.int .u64 x.n) ∧ (plCells l)[i * 4 + 1]? = some (.int .u64 x.s.b) ∧ (plCells l)[i * 4 + 2]? = some (.int .u64 x.s.e) ∧ (plCells l)[i * 4 + 3]? = some (.int .i64 x.s.l)
  | [], i, x, h => by simp at h
  | y :: r, 0, x, h => by
    simp at h
    subst h
    exact ⟨rfl, rfl, rfl, rfl⟩
  | y :: r, i + 1, x, h => by
    have := plCells_get r i x (by simpa using h)
    rw [show (i + 1) * 4 = i * 4 + 4 from by omega]
    simpa [plCells] using this
theorem row_pls {w : World} {base : Nat} {e : TypeId} {a : Option Addr} {n cap : Nat} {L : List Pl} (h : w.ownsRow base e 4 (.slice a n cap) n (plCells L)) : PlsAt w w.heap.size a L := by
  obtain ⟨hc, hl, hcell⟩ := row_cell h
  refine fun i x hx => ?_
  obtain ⟨g1, g2, g3, g4⟩ := plCells_get L i x hx
  obtain ⟨g, rfl, hb, hlt, c1⟩ := hcell _ _ g1
  obtain ⟨g', e', _, _, c2⟩ := hcell _ _ g2
  cases e'
  obtain ⟨g', e', _, _, c3⟩ := hcell _ _ g3
  cases e'
  obtain ⟨g', e', _, _, c4⟩ := hcell _ _ g4
  cases e'
  refine ⟨g, 0, rfl, hlt, ?_, ?_, ?_, ?_⟩
  · simpa using c1
  · simpa using c2
  · simpa using c3
  · simpa using c4
theorem prCells_get : ∀ (l : List (Int × Int)) (i : Nat) (x : Int × Int), l[i]? = some x → (prCells l)[i * 2]? = some (.int .u64 x.1) ∧ (prCells l)[i * 2 + 1]? = some (.int .u64 x.2)
  | [], i, x, h => by simp at h
  | y :: r, 0, x, h => by
    simp at h
    subst h
    exact ⟨rfl, rfl⟩
  | y :: r, i + 1, x, h => by
    have := prCells_get r i x (by simpa using h)
    rw [show (i + 1) * 2 = i * 2 + 2 from by omega]
    simpa [prCells] using this
theorem row_prs {w : World} {base : Nat} {e : TypeId} {a : Option Addr} {n cap : Nat} {L : List (Int × Int)} (h : w.ownsRow base e 2 (.slice a n cap) n (prCells L)) : PrsAt w a L := by
  obtain ⟨hc, hl, hcell⟩ := row_cell h
  refine fun i x hx => ?_
  obtain ⟨g1, g2⟩ := prCells_get L i x hx
  obtain ⟨g, rfl, hb, hlt, c1⟩ := hcell _ _ g1
  obtain ⟨g', e', _, _, c2⟩ := hcell _ _ g2
  cases e'
  refine ⟨g, 0, rfl, hlt, ?_, ?_⟩
  · simpa using c1
  · simpa using c2

/-- What Pairs answers. -/
def prE (dr : Bool) (A D : List Pl) : List (Int × Int) := if errP A D = 0 then (if 16384 < (prL dr A D).length then [] else prL dr A D) else []
def prY (dr : Bool) (A D : List Pl) : Int := if errP A D = 0 then (if 16384 < (prL dr A D).length then 2 else 0) else errP A D
def ouE (dr : Bool) (A D : List Pl) : List Pl := if errP A D = 0 then roL dr D A else []
def coE (dr : Bool) (A D : List Pl) : List Nat := if errP A D = 0 then rcL dr A D else []
def neE (A D : List Pl) : List (Int × Int) := if errP A D = 0 then nrL A D else []

/-- What a function that answers a list and a number leaves: the list's block is new, and what of it is read. -/
def PrQ (w : World) (L : List (Int × Int)) (y : Int) (e : Ending) (w' : World) : Prop := ∃ va vc, e = .returned (.tuple #[.slice va L.length vc, .int .i64 y]) ∧ PrsAt w' va L ∧ Below w.heap.size w w'
def PlQ (w : World) (L : List Pl) (y : Int) (e : Ending) (w' : World) : Prop := ∃ va vc, e = .returned (.tuple #[.slice va L.length vc, .int .i64 y]) ∧ w'.ownsRow w.heap.size 41 4 (.slice va L.length vc) L.length (plCells L) ∧ PlsAt w' w'.heap.size va L ∧ Below w.heap.size w w'
def KsQ (w : World) (L : List Nat) (y : Int) (e : Ending) (w' : World) : Prop := ∃ va vc, e = .returned (.tuple #[.slice va L.length vc, .int .i64 y]) ∧ KsAt w' va L ∧ Below w.heap.size w w'
theorem LsP.prq {w : World} {L : List (Int × Int)} {y : Int} {e : Ending} {w' : World} (h : LsP w 46 2 L.length (prCells L) y e w') : PrQ w L y e w' := by
  obtain ⟨va, vc, h1, h2, h3⟩ := h
  exact ⟨va, vc, h1, row_prs h2, h3⟩
theorem LsP.plq {w : World} {L : List Pl} {y : Int} {e : Ending} {w' : World} (h : LsP w 41 4 L.length (plCells L) y e w') : PlQ w L y e w' := by
  obtain ⟨va, vc, h1, h2, h3⟩ := h
  exact ⟨va, vc, h1, h2, row_pls h2, h3⟩
theorem LsP.ksq {w : World} {L : List Nat} {y : Int} {e : Ending} {w' : World} (h : LsP w 3 1 L.length (ks L) y e w') : KsQ w L y e w' := by
  obtain ⟨va, vc, h1, h2, h3⟩ := h
  exact ⟨va, vc, h1, (row_ks h2).1, h3⟩


theorem pairs_any (w : World) {A D : List Pl} {a d : Option Addr} {ca cd : Nat} (dr : Bool) (hA : PlsAt w w.heap.size a A) (hD : PlsAt w w.heap.size d D) (hva : ∀ x ∈ A, Lvl x.s) (hvd : ∀ x ∈ D, Lvl x.s) :
    Calls Try.prog 6 #[.slice a A.length ca, .slice d D.length cd, .bool dr] w (PrQ w (prE dr A D) (prY dr A D)) := by
  by_cases h0 : errP A D = 0
  · refine (pairs_ok w (ca := ca) (cd := cd) dr hA hD hva hvd h0).mono fun e w' h => ?_
    unfold PrP at h
    unfold prE prY
    rw [if_pos h0, if_pos h0]
    by_cases h1 : 16384 < (prL dr A D).length
    · rw [if_pos h1] at h
      rw [if_pos h1, if_pos h1]
      exact LsP.prq (L := []) h
    · rw [if_neg h1] at h
      rw [if_neg h1, if_neg h1]
      exact h.prq
  · unfold prE prY
    rw [if_neg h0, if_neg h0]
    exact (pairs_err w (ca := ca) (cd := cd) dr hA hD hva hvd _ rfl h0).mono fun e w' h => LsP.prq (L := []) h
theorem rpairs_any (w : World) {A D : List Pl} {a d : Option Addr} {ca cd : Nat} (dr : Bool) (hA : PlsAt w w.heap.size a A) (hD : PlsAt w w.heap.size d D) (hva : ∀ x ∈ A, Lvl x.s) (hvd : ∀ x ∈ D, Lvl x.s) (cA : A.length ≤ ca) (cD : D.length ≤ cd) :
    Calls Try.prog 7 #[.slice a A.length ca, .slice d D.length cd, .bool dr] w (PrQ w (prE dr A D) (prY dr A D)) := by
  by_cases h0 : errP A D = 0
  · refine (rpairs_ok w (ca := ca) (cd := cd) dr hA hD hva hvd cA cD h0).mono fun e w' h => ?_
    unfold PrP at h
    unfold prE prY
    rw [if_pos h0, if_pos h0]
    by_cases h1 : 16384 < (prL dr A D).length
    · rw [if_pos h1] at h
      rw [if_pos h1, if_pos h1]
      exact LsP.prq (L := []) h
    · rw [if_neg h1] at h
      rw [if_neg h1, if_neg h1]
      exact h.prq
  · unfold prE prY
    rw [if_neg h0, if_neg h0]
    exact (rpairs_err w (ca := ca) (cd := cd) dr hA hD hva hvd cA cD _ rfl h0).mono fun e w' h => LsP.prq (L := []) h
theorem nearest_any (w : World) {A D : List Pl} {a d : Option Addr} {ca cd : Nat} (hA : PlsAt w w.heap.size a A) (hD : PlsAt w w.heap.size d D) (hva : ∀ x ∈ A, Lvl x.s) (hvd : ∀ x ∈ D, Lvl x.s) :
    Calls Try.prog 18 #[.slice a A.length ca, .slice d D.length cd] w (PrQ w (neE A D) (errP A D)) := by
  by_cases h0 : errP A D = 0
  · unfold neE
    rw [if_pos h0, h0]
    exact (nearest_ok w (ca := ca) (cd := cd) hA hD hva hvd h0).mono fun e w' h => LsP.prq h
  · unfold neE
    rw [if_neg h0]
    exact (nearest_err w (ca := ca) (cd := cd) hA hD hva hvd _ rfl h0).mono fun e w' h => LsP.prq (L := []) h
theorem rnearest_any (w : World) {A D : List Pl} {a d : Option Addr} {ca cd : Nat} (hA : PlsAt w w.heap.size a A) (hD : PlsAt w w.heap.size d D) (hva : ∀ x ∈ A, Lvl x.s) (hvd : ∀ x ∈ D, Lvl x.s) (cA : A.length ≤ ca) (cD : D.length ≤ cd) :
    Calls Try.prog 19 #[.slice a A.length ca, .slice d D.length cd] w (PrQ w (neE A D) (errP A D)) := by
  by_cases h0 : errP A D = 0
  · unfold neE
    rw [if_pos h0, h0]
    exact (rnearest_ok w (ca := ca) (cd := cd) hA hD hva hvd cA cD h0).mono fun e w' h => LsP.prq h
  · unfold neE
    rw [if_neg h0]
    exact (rnearest_err w (ca := ca) (cd := cd) hA hD hva hvd cA cD _ rfl h0).mono fun e w' h => LsP.prq (L := []) h
theorem outer_any (w : World) {A D : List Pl} {a d : Option Addr} {ca cd : Nat} (dr : Bool) (hA : PlsAt w w.heap.size a A) (hD : PlsAt w w.heap.size d D) (hva : ∀ x ∈ A, Lvl x.s) (hvd : ∀ x ∈ D, Lvl x.s) :
    Calls Try.prog 9 #[.slice a A.length ca, .slice d D.length cd, .bool dr] w (PlQ w (ouE dr A D) (errP A D)) := by
  by_cases h0 : errP A D = 0
  · unfold ouE
    rw [if_pos h0, h0, ← ouL_roL]
    exact (outer_ok w (ca := ca) (cd := cd) dr hA hD hva hvd h0).mono fun e w' h => LsP.plq h
  · unfold ouE
    rw [if_neg h0]
    exact (outer_err w (ca := ca) (cd := cd) dr hA hD hva hvd _ rfl h0).mono fun e w' h => LsP.plq (L := []) h
theorem router_any (w : World) {A D : List Pl} {a d : Option Addr} {ca cd : Nat} (dr : Bool) (hA : PlsAt w w.heap.size a A) (hD : PlsAt w w.heap.size d D) (hva : ∀ x ∈ A, Lvl x.s) (hvd : ∀ x ∈ D, Lvl x.s) (cA : A.length ≤ ca) (cD : D.length ≤ cd) :
    Calls Try.prog 10 #[.slice a A.length ca, .slice d D.length cd, .bool dr] w (PlQ w (ouE dr A D) (errP A D)) := by
  by_cases h0 : errP A D = 0
  · unfold ouE
    rw [if_pos h0, h0]
    exact (router_ok w (ca := ca) (cd := cd) dr hA hD hva hvd cA cD h0).mono fun e w' h => LsP.plq h
  · unfold ouE
    rw [if_neg h0]
    exact (router_err w (ca := ca) (cd := cd) dr hA hD hva hvd cA cD _ rfl h0).mono fun e w' h => LsP.plq (L := []) h
theorem inner_q (w : World) {A D : List Pl} {a d : Option Addr} {ca cd : Nat} (dr : Bool) (hA : PlsAt w w.heap.size a A) (hD : PlsAt w w.heap.size d D) (hva : ∀ x ∈ A, Lvl x.s) (hvd : ∀ x ∈ D, Lvl x.s) :
    Calls Try.prog 11 #[.slice a A.length ca, .slice d D.length cd, .bool dr] w (PlQ w (inE true dr A D) (errP A D)) := (inner_any w (ca := ca) (cd := cd) dr hA hD hva hvd).mono fun e w' h => LsP.plq h
theorem rinner_q (w : World) {A D : List Pl} {a d : Option Addr} {ca cd : Nat} (dr : Bool) (hA : PlsAt w w.heap.size a A) (hD : PlsAt w w.heap.size d D) (hva : ∀ x ∈ A, Lvl x.s) (hvd : ∀ x ∈ D, Lvl x.s) (cA : A.length ≤ ca) (cD : D.length ≤ cd) :
    Calls Try.prog 12 #[.slice a A.length ca, .slice d D.length cd, .bool dr] w (PlQ w (inE true dr A D) (errP A D)) := (rinner_any w (ca := ca) (cd := cd) dr hA hD hva hvd cA cD).mono fun e w' h => LsP.plq h
theorem without_q (w : World) {A D : List Pl} {a d : Option Addr} {ca cd : Nat} (dr : Bool) (hA : PlsAt w w.heap.size a A) (hD : PlsAt w w.heap.size d D) (hva : ∀ x ∈ A, Lvl x.s) (hvd : ∀ x ∈ D, Lvl x.s) :
    Calls Try.prog 13 #[.slice a A.length ca, .slice d D.length cd, .bool dr] w (PlQ w (inE false dr A D) (errP A D)) := (without_any w (ca := ca) (cd := cd) dr hA hD hva hvd).mono fun e w' h => LsP.plq h
theorem rwithout_q (w : World) {A D : List Pl} {a d : Option Addr} {ca cd : Nat} (dr : Bool) (hA : PlsAt w w.heap.size a A) (hD : PlsAt w w.heap.size d D) (hva : ∀ x ∈ A, Lvl x.s) (hvd : ∀ x ∈ D, Lvl x.s) (cA : A.length ≤ ca) (cD : D.length ≤ cd) :
    Calls Try.prog 14 #[.slice a A.length ca, .slice d D.length cd, .bool dr] w (PlQ w (inE false dr A D) (errP A D)) := (rwithout_any w (ca := ca) (cd := cd) dr hA hD hva hvd cA cD).mono fun e w' h => LsP.plq h
theorem count_any (w : World) {A D : List Pl} {a d : Option Addr} {ca cd : Nat} (dr : Bool) (hA : PlsAt w w.heap.size a A) (hD : PlsAt w w.heap.size d D) (hva : ∀ x ∈ A, Lvl x.s) (hvd : ∀ x ∈ D, Lvl x.s) :
    Calls Try.prog 16 #[.slice a A.length ca, .slice d D.length cd, .bool dr] w (KsQ w (coE dr A D) (errP A D)) := by
  by_cases h0 : errP A D = 0
  · unfold coE
    rw [if_pos h0, h0]
    refine (count_ok w (ca := ca) (cd := cd) dr hA hD hva hvd h0).mono fun e w' h => ?_
    obtain ⟨nr, h1, h2, h3, h4⟩ := h
    have hlen : (rcL dr A D).length = A.length := by simp [rcL]
    refine ⟨some ⟨nr, 0, none⟩, A.length, by rw [hlen]; exact h1, fun i j hj => ⟨nr, rfl, h3.lt, ?_⟩, h4⟩
    have h5 := h3.cell i
    rw [h5, ← Array.getElem?_toList, cnA_rcL]
    simp [ks, hj]
  · unfold coE
    rw [if_neg h0]
    exact (count_err w (ca := ca) (cd := cd) dr hA hD hva hvd _ rfl h0).mono fun e w' h => LsP.ksq (L := []) h
theorem rcount_any (w : World) {A D : List Pl} {a d : Option Addr} {ca cd : Nat} (dr : Bool) (hA : PlsAt w w.heap.size a A) (hD : PlsAt w w.heap.size d D) (hva : ∀ x ∈ A, Lvl x.s) (hvd : ∀ x ∈ D, Lvl x.s) (cA : A.length ≤ ca) (cD : D.length ≤ cd) :
    Calls Try.prog 17 #[.slice a A.length ca, .slice d D.length cd, .bool dr] w (KsQ w (coE dr A D) (errP A D)) := by
  by_cases h0 : errP A D = 0
  · unfold coE
    rw [if_pos h0, h0]
    exact (rcount_ok w (ca := ca) (cd := cd) dr hA hD hva hvd cA cD h0).mono fun e w' h => LsP.ksq h
  · unfold coE
    rw [if_neg h0]
    exact (rcount_err w (ca := ca) (cd := cd) dr hA hD hva hvd cA cD _ rfl h0).mono fun e w' h => LsP.ksq (L := []) h

end Go.Proofs.Ytafpfelgngniiaa
