/- The document's Inner and Without. -/
import Derived.Test.YtafpfelgngniiaaRwi
import Derived.Test.YtafpfelgngniiaaInn
namespace Go.Proofs.Ytafpfelgngniiaa
open Go.RowKit
set_option linter.unusedVariables false

theorem rwithin_any (w : World) {A D : List Pl} {a d : Option Addr} {ca cd : Nat} (dr s : Bool) (hA : PlsAt w w.heap.size a A) (hD : PlsAt w w.heap.size d D) (hva : ∀ x ∈ A, Lvl x.s) (hvd : ∀ x ∈ D, Lvl x.s) (cA : A.length ≤ ca) (cD : D.length ≤ cd) :
    Calls Try.prog 28 #[.slice a A.length ca, .slice d D.length cd, .bool dr, .bool s] w (LsP w 41 4 (inE s dr A D).length (plCells (inE s dr A D)) (errP A D)) := by
  unfold inE
  by_cases h : errP A D = 0
  · rw [if_pos h, h]
    exact rwithin_ok w dr s hA hD hva hvd cA cD h
  · rw [if_neg h]
    exact rwithin_err w dr s hA hD hva hvd cA cD _ rfl h

set_option maxRecDepth 100000 in
theorem rinner_any (w : World) {A D : List Pl} {a d : Option Addr} {ca cd : Nat} (dr : Bool) (hA : PlsAt w w.heap.size a A) (hD : PlsAt w w.heap.size d D) (hva : ∀ x ∈ A, Lvl x.s) (hvd : ∀ x ∈ D, Lvl x.s) (cA : A.length ≤ ca) (cD : D.length ≤ cd) :
    Calls Try.prog 12 #[.slice a A.length ca, .slice d D.length cd, .bool dr] w (LsP w 41 4 (inE true dr A D).length (plCells (inE true dr A D)) (errP A D)) := by
  have h := rwithin_any w (ca := ca) (cd := cd) dr true hA hD hva hvd cA cD
  have HE : Hid (∀ e w', LsP w 41 4 (inE true dr A D).length (plCells (inE true dr A D)) (errP A D) e w' → ∃ v u, e = .returned (.tuple #[v, u])) := fun e w' h => by
    obtain ⟨va, vc, rfl, -⟩ := h
    exact ⟨_, _, rfl⟩
  generalize LsP w 41 4 (inE true dr A D).length (plCells (inE true dr A D)) (errP A D) = Q at h HE ⊢
  clear hA hD hva hvd
  go_enter Try.func12, Try.ntmps12
  go_wp2_with fail
  with_reducible refine h.mono ?_
  intro e X hX
  obtain ⟨v, u, rfl⟩ := HE.out e X hX
  have HX : Hid (Q (.returned (.tuple #[v, u])) X) := hX
  clear hX h HE
  go_wp2
  exact HX.out

set_option maxRecDepth 100000 in
theorem rwithout_any (w : World) {A D : List Pl} {a d : Option Addr} {ca cd : Nat} (dr : Bool) (hA : PlsAt w w.heap.size a A) (hD : PlsAt w w.heap.size d D) (hva : ∀ x ∈ A, Lvl x.s) (hvd : ∀ x ∈ D, Lvl x.s) (cA : A.length ≤ ca) (cD : D.length ≤ cd) :
    Calls Try.prog 14 #[.slice a A.length ca, .slice d D.length cd, .bool dr] w (LsP w 41 4 (inE false dr A D).length (plCells (inE false dr A D)) (errP A D)) := by
  have h := rwithin_any w (ca := ca) (cd := cd) dr false hA hD hva hvd cA cD
  have HE : Hid (∀ e w', LsP w 41 4 (inE false dr A D).length (plCells (inE false dr A D)) (errP A D) e w' → ∃ v u, e = .returned (.tuple #[v, u])) := fun e w' h => by
    obtain ⟨va, vc, rfl, -⟩ := h
    exact ⟨_, _, rfl⟩
  generalize LsP w 41 4 (inE false dr A D).length (plCells (inE false dr A D)) (errP A D) = Q at h HE ⊢
  clear hA hD hva hvd
  go_enter Try.func14, Try.ntmps14
  go_wp2_with fail
  with_reducible refine h.mono ?_
  intro e X hX
  obtain ⟨v, u, rfl⟩ := HE.out e X hX
  have HX : Hid (Q (.returned (.tuple #[v, u])) X) := hX
  clear hX h HE
  go_wp2
  exact HX.out

end Go.Proofs.Ytafpfelgngniiaa
