/- The document's Pairs. -/
import Derived.Test.YtafpfelgngniiaaRwi
import Derived.Test.YtafpfelgngniiaaPrs2
namespace Go.Proofs.Ytafpfelgngniiaa
open Go.RowKit
set_option linter.unusedVariables false
attribute [local go_sem] Bel.cell Bel.fz

def pD (dr : Bool) (A : List Pl) (s : Sp) (j : Nat) : Bool := match A[j]? with | none => false | some x => jns dr x.s s
theorem pD_at {dr : Bool} {A : List Pl} {s : Sp} {k : Nat} {x : Pl} (h : A[k]? = some x) : pD dr A s k = jns dr x.s s := by unfold pD; rw [h]
def oD (dr : Bool) (A : List Pl) (s : Sp) (K : Nat) : List Nat := (List.range K).filter (pD dr A s)
theorem opn_oD (dr : Bool) (A : List Pl) (s : Sp) : opn dr A s = oD dr A s A.length := rfl
theorem oD_snoc {dr : Bool} {A : List Pl} {s : Sp} {k : Nat} {x : Pl} (h : A[k]? = some x) : oD dr A s (k + 1) = oD dr A s k ++ (if jns dr x.s s then [k] else []) := by
  unfold oD
  rw [List.range_succ, List.filter_append]
  congr 1
  have e := pD_at (dr := dr) (s := s) h
  cases e1 : jns dr x.s s <;> simp [e, e1]
theorem oD_all {dr : Bool} {A D : List Pl} (hCan : Can A D) {y : Pl} {k : Nat} (hk : k ≤ A.length) (h : ∀ x, A[k]? = some x → y.s.b ≤ x.s.b) : oD dr A y.s k = opn dr A y.s := by
  rw [opn_oD]
  unfold oD
  obtain ⟨m, hm⟩ : ∃ m, A.length = k + m := ⟨A.length - k, by omega⟩
  have hn : ((List.range m).map (fun x => k + x)).filter (pD dr A y.s) = [] := by
    rw [List.filter_eq_nil_iff]
    intro j hj
    simp only [List.mem_map, List.mem_range] at hj
    obtain ⟨q, hq, rfl⟩ := hj
    obtain ⟨z, hz⟩ : ∃ z, A[k + q]? = some z := ⟨_, List.getElem?_eq_getElem (by omega)⟩
    obtain ⟨x, hx⟩ : ∃ x, A[k]? = some x := ⟨_, List.getElem?_eq_getElem (by omega)⟩
    have h1 := h x hx
    have h2 : x.s.b ≤ z.s.b := by
      rcases Nat.eq_zero_or_pos q with h0 | h0
      · subst h0
        rw [Nat.add_zero, hx] at hz
        cases hz
        omega
      · have := pw_lt hCan.ra (show k < k + q by omega) hx hz
        omega
    rw [pD_at hz]
    simp [jns, anc]
    intro h3
    omega
  rw [hm, List.range_add, List.filter_append, hn, List.append_nil]
theorem oD_pre {dr : Bool} {A : List Pl} {s : Sp} {k : Nat} (hk : k ≤ A.length) : (oD dr A s k).length ≤ (opn dr A s).length := by
  rw [opn_oD]
  unfold oD
  obtain ⟨m, hm⟩ : ∃ m, A.length = k + m := ⟨A.length - k, by omega⟩
  rw [hm, List.range_add, List.filter_append, List.length_append]
  omega
theorem oD_lt {dr : Bool} {A : List Pl} {s : Sp} {k : Nat} (hk : k ≤ A.length) : ∀ j ∈ oD dr A s k, j < A.length := fun j hj => by
  simp only [oD, List.mem_filter, List.mem_range] at hj
  omega
theorem prO_app {A : List Pl} {y : Pl} (l m : List Nat) : prO A y (l ++ m) = prO A y l ++ prO A y m := by simp [prO]
theorem prL_pre {dr : Bool} {A D : List Pl} {i : Nat} : (prL dr A (D.take i)).length ≤ (prL dr A D).length := by
  have e : prL dr A D = prL dr A (D.take i) ++ prL dr A (D.drop i) := by
    unfold prL
    rw [← List.flatMap_append, List.take_append_drop]
  rw [e, List.length_append]
  omega

set_option maxRecDepth 100000 in
theorem rpairs_err (w : World) {A D : List Pl} {a d : Option Addr} {ca cd : Nat} (dr : Bool) (hA : PlsAt w w.heap.size a A) (hD : PlsAt w w.heap.size d D) (hva : ∀ x ∈ A, Lvl x.s) (hvd : ∀ x ∈ D, Lvl x.s) (cA : A.length ≤ ca) (cD : D.length ≤ cd) (y : Int) (hy : errP A D = y) (hne : y ≠ 0) :
    Calls Try.prog 7 #[.slice a A.length ca, .slice d D.length cd, .bool dr] w (LsP w 46 2 0 [] y) := by
  have hjn := rfits_any w (ca := ca) (cd := cd) hA hD hva hvd cA cD y (by rw [← err_eq]; exact hy)
  have HR : Hid (∀ X, Below w.heap.size w X → LsP w 46 2 0 [] y (.returned (.tuple #[.slice none 0 0, .int .i64 y])) X) := fun X h => ⟨none, 0, rfl, own_none _ _ _ _, h⟩
  generalize LsP w 46 2 0 [] y = Q at HR ⊢
  clear hA hD hva hvd hy
  go_enter Try.func7, Try.ntmps7
  go_wp2_with fail
  with_reducible refine hjn.mono ?_
  rintro e X ⟨rfl, hb⟩
  have HX : Hid (Q (.returned (.tuple #[.slice none 0 0, .int .i64 y])) X) := HR.out X hb
  clear hb hjn HR
  go_wp2
  exact HX.out

end Go.Proofs.Ytafpfelgngniiaa
