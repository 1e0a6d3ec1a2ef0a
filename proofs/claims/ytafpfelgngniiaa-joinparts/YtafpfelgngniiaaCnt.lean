/- counts: with how many each joins. -/
import Derived.Test.YtafpfelgngniiaaTho2
namespace Go.Proofs.Ytafpfelgngniiaa
open Go.RowKit
set_option linter.unusedVariables false

def cnA (n : Nat) (f : Nat → Nat) : Array Value := Array.ofFn (fun k : Fin n => .int .i64 (f k : Int))
theorem cnA_at {n k : Nat} (f : Nat → Nat) (h : k < n) : (cnA n f)[k]? = some (.int .i64 (f k : Int)) := by simp [cnA, h]
theorem cnA_set {n k : Nat} {f g : Nat → Nat} (hk : g k = f k + 1) (hj : ∀ j, j ≠ k → g j = f j) : (cnA n f).setIfInBounds k (.int .i64 ((f k : Int) + 1)) = cnA n g := by
  apply Array.ext
  · simp [cnA]
  · intro j h1 h2
    have h3 : j < (cnA n f).size := by simpa [cnA] using h2
    rw [Array.getElem_setIfInBounds h3]
    by_cases e : k = j
    · subst e
      simp [cnA, hk]
    · rw [if_neg e]
      simp [cnA, hj j (fun h => e h.symm)]
/-- In how many of L one was told. -/
def cnF (dr : Bool) (A L : List Pl) (k : Nat) : Nat := (L.map (fun y => (opn dr A y.s).count k)).sum
theorem cnF_snoc {dr : Bool} {A L : List Pl} {i : Nat} {y : Pl} (h : L[i]? = some y) (k : Nat) : cnF dr A (L.take (i + 1)) k = cnF dr A (L.take i) k + (opn dr A y.s).count k := by
  rw [take_snoc h]
  simp [cnF]
theorem opn_len (dr : Bool) (A : List Pl) (s : Sp) : (opn dr A s).length ≤ A.length := Nat.le_trans (List.length_filter_le _ _) (by simp)
theorem cnF_le (dr : Bool) (A : List Pl) (k : Nat) : ∀ L, cnF dr A L k ≤ L.length * A.length
  | [] => by simp [cnF]
  | y :: r => by
    have h1 := cnF_le dr A k r
    have h2 : (opn dr A y.s).count k ≤ A.length := Nat.le_trans List.count_le_length (opn_len dr A y.s)
    simp only [cnF, List.map_cons, List.sum_cons, List.length_cons, Nat.add_mul] at h1 ⊢
    omega
theorem count_snoc_ne {l : List Nat} {j k q : Nat} (hk : l[j]? = some k) (hq : q ≠ k) : (l.take (j + 1)).count q = (l.take j).count q := by
  rw [take_snoc hk, List.count_append]
  have e : (k == q) = false := beq_false_of_ne (fun h => hq h.symm)
  simp [List.count_cons, e]
theorem count_snoc_eq {l : List Nat} {j k : Nat} (hk : l[j]? = some k) : (l.take (j + 1)).count k = (l.take j).count k + 1 := by
  rw [take_snoc hk, List.count_append]
  simp
def CJ (nb nr n : Nat) (f : Nat → Nat → Nat) : TeI := fun i C W => C = (fun b => b = nb ∨ b = nr) ∧ IsCells W nb #[.slice (some ⟨nr, 0, none⟩) n n] ∧ IsCells W nr (cnA n (f i))
theorem CJ.ok {nb nr n B : Nat} {f : Nat → Nat → Nat} (h1 : B ≤ nb) (h2 : B ≤ nr) : TeOk (CJ nb nr n f) B := by
  refine ⟨?_, ?_⟩
  · rintro i C W ⟨rfl, g1, g2⟩ b (rfl | rfl)
    · exact ⟨h1, g1.lt⟩
    · exact ⟨h2, g2.lt⟩
  · rintro i C A W W' ⟨rfl, g1, g2⟩ t hA
    exact ⟨rfl, g1.tn t (fun h => (hA _ h).2 (.inl rfl)), g2.tn t (fun h => (hA _ h).2 (.inr rfl))⟩

set_option maxRecDepth 100000 in
set_option maxHeartbeats 4000000 in
theorem counts1_tells {nb nr : Nat} {dr : Bool} {A D : List Pl} (hne : nb ≠ nr) (lA : A.length ≤ 8192) (lD : D.length ≤ 8192) :
    Tells 42 #[.pointer (some ⟨nb, 0, none⟩)] dr A D (CJ nb nr A.length (fun i => cnF dr A (D.take i))) := by
  rintro i Cj W y oa oc hy ⟨rfl, h1, h2⟩ hks hkc hkA hap
  have hsn := cnF_snoc (dr := dr) (A := A) hy
  have hlt : ∀ k ∈ opn dr A y.s, k < A.length := fun k hk => by
    simp only [opn, List.mem_filter, List.mem_range] at hk
    exact hk.1
  have hle : ∀ k, cnF dr A (D.take i) k ≤ 67108864 := fun k => by
    refine Nat.le_trans (cnF_le dr A k _) ?_
    have : (D.take i).length ≤ 8192 := by simp; omega
    exact Nat.mul_le_mul this lA
  generalize opn dr A y.s = l at hks hkc hkA hap hsn hlt ⊢
  have HE : Hid (∀ X, Tn (fun b => b = nr) W X → IsCells X nr (cnA A.length (fun k => cnF dr A (D.take i) k + l.count k)) → (∃ v, Ending.returned (.tuple #[]) = .returned v) ∧ ∃ C', Tn (fun b => b = nb ∨ b = nr) W X ∧ (∀ b, C' b → (b = nb ∨ b = nr) ∨ W.heap.size ≤ b) ∧ CJ nb nr A.length (fun i => cnF dr A (D.take i)) (i + 1) C' X) := fun X t h => by
    refine ⟨⟨_, rfl⟩, _, t.mono (fun _ _ h => .inr h), fun _ h => .inl h, rfl, h1.tn t hne, ?_⟩
    have e : cnF dr A (D.take (i + 1)) = fun k => cnF dr A (D.take i) k + l.count k := funext hsn
    show IsCells X nr (cnA A.length (cnF dr A (D.take (i + 1))))
    rw [e]
    exact h
  have HK : Hid (∀ X, Tn (fun b => b = nr) W X → ∀ j k : Nat, l[j]? = some k → ∃ g, oa = some ⟨g, 0, none⟩ ∧ g < X.heap.size ∧ X.cell? ⟨g, j, none⟩ = some (.int .i64 (k : Int))) := fun X t j k hj => by
    obtain ⟨g, rfl, hg, hc⟩ := hks j k hj
    refine ⟨g, rfl, Nat.lt_of_lt_of_le hg t.size, (t.cell hg (fun e => ?_)).trans hc⟩
    exact hap g rfl (.inr e)
  have HB : Hid (∀ X, Tn (fun b => b = nr) W X → IsCells X nb #[.slice (some ⟨nr, 0, none⟩) A.length A.length]) := fun X t => h1.tn t hne
  generalize hQ : (fun e W' => (∃ v, e = Ending.returned v) ∧ ∃ C', Tn (fun b => b = nb ∨ b = nr) W W' ∧ (∀ b, C' b → (b = nb ∨ b = nr) ∨ W.heap.size ≤ b) ∧ CJ nb nr A.length (fun i => cnF dr A (D.take i)) (i + 1) C' W') = Q
  have HQ : Hid (∀ X, Tn (fun b => b = nr) W X → IsCells X nr (cnA A.length (fun k => cnF dr A (D.take i) k + l.count k)) → Q (.returned (.tuple #[])) X) := by rw [← hQ]; exact HE.out
  have HL : Hid (∀ k ∈ l, k < A.length) := hlt
  have HC : Hid (∀ k, cnF dr A (D.take i) k ≤ 67108864) := hle
  have H0 : Hid (IsCells W nr (cnA A.length (fun k => cnF dr A (D.take i) k + (l.take 0).count k))) := h2
  generalize cnF dr A (D.take i) = f at HQ HC H0
  clear HE hQ h1 h2 hks hap hsn hlt hle hy
  simp only [List.append_toArray, List.cons_append, List.nil_append]
  go_enter Try.func42, Try.ntmps42
  go_wp2
  go_loopw [9] (fun u wr => ∃ j : Nat, j ≤ l.length ∧ u = .int .i64 (j : Int) ∧ Hid (Tn (fun b => b = nr) W wr ∧ IsCells wr nr (cnA A.length (fun k => f k + (l.take j).count k)))) (fun u _ => l.length - (intOf u).toNat)
  case atStart => exact ⟨0, by omega, rfl, Tn.refl _ _, H0.out⟩
  case round =>
    obtain ⟨j, hj, rfl, HS⟩ := hrel
    by_cases hlt : j < l.length
    · obtain ⟨k, hk⟩ : ∃ k, l[j]? = some k := ⟨_, List.getElem?_eq_getElem hlt⟩
      obtain ⟨g, rfl, hg, c1⟩ := HK.out wr HS.out.1 j k hk
      have hkA := HL.out k (List.mem_of_getElem? hk)
      have c2 : wr.cell? ⟨nb, 0, none⟩ = some (.slice (some ⟨nr, 0, none⟩) A.length A.length) := (HB.out wr HS.out.1).cell 0
      have l2 := (HB.out wr HS.out.1).lt
      obtain ⟨v, hv⟩ : ∃ v, f k + (l.take j).count k = v := ⟨_, rfl⟩
      have c3 : wr.cell? ⟨nr, k, none⟩ = some (.int .i64 (v : Int)) := by rw [HS.out.2.cell k, cnA_at _ hkA, ← hv]
      have f3 : wr.frozen? ⟨nr, k, none⟩ = false := HS.out.2.frozen k
      have l3 := HS.out.2.lt
      have hv8 : v ≤ 67117056 := by
        have h1 := HC.out k
        have h2 : (l.take j).count k ≤ (l.take j).length := List.count_le_length
        simp at h2
        omega
      have HN : Hid (Tn (fun b => b = nr) W (wr.setCell ⟨nr, k, none⟩ (.int .i64 ((v : Int) + 1))) ∧ IsCells (wr.setCell ⟨nr, k, none⟩ (.int .i64 ((v : Int) + 1))) nr (cnA A.length (fun k => f k + (l.take (j + 1)).count k))) := by
        refine ⟨HS.out.1.trans (Tn.one _ _ _ _) (fun _ _ h => h), ?_⟩
        have h := HS.out.2.set k (.int .i64 ((v : Int) + 1))
        have e := cnA_set (n := A.length) (k := k) (f := fun k => f k + (l.take j).count k) (g := fun k => f k + (l.take (j + 1)).count k) (by show _ = _; simp only [count_snoc_eq hk]; omega) (fun q hq => by show _ = _; simp only [count_snoc_ne hk hq])
        rw [← hv] at h ⊢
        rw [e] at h
        exact h
      have hk9 : (k : Int) < (A.length : Int) := by omega
      clear hv hk
      go_wp2
      go_roundw
      case rel => exact ⟨j + 1, by omega, by go_num, HN.out⟩
      case measure => simp [intOf]; omega
    · have hjl : j = l.length := by omega
      subst hjl
      have HZ : Hid (Q (.returned (.tuple #[])) wr) := HQ.out wr HS.out.1 (by have := HS.out.2; rwa [List.take_length] at this)
      go_wp2
      refine bodyPost_end (results_none rfl _ _ _) rfl ?_
      exact HZ.out

end Go.Proofs.Ytafpfelgngniiaa
