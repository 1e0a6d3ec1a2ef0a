/- Nearest: the innermost of those that join. -/
import Derived.Test.YtafpfelgngniiaaPrk
namespace Go.Proofs.Ytafpfelgngniiaa
open Go.RowKit
set_option linter.unusedVariables false

set_option maxRecDepth 100000 in
set_option maxHeartbeats 8000000 in
theorem nearest1_tells {N B lb : Nat} {A D : List Pl} {a d : Option Addr} {ca cd : Nat} (hB : B ≤ N) (hl : N + 2 ≤ lb) (lA : A.length ≤ 8192) (lD : D.length ≤ 8192) :
    Tells 29 #[.pointer (some ⟨lb, 0, none⟩), .pointer (some ⟨N, 0, none⟩), .pointer (some ⟨N + 1, 0, none⟩)] false A D (LJ lb 46 2 (fun i => (nrL A (D.take i)).length) (fun i => prCells (nrL A (D.take i))) (ThF N) (NeR N B A D a d ca cd)) := by
  intro i Cj W y oa oc hy hJ hks hkc hkA hap
  have hR := NeR.ok (A := A) (D := D) (a := a) (d := d) (ca := ca) (cd := cd) hB hl
  have hil := (List.getElem?_eq_some_iff.1 hy).1
  obtain ⟨L, hL⟩ : ∃ L, (opn false A y.s).length = L := ⟨_, rfl⟩
  have hnn := nrL_len A D i
  have hsn := nrL_snoc (A := A) hy
  by_cases hs : 0 < L
  · obtain ⟨k, x, hk1, hk2, hkx⟩ := opn_last (dr := false) (A := A) (s := y.s) (by omega)
    have hn1 : nr1 A y = some (x.n, y.n) := by unfold nr1; rw [hk2]; simp only [hkx]
    rw [hn1] at hsn
    simp only [Option.toList] at hsn
    obtain ⟨q, rfl, hq, cq⟩ := hks _ k hk1
    rw [hL] at hkc hkA hap cq ⊢
    have hkl := (List.getElem?_eq_some_iff.1 hkx).1
    obtain ⟨Cl, rfl, ⟨va, vc, h1, h2, rfl⟩, h3⟩ := hJ
    obtain ⟨n, hn⟩ : ∃ n, (nrL A (D.take i)).length = n := ⟨_, rfl⟩
    obtain ⟨xs, hxs⟩ : ∃ xs, prCells (nrL A (D.take i)) = xs := ⟨_, rfl⟩
    have hn1 : (nrL A (D.take (i + 1))).length = n + 1 := by rw [hsn]; simp [hn]
    have hx1 : prCells (nrL A (D.take (i + 1))) = xs ++ prCells [(x.n, y.n)] := by rw [hsn, prCells_append, hxs]
    have HFZ : Hid (∀ wa wc Y, Y.ownsRow (lb + 1) 46 2 (.slice wa (n + 1) wc) (n + 1) (xs ++ prCells [(x.n, y.n)]) → ((W.alloc (.cells #[.int .u64 x.n, .int .u64 y.n] 46)).drew).grownBy Y (Value.slice va n vc).ownBlock → ((Value.slice wa (n + 1) wc).ownBlock = (Value.slice va n vc).ownBlock ∨ (Value.slice wa (n + 1) wc).ownBlock = some ((W.alloc (.cells #[.int .u64 x.n, .int .u64 y.n] 46)).drew).heap.size) →
        Y.cell? ⟨lb, 0, none⟩ = some (.slice va n vc) ∧ Y.frozen? ⟨lb, 0, none⟩ = false ∧ Hid ((∃ v, Ending.returned (.tuple #[]) = Ending.returned v) ∧ ∃ C', Tn (fun b => (b = lb ∨ (Value.slice va n vc).ownBlock = some b) ∨ ThF N b) W (Y.setCell ⟨lb, 0, none⟩ (.slice wa (n + 1) wc)) ∧ (∀ b, C' b → ((b = lb ∨ (Value.slice va n vc).ownBlock = some b) ∨ ThF N b) ∨ W.heap.size ≤ b) ∧ LJ lb 46 2 (fun i => (nrL A (D.take i)).length) (fun i => prCells (nrL A (D.take i))) (ThF N) (NeR N B A D a d ca cd) (i + 1) C' (Y.setCell ⟨lb, 0, none⟩ (.slice wa (n + 1) wc)))) := by
      intro wa wc Y q1 q2 q3
      subst hn hxs
      obtain ⟨g0, g1⟩ := LJ.step (n := fun i => (nrL A (D.take i)).length) (xs := fun i => prCells (nrL A (D.take i))) hR (by omega) hn1 hx1 h1 h2 h3 (((Tn.refl _ _).alloc _).drew) q1 q2 q3
      exact ⟨g0.cell 0, g0.frozen 0, ⟨_, rfl⟩, g1⟩
    simp only [hn] at h1 ⊢
    simp only [hn, hxs] at h2
    generalize hQ : (fun e W' => (∃ v, e = Ending.returned v) ∧ ∃ C', Tn (fun b => (b = lb ∨ (Value.slice va n vc).ownBlock = some b) ∨ ThF N b) W W' ∧ (∀ b, C' b → ((b = lb ∨ (Value.slice va n vc).ownBlock = some b) ∨ ThF N b) ∨ W.heap.size ≤ b) ∧ LJ lb 46 2 (fun i => (nrL A (D.take i)).length) (fun i => prCells (nrL A (D.take i))) (ThF N) (NeR N B A D a d ca cd) (i + 1) C' W') = Q
    have HFY : Hid (∀ wa wc Y, Y.ownsRow (lb + 1) 46 2 (.slice wa (n + 1) wc) (n + 1) (xs ++ prCells [(x.n, y.n)]) → ((W.alloc (.cells #[.int .u64 x.n, .int .u64 y.n] 46)).drew).grownBy Y (Value.slice va n vc).ownBlock → ((Value.slice wa (n + 1) wc).ownBlock = (Value.slice va n vc).ownBlock ∨ (Value.slice wa (n + 1) wc).ownBlock = some ((W.alloc (.cells #[.int .u64 x.n, .int .u64 y.n] 46)).drew).heap.size) → Y.cell? ⟨lb, 0, none⟩ = some (.slice va n vc) ∧ Y.frozen? ⟨lb, 0, none⟩ = false ∧ Hid (Q (.returned (.tuple #[])) (Y.setCell ⟨lb, 0, none⟩ (.slice wa (n + 1) wc)))) := by
      rw [← hQ]
      exact HFZ.out
    clear HFZ hQ hR
    obtain ⟨f, p, rfl, hf, p0, p1, p2, p3⟩ := h3.2.2.1 k x hkx
    obtain ⟨g, o, rfl, hg, c0, c1, c2, c3⟩ := h3.2.2.2 i y hy
    have e1 : W.cell? ⟨lb, 0, none⟩ = some (.slice va n vc) := h1.cell 0
    have e2 : W.cell? ⟨N, 0, none⟩ = some (.slice (some ⟨f, p, none⟩) A.length ca) := h3.1.cell 0
    have e3 : W.cell? ⟨N + 1, 0, none⟩ = some (.slice (some ⟨g, o, none⟩) D.length cd) := h3.2.1.cell 0
    have l1 := h1.lt
    have l2 := h3.1.lt
    have l3 := h3.2.1.lt
    have tA : Tn (fun _ => False) W (W.alloc (.cells #[.int .u64 x.n, .int .u64 y.n] 46)) := (Tn.refl _ _).alloc _
    have HOW : Hid ((W.alloc (.cells #[.int .u64 x.n, .int .u64 y.n] 46)).drew.ownsRow (lb + 1) 46 2 (.slice va n vc) n xs) := own_tn h2 tA.drew (fun _ _ => id)
    have d1 : (W.alloc (.cells #[.int .u64 x.n, .int .u64 y.n] 46)).cell? ⟨lb, 0, none⟩ = some (.slice va n vc) := (tA.cell l1 id).trans e1
    have hn8 : n ≤ 8192 := by omega
    obtain ⟨M, rfl⟩ : ∃ M, L = M + 1 := ⟨L - 1, by omega⟩
    rw [Nat.add_sub_cancel] at cq
    have hi1 : ((M + 1 : Nat) : Int) - 1 = (M : Int) := by omega
    have hM8 : M < 8192 := by omega
    have hM9 : ((M : Int) < (M : Int) + 1) = True := eq_true (by omega)
    have hk9 : (k : Int) < (A.length : Int) := by omega
    have hi9 : (i : Int) < (D.length : Int) := by omega
    have hi2 : IntKind.i64.wrap (M : Int) = (M : Int) := by rw [IntKind.wrap_i64]; omega
    clear tA h1 h2 h3 hsn hn1 hx1 hn hxs hnn hap hy hkx hk1 hk2 hks c1 c2 c3 p1 p2 p3
    simp only [List.append_toArray, List.cons_append, List.nil_append]
    go_enter Try.func29, Try.ntmps29
    go_wp2_with fail
    go_region_law (refine step_app (by rfl) _ _ (by rfl) Try.underlying24 info46 rfl (by decide) (lb + 1) (.slice va n vc) n xs (by rfl) HOW.out (some ⟨W.heap.size, 0, none⟩) 1 1 (prCells [(x.n, y.n)]) (by rfl) (by rfl) (pr_news W x.n y.n) (prCells_one _) (by unfold maxLen; omega) (by omega) (by simp; omega) ?_; intro v1 Y hown1 hg1 _ hat1; obtain ⟨wa, wc, hvv⟩ := own_slice hown1; subst hvv; obtain ⟨c9, f9, j9⟩ := HFY.out wa wc Y hown1 hg1 hat1; clear hown1 hg1 hat1)
    all_goals (
      go_wp2
      refine bodyPost_end (results_none rfl _ _ _) rfl ?_
      exact j9.out)
  · have hn1 : nr1 A y = none := by
      unfold nr1
      rw [show opn false A y.s = [] from List.length_eq_zero_iff.1 (by omega)]
      rfl
    rw [hn1] at hsn
    simp only [Option.toList, List.append_nil] at hsn
    have HZ : Hid ((∃ v, Ending.returned (.tuple #[]) = .returned v) ∧ ∃ C', Tn Cj W W ∧ (∀ b, C' b → Cj b ∨ W.heap.size ≤ b) ∧ LJ lb 46 2 (fun i => (nrL A (D.take i)).length) (fun i => prCells (nrL A (D.take i))) (ThF N) (NeR N B A D a d ca cd) (i + 1) C' W) := ⟨⟨_, rfl⟩, Cj, Tn.refl _ _, fun _ h => .inl h, LJ.skip (by rw [hsn]) (by rw [hsn]) hJ⟩
    rw [hL]
    have hL0 : L = 0 := by omega
    subst hL0
    generalize hQ : (fun e W' => (∃ v, e = Ending.returned v) ∧ ∃ C', Tn Cj W W' ∧ (∀ b, C' b → Cj b ∨ W.heap.size ≤ b) ∧ LJ lb 46 2 (fun i => (nrL A (D.take i)).length) (fun i => prCells (nrL A (D.take i))) (ThF N) (NeR N B A D a d ca cd) (i + 1) C' W') = Q
    have HY : Hid (Q (.returned (.tuple #[])) W) := by rw [← hQ]; exact HZ.out
    clear HZ hQ hsn hnn hR hks hap hy hJ hL hkc hkA hn1
    simp only [List.append_toArray, List.cons_append, List.nil_append]
    go_enter Try.func29, Try.ntmps29
    go_wp2
    refine bodyPost_end (results_none rfl _ _ _) rfl ?_
    exact HY.out

end Go.Proofs.Ytafpfelgngniiaa
