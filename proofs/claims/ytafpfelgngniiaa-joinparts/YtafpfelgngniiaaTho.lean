/- those: what of d is told. -/
import Derived.Test.YtafpfelgngniiaaLb
namespace Go.Proofs.Ytafpfelgngniiaa
open Go.RowKit
set_option linter.unusedVariables false

theorem info41 : InfoOf Try.prog 41 (.agg #[.int .u64 0, .int .u64 0, .int .u64 0, .int .i64 0]) 4 32 := by unfold InfoOf; kernel_rfl
/-- Those of d with which one of a joins, or none. -/
def inL (s dr : Bool) (A : List Pl) (L : List Pl) : List Pl := L.filter (fun y => decide (0 < (opn dr A y.s).length) == s)
def ThR (N B : Nat) (s : Bool) (D : List Pl) (d : Option Addr) (cd : Nat) (W : World) : Prop := IsCells W N #[.slice d D.length cd] ∧ IsCells W (N + 1) #[.bool s] ∧ PlsAt W B d D
def ThF (N : Nat) (b : Nat) : Prop := b = N ∨ b = N + 1
theorem ThR.ok {N B lb : Nat} {s : Bool} {D : List Pl} {d : Option Addr} {cd : Nat} (hB : B ≤ N) (hl : N + 2 ≤ lb) : RxOk (ThR N B s D d cd) (ThF N) B lb := by
  refine ⟨?_, ?_⟩
  · rintro b (h | h) <;> omega
  · rintro A W W' ⟨h1, h2, h3⟩ t hA
    have hb : Below B W W' := t.below (by have := h1.lt; omega) (fun b hb => (hA b hb).1)
    exact ⟨h1.tn t (fun h => (hA _ h).2 (.inl rfl)), h2.tn t (fun h => (hA _ h).2 (.inr rfl)), h3.below hb (Nat.le_refl _)⟩
theorem inL_snoc {s dr : Bool} {A L : List Pl} {i : Nat} {y : Pl} (h : L[i]? = some y) : inL s dr A (L.take (i + 1)) = inL s dr A (L.take i) ++ (if (decide (0 < (opn dr A y.s).length) == s) then [y] else []) := by
  rw [take_snoc h]
  simp only [inL, List.filter_append, List.filter_cons, List.filter_nil]
theorem inL_len (s dr : Bool) (A L : List Pl) (i : Nat) : (inL s dr A (L.take i)).length ≤ L.length := Nat.le_trans (List.length_filter_le _ _) (by simp; omega)

set_option maxRecDepth 100000 in
set_option maxHeartbeats 4000000 in
theorem those1_tells {N B lb : Nat} {s dr : Bool} {A D : List Pl} {d : Option Addr} {cd : Nat} (hB : B ≤ N) (hl : N + 2 ≤ lb) (lA : A.length ≤ 8192) (lD : D.length ≤ 8192) :
    Tells 43 #[.pointer (some ⟨N + 1, 0, none⟩), .pointer (some ⟨lb, 0, none⟩), .pointer (some ⟨N, 0, none⟩)] dr A D (LJ lb 41 4 (fun i => (inL s dr A (D.take i)).length) (fun i => plCells (inL s dr A (D.take i))) (ThF N) (ThR N B s D d cd)) := by
  intro i Cj W y oa oc hy hJ hks hkc hkA hap
  have hR := ThR.ok (s := s) (D := D) (d := d) (cd := cd) hB hl
  have hil := (List.getElem?_eq_some_iff.1 hy).1
  obtain ⟨L, hL⟩ : ∃ L, (opn dr A y.s).length = L := ⟨_, rfl⟩
  rw [hL] at hkc hkA hap ⊢
  obtain ⟨bb, hbb⟩ : ∃ bb : Bool, decide (0 < L) = bb := ⟨_, rfl⟩
  have hnn := inL_len s dr A D i
  have hsn := inL_snoc (s := s) (dr := dr) (A := A) hy
  rw [hL, hbb] at hsn
  by_cases hs : bb = s
  · subst hs
    obtain ⟨Cl, rfl, ⟨va, vc, h1, h2, rfl⟩, h3⟩ := hJ
    simp only [beq_self_eq_true, if_true] at hsn
    obtain ⟨n, hn⟩ : ∃ n, (inL bb dr A (D.take i)).length = n := ⟨_, rfl⟩
    obtain ⟨xs, hxs⟩ : ∃ xs, plCells (inL bb dr A (D.take i)) = xs := ⟨_, rfl⟩
    have hn1 : (inL bb dr A (D.take (i + 1))).length = n + 1 := by rw [hsn]; simp [hn]
    have hx1 : plCells (inL bb dr A (D.take (i + 1))) = xs ++ plCells [y] := by rw [hsn, plCells_append, hxs]
    obtain ⟨g, o, rfl, hg, c0, c1, c2, c3⟩ := h3.2.2 i y hy
    have HFZ : Hid (∀ wa wc Y, Y.ownsRow (lb + 1) 41 4 (.slice wa (n + 1) wc) (n + 1) (xs ++ plCells [y]) → ((W.alloc (.cells #[.int .u64 y.n, .int .u64 y.s.b, .int .u64 y.s.e, .int .i64 y.s.l] 41)).drew).grownBy Y (Value.slice va n vc).ownBlock → ((Value.slice wa (n + 1) wc).ownBlock = (Value.slice va n vc).ownBlock ∨ (Value.slice wa (n + 1) wc).ownBlock = some ((W.alloc (.cells #[.int .u64 y.n, .int .u64 y.s.b, .int .u64 y.s.e, .int .i64 y.s.l] 41)).drew).heap.size) →
        Y.cell? ⟨lb, 0, none⟩ = some (.slice va n vc) ∧ Y.frozen? ⟨lb, 0, none⟩ = false ∧ Hid ((∃ v, Ending.returned (.tuple #[]) = .returned v) ∧ ∃ C', Tn (fun b => (b = lb ∨ (Value.slice va n vc).ownBlock = some b) ∨ ThF N b) W (Y.setCell ⟨lb, 0, none⟩ (.slice wa (n + 1) wc)) ∧ (∀ b, C' b → ((b = lb ∨ (Value.slice va n vc).ownBlock = some b) ∨ ThF N b) ∨ W.heap.size ≤ b) ∧ LJ lb 41 4 (fun i => (inL bb dr A (D.take i)).length) (fun i => plCells (inL bb dr A (D.take i))) (ThF N) (ThR N B bb D (some ⟨g, o, none⟩) cd) (i + 1) C' (Y.setCell ⟨lb, 0, none⟩ (.slice wa (n + 1) wc)))) := by
      intro wa wc Y q1 q2 q3
      subst hn hxs
      obtain ⟨g0, g1⟩ := LJ.step (n := fun i => (inL bb dr A (D.take i)).length) (xs := fun i => plCells (inL bb dr A (D.take i))) hR (by omega) hn1 hx1 h1 h2 h3 (((Tn.refl _ _).alloc _).drew) q1 q2 q3
      exact ⟨g0.cell 0, g0.frozen 0, ⟨_, rfl⟩, g1⟩
    simp only [hn] at h1 ⊢
    simp only [hn, hxs] at h2
    have e1 : W.cell? ⟨lb, 0, none⟩ = some (.slice va n vc) := h1.cell 0
    have e2 : W.cell? ⟨N, 0, none⟩ = some (.slice (some ⟨g, o, none⟩) D.length cd) := h3.1.cell 0
    have e3 : W.cell? ⟨N + 1, 0, none⟩ = some (.bool bb) := h3.2.1.cell 0
    have l1 := h1.lt
    have l2 := h3.1.lt
    have l3 := h3.2.1.lt
    have lg : g < W.heap.size := by omega
    have tA : Tn (fun _ => False) W (W.alloc (.cells #[.int .u64 y.n, .int .u64 y.s.b, .int .u64 y.s.e, .int .i64 y.s.l] 41)) := (Tn.refl _ _).alloc _
    have HOW : Hid ((W.alloc (.cells #[.int .u64 y.n, .int .u64 y.s.b, .int .u64 y.s.e, .int .i64 y.s.l] 41)).drew.ownsRow (lb + 1) 41 4 (.slice va n vc) n xs) := own_tn h2 tA.drew (fun _ _ => id)
    have d1 : (W.alloc (.cells #[.int .u64 y.n, .int .u64 y.s.b, .int .u64 y.s.e, .int .i64 y.s.l] 41)).cell? ⟨lb, 0, none⟩ = some (.slice va n vc) := (tA.cell l1 id).trans e1
    have hbi : decide ((0 : Int) < (L : Int)) = bb := by rw [← hbb]; exact decide_eq_decide.2 (by omega)
    generalize hQ : (fun e W' => (∃ v, e = Ending.returned v) ∧ ∃ C', Tn (fun b => (b = lb ∨ (Value.slice va n vc).ownBlock = some b) ∨ ThF N b) W W' ∧ (∀ b, C' b → ((b = lb ∨ (Value.slice va n vc).ownBlock = some b) ∨ ThF N b) ∨ W.heap.size ≤ b) ∧ LJ lb 41 4 (fun i => (inL bb dr A (D.take i)).length) (fun i => plCells (inL bb dr A (D.take i))) (ThF N) (ThR N B bb D (some ⟨g, o, none⟩) cd) (i + 1) C' W') = Q
    have HFY : Hid (∀ wa wc Y, Y.ownsRow (lb + 1) 41 4 (.slice wa (n + 1) wc) (n + 1) (xs ++ plCells [y]) → ((W.alloc (.cells #[.int .u64 y.n, .int .u64 y.s.b, .int .u64 y.s.e, .int .i64 y.s.l] 41)).drew).grownBy Y (Value.slice va n vc).ownBlock → ((Value.slice wa (n + 1) wc).ownBlock = (Value.slice va n vc).ownBlock ∨ (Value.slice wa (n + 1) wc).ownBlock = some ((W.alloc (.cells #[.int .u64 y.n, .int .u64 y.s.b, .int .u64 y.s.e, .int .i64 y.s.l] 41)).drew).heap.size) → Y.cell? ⟨lb, 0, none⟩ = some (.slice va n vc) ∧ Y.frozen? ⟨lb, 0, none⟩ = false ∧ Hid (Q (.returned (.tuple #[])) (Y.setCell ⟨lb, 0, none⟩ (.slice wa (n + 1) wc)))) := by
      rw [← hQ]
      exact HFZ.out
    have hn8 : n ≤ 8192 := by omega
    clear HFZ hQ h1 h2 h3 hsn hn1 hx1 hn hxs hnn hR hks hap hy hbi
    simp only [List.append_toArray, List.cons_append, List.nil_append]
    go_enter Try.func43, Try.ntmps43
    go_wp2_with fail
    go_region_law (refine step_app (by rfl) _ _ (by rfl) Try.underlying22 info41 rfl (by decide) (lb + 1) (.slice va n vc) n xs (by rfl) HOW.out (some ⟨W.heap.size, 0, none⟩) 1 1 (plCells [y]) (by rfl) (by rfl) (pl_news W y) (plCells_one _) (by unfold maxLen; omega) (by omega) (by simp; omega) ?_; intro v1 Y hown1 hg1 _ hat1; obtain ⟨wa, wc, hvv⟩ := own_slice hown1; subst hvv; obtain ⟨c9, f9, j9⟩ := HFY.out wa wc Y hown1 hg1 hat1; clear hown1 hg1 hat1)
    all_goals (
      go_wp2
      refine bodyPost_end (results_none rfl _ _ _) rfl ?_
      exact j9.out)
  · have hsb : (bb == s) = false := by cases bb <;> cases s <;> simp_all
    rw [hsb] at hsn
    simp only [Bool.false_eq_true, if_false, List.append_nil] at hsn
    have HZ : Hid ((∃ v, Ending.returned (.tuple #[]) = .returned v) ∧ ∃ C', Tn Cj W W ∧ (∀ b, C' b → Cj b ∨ W.heap.size ≤ b) ∧ LJ lb 41 4 (fun i => (inL s dr A (D.take i)).length) (fun i => plCells (inL s dr A (D.take i))) (ThF N) (ThR N B s D d cd) (i + 1) C' W) := ⟨⟨_, rfl⟩, Cj, Tn.refl _ _, fun _ h => .inl h, LJ.skip (by rw [hsn]) (by rw [hsn]) hJ⟩
    obtain ⟨Cl, hC, -, h3⟩ := hJ
    have e3 : W.cell? ⟨N + 1, 0, none⟩ = some (.bool s) := h3.2.1.cell 0
    have l3 := h3.2.1.lt
    have hbi : decide ((0 : Int) < (L : Int)) = bb := by rw [← hbb]; exact decide_eq_decide.2 (by omega)
    generalize hQ : (fun e W' => (∃ v, e = Ending.returned v) ∧ ∃ C', Tn Cj W W' ∧ (∀ b, C' b → Cj b ∨ W.heap.size ≤ b) ∧ LJ lb 41 4 (fun i => (inL s dr A (D.take i)).length) (fun i => plCells (inL s dr A (D.take i))) (ThF N) (ThR N B s D d cd) (i + 1) C' W') = Q
    have HY : Hid (Q (.returned (.tuple #[])) W) := by rw [← hQ]; exact HZ.out
    have hbs : (bb = s) = False := eq_false hs
    clear HZ hQ h3 hC hsn hnn hR hks hap hy hbi hs hbs
    simp only [List.append_toArray, List.cons_append, List.nil_append]
    go_enter Try.func43, Try.ntmps43
    go_wp2
    refine bodyPost_end (results_none rfl _ _ _) rfl ?_
    exact HY.out

end Go.Proofs.Ytafpfelgngniiaa
