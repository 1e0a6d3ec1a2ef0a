/- Pairs' own function. -/
import Derived.Test.YtafpfelgngniiaaPrk
import Derived.Test.YtafpfelgngniiaaCnt
namespace Go.Proofs.Ytafpfelgngniiaa
open Go.RowKit
set_option linter.unusedVariables false

def prO (A : List Pl) (y : Pl) (l : List Nat) : List (Int × Int) := l.filterMap (fun k => (A[k]?).map (fun x => (x.n, y.n)))
def prL (dr : Bool) (A L : List Pl) : List (Int × Int) := L.flatMap (fun y => prO A y (opn dr A y.s))
theorem prL_snoc {dr : Bool} {A L : List Pl} {i : Nat} {y : Pl} (h : L[i]? = some y) : prL dr A (L.take (i + 1)) = prL dr A (L.take i) ++ prO A y (opn dr A y.s) := by
  rw [take_snoc h]
  simp [prL]
theorem prO_snoc {A : List Pl} {y x : Pl} {l : List Nat} {j k : Nat} (h : l[j]? = some k) (hx : A[k]? = some x) : prO A y (l.take (j + 1)) = prO A y (l.take j) ++ [(x.n, y.n)] := by
  rw [take_snoc h]
  simp [prO, hx]
theorem prO_len {A : List Pl} {y : Pl} : ∀ {l : List Nat}, (∀ k ∈ l, k < A.length) → (prO A y l).length = l.length
  | [], _ => rfl
  | k :: r, h => by
    have hk := h k (by simp)
    have hr := prO_len (A := A) (y := y) (l := r) (fun j hj => h j (by simp [hj]))
    simp only [prO] at hr
    simp [prO, List.getElem?_eq_getElem hk, hr]
theorem opn_lt {dr : Bool} {A : List Pl} {s : Sp} : ∀ k ∈ opn dr A s, k < A.length := fun k hk => by
  simp only [opn, List.mem_filter, List.mem_range] at hk
  exact hk.1
theorem prL_len (dr : Bool) (A : List Pl) : ∀ L, (prL dr A L).length ≤ L.length * A.length
  | [] => by simp [prL]
  | y :: r => by
    have h1 := prL_len dr A r
    have h2 : (prO A y (opn dr A y.s)).length ≤ A.length := by rw [prO_len opn_lt]; exact opn_len dr A y.s
    simp only [prL, List.flatMap_cons, List.length_append, List.length_cons, Nat.add_mul] at h1 ⊢
    omega
/-- Pairs under way: the list, and how many there are. -/
def PJ (N lb cb B : Nat) (dr : Bool) (A D : List Pl) (a d : Option Addr) (ca cd : Nat) : TeI := fun i C W => ∃ Cl n xs, C = (fun b => Cl b ∨ b = cb ∨ ThF N b) ∧ ¬ Cl cb ∧ LbI lb 46 2 n xs Cl W ∧ n ≤ 16384 ∧ ((prL dr A (D.take i)).length ≤ 16384 → n = (prL dr A (D.take i)).length ∧ xs = prCells (prL dr A (D.take i))) ∧ IsCells W cb #[.int .i64 ((prL dr A (D.take i)).length : Int)] ∧ NeR N B A D a d ca cd W
theorem PJ.ok {N lb cb B : Nat} {dr : Bool} {A D : List Pl} {a d : Option Addr} {ca cd : Nat} (hB : B ≤ N) (hl : N + 2 ≤ lb) (hc : lb < cb) : TeOk (PJ N lb cb B dr A D a d ca cd) B := by
  have hR := NeR.ok (N := N) (B := B) (lb := lb) (A := A) (D := D) (a := a) (d := d) (ca := ca) (cd := cd) hB hl
  refine ⟨?_, ?_⟩
  · rintro i C W ⟨Cl, n, xs, rfl, h1, h2, h3, h4, h5, h6⟩ b (hb | rfl | hb)
    · have := h2.lt b hb; omega
    · exact ⟨by omega, h5.lt⟩
    · have := hR.fx b hb
      have := h5.lt
      omega
  · rintro i C Q W W' ⟨Cl, n, xs, rfl, h1, h2, h3, h4, h5, h6⟩ t hQ
    exact ⟨Cl, n, xs, rfl, h1, h2.tn t (fun b hb hc => (hQ b hb).2 (.inl hc)), h3, h4, h5.tn t (fun h => (hQ _ h).2 (.inr (.inl rfl))), hR.stab h6 t (fun b hb => ⟨(hQ b hb).1, fun hf => (hQ b hb).2 (.inr (.inr hf))⟩)⟩

set_option maxRecDepth 100000 in
set_option maxHeartbeats 8000000 in
theorem pairs1_tells {N lb cb B : Nat} {dr : Bool} {A D : List Pl} {a d : Option Addr} {ca cd : Nat} (hB : B ≤ N) (hl : N + 2 ≤ lb) (hc : lb < cb) (lA : A.length ≤ 8192) (lD : D.length ≤ 8192) :
    Tells 24 #[.pointer (some ⟨cb, 0, none⟩), .pointer (some ⟨lb, 0, none⟩), .pointer (some ⟨N, 0, none⟩), .pointer (some ⟨N + 1, 0, none⟩)] dr A D (PJ N lb cb B dr A D a d ca cd) := by
  intro i C W y oa oc hy hJ hks hkc hkA hap
  have hil := (List.getElem?_eq_some_iff.1 hy).1
  have hR := NeR.ok (N := N) (B := B) (lb := lb) (A := A) (D := D) (a := a) (d := d) (ca := ca) (cd := cd) hB hl
  have hsn := prL_snoc (dr := dr) (A := A) hy
  have hlt : ∀ k ∈ opn dr A y.s, k < A.length := opn_lt
  have hcl : (prL dr A (D.take i)).length ≤ 67108864 := by
    refine Nat.le_trans (prL_len dr A _) ?_
    have : (D.take i).length ≤ 8192 := by simp; omega
    exact Nat.mul_le_mul this lA
  have hlen : (prL dr A (D.take (i + 1))).length = (prL dr A (D.take i)).length + (opn dr A y.s).length := by rw [hsn, List.length_append, prO_len hlt]
  obtain ⟨l, hl0⟩ : ∃ l, opn dr A y.s = l := ⟨_, rfl⟩
  rw [hl0] at hsn hlt hlen hks hkc hkA hap ⊢
  obtain ⟨c, hc0⟩ : ∃ c, (prL dr A (D.take i)).length = c := ⟨_, rfl⟩
  rw [hc0] at hlen hcl
  obtain ⟨Cl0, n0, xs0, rfl, hn0, h2, h3, h4, h5, h6⟩ := hJ
  rw [hc0] at h4 h5
  generalize hC : (fun b => Cl0 b ∨ b = cb ∨ ThF N b) = C at hap ⊢
  have cin : C cb := by rw [← hC]; exact .inr (.inl rfl)
  have clin : ∀ b, Cl0 b → C b := fun b h => by rw [← hC]; exact .inl h
  have cfx : ∀ b, ThF N b → C b := fun b h => by rw [← hC]; exact .inr (.inr h)
  have cout : ∀ b, C b → Cl0 b ∨ b = cb ∨ ThF N b := fun b h => by rw [← hC] at h; exact h
  have hcw := h5.lt
  have tS := Tn.one W cb 0 (.int .i64 ((c : Int) + (l.length : Int)))
  have s2 : LbI lb 46 2 n0 xs0 Cl0 (W.setCell ⟨cb, 0, none⟩ (.int .i64 ((c : Int) + (l.length : Int)))) := h2.tn tS (fun b hb hc => hn0 (by rw [← hb]; exact hc))
  have s5 : IsCells (W.setCell ⟨cb, 0, none⟩ (.int .i64 ((c : Int) + (l.length : Int)))) cb #[.int .i64 ((c : Int) + (l.length : Int))] := h5.set1
  have s6 : NeR N B A D a d ca cd (W.setCell ⟨cb, 0, none⟩ (.int .i64 ((c : Int) + (l.length : Int)))) := hR.stab h6 tS (fun b hb => ⟨by omega, fun hf => by have := hR.fx b hf; omega⟩)
  have tC : Tn C W (W.setCell ⟨cb, 0, none⟩ (.int .i64 ((c : Int) + (l.length : Int)))) := tS.mono (fun b _ h => by rw [h]; exact cin)
  have sk : KsAt (W.setCell ⟨cb, 0, none⟩ (.int .i64 ((c : Int) + (l.length : Int)))) oa l := fun j k hj => by
    obtain ⟨g, rfl, hg, hcc⟩ := hks j k hj
    exact ⟨g, rfl, Nat.lt_of_lt_of_le hg tC.size, (tC.cell hg (hap g rfl)).trans hcc⟩
  have HQe : Hid (16384 < c + l.length → (∃ v, Ending.returned (.tuple #[]) = .returned v) ∧ ∃ C', Tn C W (W.setCell ⟨cb, 0, none⟩ (.int .i64 ((c : Int) + (l.length : Int)))) ∧ (∀ b, C' b → C b ∨ W.heap.size ≤ b) ∧ PJ N lb cb B dr A D a d ca cd (i + 1) C' (W.setCell ⟨cb, 0, none⟩ (.int .i64 ((c : Int) + (l.length : Int))))) := fun hgt =>
    ⟨⟨_, rfl⟩, C, tC, fun _ h => .inl h, Cl0, n0, xs0, hC.symm, hn0, s2, h3, fun h => by omega, by rw [hlen, Int.natCast_add]; exact s5, s6⟩
  have HS0 : Hid (c + l.length ≤ 16384 → (∃ Cl, ¬ Cl cb ∧ LbI lb 46 2 (c + 0) (xs0 ++ prCells (prO A y (l.take (0)))) Cl (W.setCell ⟨cb, 0, none⟩ (.int .i64 ((c : Int) + (l.length : Int)))) ∧ Tn C W (W.setCell ⟨cb, 0, none⟩ (.int .i64 ((c : Int) + (l.length : Int)))) ∧ (∀ b, Cl b → C b ∨ W.heap.size ≤ b) ∧ IsCells (W.setCell ⟨cb, 0, none⟩ (.int .i64 ((c : Int) + (l.length : Int)))) cb #[.int .i64 ((c : Int) + (l.length : Int))] ∧ NeR N B A D a d ca cd (W.setCell ⟨cb, 0, none⟩ (.int .i64 ((c : Int) + (l.length : Int)))) ∧ KsAt (W.setCell ⟨cb, 0, none⟩ (.int .i64 ((c : Int) + (l.length : Int)))) oa l)) := fun hle => by
    obtain ⟨rfl, rfl⟩ := h4 (by omega)
    refine ⟨Cl0, hn0, ?_, tC, fun b h => .inl (clin b h), s5, s6, sk⟩
    simpa [prO, prCells] using s2
  have HQf : Hid (c + l.length ≤ 16384 → ∀ X, (∃ Cl, ¬ Cl cb ∧ LbI lb 46 2 (c + l.length) (xs0 ++ prCells (prO A y (l.take (l.length)))) Cl X ∧ Tn C W X ∧ (∀ b, Cl b → C b ∨ W.heap.size ≤ b) ∧ IsCells X cb #[.int .i64 ((c : Int) + (l.length : Int))] ∧ NeR N B A D a d ca cd X ∧ KsAt X oa l) → (∃ v, Ending.returned (.tuple #[]) = .returned v) ∧ ∃ C', Tn C W X ∧ (∀ b, C' b → C b ∨ W.heap.size ≤ b) ∧ PJ N lb cb B dr A D a d ca cd (i + 1) C' X) := by
    rintro hle X ⟨Cl, g1, g2, g3, g4, g5, g6, g7⟩
    rw [List.take_length] at g2
    obtain ⟨e1, e2⟩ := h4 (by omega)
    refine ⟨⟨_, rfl⟩, _, g3, fun b hb => ?_, Cl, c + l.length, _, rfl, g1, g2, hle, fun _ => ⟨hlen.symm, ?_⟩, by rw [hlen, Int.natCast_add]; exact g5, g6⟩
    · rcases hb with h | h | h
      · exact g4 b h
      · exact .inl (by rw [h]; exact cin)
      · exact .inl (cfx b h)
    · rw [hsn, prCells_append, e2]
  have HST : Hid (c + l.length ≤ 16384 → ∀ (wr : World) (j k : Nat) (x : Pl) (va wa : Option Addr) (vc wc : Nat) (Cl : Nat → Prop) (Y : World), l[j]? = some k → A[k]? = some x → ¬ Cl cb → IsCells wr lb #[.slice va (c + j) vc] → wr.ownsRow (lb + 1) 46 2 (.slice va (c + j) vc) (c + j) (xs0 ++ prCells (prO A y (l.take j))) → Cl = (fun b => b = lb ∨ (Value.slice va (c + j) vc).ownBlock = some b) → Tn C W wr → (∀ b, Cl b → C b ∨ W.heap.size ≤ b) → IsCells wr cb #[.int .i64 ((c : Int) + (l.length : Int))] → NeR N B A D a d ca cd wr → KsAt wr oa l →
      Y.ownsRow (lb + 1) 46 2 (.slice wa (c + j + 1) wc) (c + j + 1) (xs0 ++ prCells (prO A y (l.take j)) ++ prCells [(x.n, y.n)]) → ((wr.alloc (.cells #[.int .u64 x.n, .int .u64 y.n] 46)).drew).grownBy Y (Value.slice va (c + j) vc).ownBlock → ((Value.slice wa (c + j + 1) wc).ownBlock = (Value.slice va (c + j) vc).ownBlock ∨ (Value.slice wa (c + j + 1) wc).ownBlock = some ((wr.alloc (.cells #[.int .u64 x.n, .int .u64 y.n] 46)).drew).heap.size) →
      IsCells Y lb #[.slice va (c + j) vc] ∧ (∃ Cl, ¬ Cl cb ∧ LbI lb 46 2 (c + (j + 1)) (xs0 ++ prCells (prO A y (l.take ((j + 1))))) Cl (Y.setCell ⟨lb, 0, none⟩ (.slice wa (c + j + 1) wc)) ∧ Tn C W (Y.setCell ⟨lb, 0, none⟩ (.slice wa (c + j + 1) wc)) ∧ (∀ b, Cl b → C b ∨ W.heap.size ≤ b) ∧ IsCells (Y.setCell ⟨lb, 0, none⟩ (.slice wa (c + j + 1) wc)) cb #[.int .i64 ((c : Int) + (l.length : Int))] ∧ NeR N B A D a d ca cd (Y.setCell ⟨lb, 0, none⟩ (.slice wa (c + j + 1) wc)) ∧ KsAt (Y.setCell ⟨lb, 0, none⟩ (.slice wa (c + j + 1) wc)) oa l)) := by
    rintro hle wr j k x va wa vc wc Cl Y hj hx g1 g2 g2' rfl g3 g4 g5 g6 g7 q1 q2 q3
    obtain ⟨r0, Cl', r1, r2, r3⟩ := LbI.app g2 g2' (((Tn.refl _ _).alloc _).drew) q1 q2 q3
    have hcn : ∀ b, (b = lb ∨ (Value.slice va (c + j) vc).ownBlock = some b) → lb ≤ b ∧ b ≠ cb := fun b hb => ⟨by
      rcases hb with h | h
      · omega
      · have := (own_block_lt g2' _ h).1; omega, fun e => g1 (by rw [← e]; exact hb)⟩
    have hlb := g5.lt
    refine ⟨r0, Cl', fun h => (r3 cb h).elim (fun h => g1 h) (fun h => by omega), ?_, g3.trans r2 (fun b hb h => (g4 b h).elim id (fun h => by omega)), fun b hb => ?_, g5.tn r2 (fun h => g1 h), hR.stab g6 r2 (fun b hb => ⟨by have := hcn b hb; omega, fun hf => by have := hR.fx b hf; have := hcn b hb; omega⟩), fun q kq hq => ?_⟩
    · rw [prO_snoc hj hx, prCells_append, ← List.append_assoc, ← Nat.add_assoc]
      exact r1
    · rcases r3 b hb with h | h
      · exact g4 b h
      · exact .inr (Nat.le_trans g3.size h)
    · obtain ⟨g, rfl, hg, hcc⟩ := g7 q kq hq
      refine ⟨g, rfl, Nat.lt_of_lt_of_le hg r2.size, (r2.cell hg (fun h => ?_)).trans hcc⟩
      rcases g4 g h with h' | h'
      · exact hap g rfl h'
      · obtain ⟨g', e', hg', -⟩ := hks q kq hq
        cases e'
        omega
  have hcell : W.cell? ⟨cb, 0, none⟩ = some (.int .i64 (c : Int)) := h5.cell 0
  have hfz : W.frozen? ⟨cb, 0, none⟩ = false := h5.frozen 0
  generalize hQ : (fun e W' => (∃ v, e = Ending.returned v) ∧ ∃ C', Tn C W W' ∧ (∀ b, C' b → C b ∨ W.heap.size ≤ b) ∧ PJ N lb cb B dr A D a d ca cd (i + 1) C' W') = Q
  have HQ1 : Hid (16384 < c + l.length → Q (.returned (.tuple #[])) (W.setCell ⟨cb, 0, none⟩ (.int .i64 ((c : Int) + (l.length : Int))))) := by rw [← hQ]; exact HQe.out
  have HQ2 : Hid (c + l.length ≤ 16384 → ∀ X, (∃ Cl, ¬ Cl cb ∧ LbI lb 46 2 (c + l.length) (xs0 ++ prCells (prO A y (l.take (l.length)))) Cl X ∧ Tn C W X ∧ (∀ b, Cl b → C b ∨ W.heap.size ≤ b) ∧ IsCells X cb #[.int .i64 ((c : Int) + (l.length : Int))] ∧ NeR N B A D a d ca cd X ∧ KsAt X oa l) → Q (.returned (.tuple #[])) X) := by rw [← hQ]; exact HQf.out
  have HL : Hid (∀ k ∈ l, k < A.length) := hlt
  have HY : Hid (D[i]? = some y) := hy
  have hcell2 : (W.setCell ⟨cb, 0, none⟩ (.int .i64 ((c : Int) + (l.length : Int)))).cell? ⟨cb, 0, none⟩ = some (.int .i64 ((c : Int) + (l.length : Int))) := s5.cell 0
  clear HQe HQf hQ hC cin clin cfx cout tS s2 s5 s6 tC sk hn0 h2 h4 h5 h6 hap hks hsn hlt hlen hc0 hl0 hy hR
  simp only [List.append_toArray, List.cons_append, List.nil_append]
  go_enter Try.func24, Try.ntmps24
  by_cases hgt : 16384 < c + l.length
  · have HX := HQ1.out hgt
    have HX' : Hid (Q (.returned (.tuple #[])) (W.setCell ⟨cb, 0, none⟩ (.int .i64 ((c : Int) + (l.length : Int))))) := HX
    have h16 : decide ((16384 : Int) < ((c : Int) + (l.length : Int))) = true := by simp; omega
    clear HX HS0 HST HQ1 HQ2
    go_wp2
    refine bodyPost_end (results_none rfl _ _ _) rfl ?_
    exact HX'.out
  · have hle : c + l.length ≤ 16384 := by omega
    obtain ⟨W1, hW1⟩ : ∃ W1, W.setCell ⟨cb, 0, none⟩ (.int .i64 ((c : Int) + (l.length : Int))) = W1 := ⟨_, rfl⟩
    have HS1 : Hid ((∃ Cl, ¬ Cl cb ∧ LbI lb 46 2 (c + 0) (xs0 ++ prCells (prO A y (l.take (0)))) Cl W1 ∧ Tn C W W1 ∧ (∀ b, Cl b → C b ∨ W.heap.size ≤ b) ∧ IsCells W1 cb #[.int .i64 ((c : Int) + (l.length : Int))] ∧ NeR N B A D a d ca cd W1 ∧ KsAt W1 oa l)) := by rw [← hW1]; exact HS0.out hle
    have HST1 := HST.out hle
    have HST2 : Hid (∀ (wr : World) (j k : Nat) (x : Pl) (va wa : Option Addr) (vc wc : Nat) (Cl : Nat → Prop) (Y : World), l[j]? = some k → A[k]? = some x → ¬ Cl cb → IsCells wr lb #[.slice va (c + j) vc] → wr.ownsRow (lb + 1) 46 2 (.slice va (c + j) vc) (c + j) (xs0 ++ prCells (prO A y (l.take j))) → Cl = (fun b => b = lb ∨ (Value.slice va (c + j) vc).ownBlock = some b) → Tn C W wr → (∀ b, Cl b → C b ∨ W.heap.size ≤ b) → IsCells wr cb #[.int .i64 ((c : Int) + (l.length : Int))] → NeR N B A D a d ca cd wr → KsAt wr oa l →
      Y.ownsRow (lb + 1) 46 2 (.slice wa (c + j + 1) wc) (c + j + 1) (xs0 ++ prCells (prO A y (l.take j)) ++ prCells [(x.n, y.n)]) → ((wr.alloc (.cells #[.int .u64 x.n, .int .u64 y.n] 46)).drew).grownBy Y (Value.slice va (c + j) vc).ownBlock → ((Value.slice wa (c + j + 1) wc).ownBlock = (Value.slice va (c + j) vc).ownBlock ∨ (Value.slice wa (c + j + 1) wc).ownBlock = some ((wr.alloc (.cells #[.int .u64 x.n, .int .u64 y.n] 46)).drew).heap.size) →
      IsCells Y lb #[.slice va (c + j) vc] ∧ (∃ Cl, ¬ Cl cb ∧ LbI lb 46 2 (c + (j + 1)) (xs0 ++ prCells (prO A y (l.take ((j + 1))))) Cl (Y.setCell ⟨lb, 0, none⟩ (.slice wa (c + j + 1) wc)) ∧ Tn C W (Y.setCell ⟨lb, 0, none⟩ (.slice wa (c + j + 1) wc)) ∧ (∀ b, Cl b → C b ∨ W.heap.size ≤ b) ∧ IsCells (Y.setCell ⟨lb, 0, none⟩ (.slice wa (c + j + 1) wc)) cb #[.int .i64 ((c : Int) + (l.length : Int))] ∧ NeR N B A D a d ca cd (Y.setCell ⟨lb, 0, none⟩ (.slice wa (c + j + 1) wc)) ∧ KsAt (Y.setCell ⟨lb, 0, none⟩ (.slice wa (c + j + 1) wc)) oa l)) := HST1
    have HQ3 : Hid (∀ X, (∃ Cl, ¬ Cl cb ∧ LbI lb 46 2 (c + l.length) (xs0 ++ prCells (prO A y (l.take (l.length)))) Cl X ∧ Tn C W X ∧ (∀ b, Cl b → C b ∨ W.heap.size ≤ b) ∧ IsCells X cb #[.int .i64 ((c : Int) + (l.length : Int))] ∧ NeR N B A D a d ca cd X ∧ KsAt X oa l) → Q (.returned (.tuple #[])) X) := HQ2.out hle
    have h16 : decide ((16384 : Int) < ((c : Int) + (l.length : Int))) = false := by simp; omega
    have h17 : ¬ ((16384 : Int) < ((c : Int) + (l.length : Int))) := by omega
    have HW1 : Hid (W.setCell ⟨cb, 0, none⟩ (.int .i64 ((c : Int) + (l.length : Int))) = W1) := hW1
    clear HS0 HST HST1 HQ1 HQ2 hgt hW1
    go_wp2
    simp only [HW1.out]
    clear HW1 hcell hcell2 hfz hcw
    go_loopw [18] (fun u wr => ∃ j : Nat, j ≤ l.length ∧ u = .int .i64 (j : Int) ∧ Hid ((∃ Cl, ¬ Cl cb ∧ LbI lb 46 2 (c + j) (xs0 ++ prCells (prO A y (l.take (j)))) Cl wr ∧ Tn C W wr ∧ (∀ b, Cl b → C b ∨ W.heap.size ≤ b) ∧ IsCells wr cb #[.int .i64 ((c : Int) + (l.length : Int))] ∧ NeR N B A D a d ca cd wr ∧ KsAt wr oa l))) (fun u _ => l.length - (intOf u).toNat)
    case atStart => exact ⟨0, by omega, rfl, HS1.out⟩
    case round =>
      clear HS1
      obtain ⟨j, hj, rfl, HS⟩ := hrel
      by_cases hlt : j < l.length
      · obtain ⟨Cl, g1, ⟨va, vc, g2, g2', g8⟩, g3, g4, g5, g6, g7⟩ := HS.out
        obtain ⟨k, hk⟩ : ∃ k, l[j]? = some k := ⟨_, List.getElem?_eq_getElem hlt⟩
        have hkl := HL.out k (List.mem_of_getElem? hk)
        obtain ⟨x, hx⟩ : ∃ x, A[k]? = some x := ⟨_, List.getElem?_eq_getElem hkl⟩
        obtain ⟨q, rfl, hq, cq⟩ := g7 j k hk
        obtain ⟨n, hn⟩ : ∃ n, c + j = n := ⟨_, rfl⟩
        obtain ⟨xs, hxs⟩ : ∃ xs, xs0 ++ prCells (prO A y (l.take j)) = xs := ⟨_, rfl⟩
        have HFY : Hid (∀ wa wc Y, Y.ownsRow (lb + 1) 46 2 (.slice wa (n + 1) wc) (n + 1) (xs ++ prCells [(x.n, y.n)]) → ((wr.alloc (.cells #[.int .u64 x.n, .int .u64 y.n] 46)).drew).grownBy Y (Value.slice va n vc).ownBlock → ((Value.slice wa (n + 1) wc).ownBlock = (Value.slice va n vc).ownBlock ∨ (Value.slice wa (n + 1) wc).ownBlock = some ((wr.alloc (.cells #[.int .u64 x.n, .int .u64 y.n] 46)).drew).heap.size) → Y.cell? ⟨lb, 0, none⟩ = some (.slice va n vc) ∧ Y.frozen? ⟨lb, 0, none⟩ = false ∧ Hid ((∃ Cl, ¬ Cl cb ∧ LbI lb 46 2 (c + (j + 1)) (xs0 ++ prCells (prO A y (l.take ((j + 1))))) Cl (Y.setCell ⟨lb, 0, none⟩ (.slice wa (n + 1) wc)) ∧ Tn C W (Y.setCell ⟨lb, 0, none⟩ (.slice wa (n + 1) wc)) ∧ (∀ b, Cl b → C b ∨ W.heap.size ≤ b) ∧ IsCells (Y.setCell ⟨lb, 0, none⟩ (.slice wa (n + 1) wc)) cb #[.int .i64 ((c : Int) + (l.length : Int))] ∧ NeR N B A D a d ca cd (Y.setCell ⟨lb, 0, none⟩ (.slice wa (n + 1) wc)) ∧ KsAt (Y.setCell ⟨lb, 0, none⟩ (.slice wa (n + 1) wc)) (some ⟨q, 0, none⟩) l))) := by
          subst hn hxs
          intro wa wc Y q1 q2 q3
          obtain ⟨r1, r2⟩ := HST2.out wr j k x va wa vc wc Cl Y hk hx g1 g2 g2' g8 g3 g4 g5 g6 g7 q1 q2 q3
          exact ⟨r1.cell 0, r1.frozen 0, r2⟩
        rw [hn] at g2 g2'
        rw [hxs] at g2'
        obtain ⟨f, p, rfl, hf, p0, p1, p2, p3⟩ := g6.2.2.1 k x hx
        obtain ⟨g, o, rfl, hg, c0, c1, c2, c3⟩ := g6.2.2.2 i y HY.out
        have e1 : wr.cell? ⟨lb, 0, none⟩ = some (.slice va n vc) := g2.cell 0
        have e2 : wr.cell? ⟨N, 0, none⟩ = some (.slice (some ⟨f, p, none⟩) A.length ca) := g6.1.cell 0
        have e3 : wr.cell? ⟨N + 1, 0, none⟩ = some (.slice (some ⟨g, o, none⟩) D.length cd) := g6.2.1.cell 0
        have l1 := g2.lt
        have l2 := g6.1.lt
        have l3 := g6.2.1.lt
        have tA : Tn (fun _ => False) wr (wr.alloc (.cells #[.int .u64 x.n, .int .u64 y.n] 46)) := (Tn.refl _ _).alloc _
        have HOW : Hid ((wr.alloc (.cells #[.int .u64 x.n, .int .u64 y.n] 46)).drew.ownsRow (lb + 1) 46 2 (.slice va n vc) n xs) := own_tn g2' tA.drew (fun _ _ => id)
        have d1 : (wr.alloc (.cells #[.int .u64 x.n, .int .u64 y.n] 46)).cell? ⟨lb, 0, none⟩ = some (.slice va n vc) := (tA.cell l1 id).trans e1
        have hn8 : n ≤ 16384 := by omega
        have hk9 : (k : Int) < (A.length : Int) := by omega
        have hi9 : (i : Int) < (D.length : Int) := by omega
        clear tA g1 g2 g2' g8 g3 g4 g5 g6 g7 hn hxs hx hk c1 c2 c3 p1 p2 p3 HS
        go_wp2_with fail
        go_region_law (refine step_app (by rfl) _ _ (by rfl) Try.underlying24 info46 rfl (by decide) (lb + 1) (.slice va n vc) n xs (by rfl) HOW.out (some ⟨wr.heap.size, 0, none⟩) 1 1 (prCells [(x.n, y.n)]) (by rfl) (by rfl) (pr_news wr x.n y.n) (prCells_one _) (by unfold maxLen; omega) (by omega) (by simp; omega) ?_; intro v1 Y hown1 hg1 _ hat1; obtain ⟨wa, wc, hvv⟩ := own_slice hown1; subst hvv; obtain ⟨c9, f9, j9⟩ := HFY.out wa wc Y hown1 hg1 hat1; clear hown1 hg1 hat1)
        all_goals (
          go_wp2
          go_roundw
          case rel => exact ⟨j + 1, by omega, by go_num, j9.out⟩
          case measure => simp [intOf]; omega)
      · have hjl : j = l.length := by omega
        subst hjl
        have HZ : Hid (Q (.returned (.tuple #[])) wr) := HQ3.out wr HS.out
        clear HS
        go_wp2
        refine bodyPost_end (results_none rfl _ _ _) rfl ?_
        exact HZ.out

end Go.Proofs.Ytafpfelgngniiaa
