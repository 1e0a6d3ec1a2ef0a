/- AxisChecks: Check of any spans and Common of any two. -/
import Derived.Test.YtfhbfilmejegcaaRcom
import Derived.Deep.DeepCutAuto
namespace Go.Proofs.Ytfhbfilmejegcaa
open Go.RowKit
set_option linter.unusedVariables false

theorem check_any (w : World) (a : Option Addr) (L : List Sp) (cap : Nat) (h : SpsAt w w.heap.size a L) :
    Calls Try.prog 23 #[.slice a L.length cap] w fun e w' => e = .returned (.tuple #[.int .i64 (chkP L).1, .int .i64 (chkP L).2]) ∧ Below w.heap.size w w' := by
  unfold chkP
  by_cases hl : 8192 < L.length
  · rw [if_pos hl]
    exact (check_long w a L.length cap hl).mono fun e w' ⟨he, hw⟩ => ⟨he, by rw [hw]; exact Below.refl _ _⟩
  · rw [if_neg hl]
    exact check_walk w a L cap h (by omega) _ rfl
theorem rcheck_any (w : World) (a : Option Addr) (L : List Sp) (cap : Nat) (h : SpsAt w w.heap.size a L) :
    Calls Try.prog 24 #[.slice a L.length cap] w fun e w' => e = .returned (.tuple #[.int .i64 (chkP L).1, .int .i64 (chkP L).2]) ∧ Below w.heap.size w w' := by
  unfold chkP
  by_cases hl : 8192 < L.length
  · rw [if_pos hl]
    exact (rcheck_long w a L.length cap hl).mono fun e w' ⟨he, hw⟩ => ⟨he, by rw [hw]; exact Below.refl _ _⟩
  · rw [if_neg hl]
    exact rcheck_walk w a L cap h (by omega) _ rfl

theorem row_sps {w : World} {base : Nat} {e : TypeId} {a : Option Addr} {cap : Nat} {L : List Sp} (h : w.ownsRow base e 3 (.slice a L.length cap) L.length (spCells L)) : SpsAt w w.heap.size a L := by
  intro i x hx
  obtain ⟨g, e1, e2, e3, e4, e5⟩ := (row_stk h).1 i x hx
  exact ⟨g, 0, e1, e2, by rw [Nat.zero_add]; exact e3, by rw [Nat.zero_add]; exact e4, by rw [Nat.zero_add]; exact e5⟩
theorem SpsAt.up {w : World} {B B' : Nat} {a : Option Addr} {L : List Sp} (h : SpsAt w B a L) (hB : B ≤ B') : SpsAt w B' a L := by
  intro i x hx
  obtain ⟨b, o, e1, e2, e3⟩ := h i x hx
  exact ⟨b, o, e1, by omega, e3⟩
theorem SpsAt.news {w : World} {B : Nat} {a : Option Addr} {L : List Sp} (h : SpsAt w B a L) : ∀ j u, (spCells L)[j]? = some u → ∃ ad, a = some ad ∧ w.cell? (ad.add j) = some u := by
  intro j u hu
  have hlt := (List.getElem?_eq_some_iff.1 hu).1
  rw [spCells_length] at hlt
  obtain ⟨x, hx⟩ : ∃ x, L[j / 3]? = some x := ⟨_, List.getElem?_eq_getElem (by omega)⟩
  obtain ⟨b, o, rfl, _, h1, h2, h3⟩ := h _ x hx
  obtain ⟨g1, g2, g3⟩ := spCells_get L _ x hx
  refine ⟨_, rfl, ?_⟩
  have e : (⟨b, o, none⟩ : Addr).add j = ⟨b, o + j, none⟩ := by unfold Addr.add; split <;> simp_all
  rw [e]
  have hj : j % 3 = 0 ∨ j % 3 = 1 ∨ j % 3 = 2 := by omega
  rcases hj with r | r | r
  · have ej : j / 3 * 3 = j := by omega
    rw [ej] at g1 h1
    rw [hu] at g1
    rw [h1, Option.some.inj g1]
  · have ej : j / 3 * 3 + 1 = j := by omega
    rw [ej] at g2
    rw [Nat.add_assoc, ej] at h2
    rw [hu] at g2
    rw [h2, Option.some.inj g2]
  · have ej : j / 3 * 3 + 2 = j := by omega
    rw [ej] at g3
    rw [Nat.add_assoc, ej] at h3
    rw [hu] at g3
    rw [h3, Option.some.inj g3]

theorem own_two (w : World) (x y : Obj) : (((w.alloc x).alloc y).alloc (.cells #[] 24)).ownsRow w.heap.size 24 3 (.slice (some ⟨w.heap.size + 1 + 1, 0, none⟩) 0 0) 0 [] := by
  have o2 := own_new ((w.alloc x).alloc y) 24 3
  rw [show ((w.alloc x).alloc y).heap.size = w.heap.size + 1 + 1 from by simp] at o2
  exact own_base o2 (fun k hk => by have := (own_block_lt o2 k hk).1; omega)
/-- A new row beside a new variable, in whatever order. -/
theorem rows3 (z : World) (zc : Array Value) :
    Hid (Below z.heap.size z (z.alloc (.cells #[] 24)).drew ∧ (z.alloc (.cells #[] 24)).drew.ownsRow z.heap.size 24 3 (.slice (some ⟨z.heap.size, 0, none⟩) 0 0) 0 []) ∧
    Hid (Below z.heap.size z ((z.alloc (.cells #[] 24)).alloc (.cells zc 24)).drew ∧ ((z.alloc (.cells #[] 24)).alloc (.cells zc 24)).drew.ownsRow z.heap.size 24 3 (.slice (some ⟨z.heap.size, 0, none⟩) 0 0) 0 [] ∧ IsCells ((z.alloc (.cells #[] 24)).alloc (.cells zc 24)).drew (z.heap.size + 1) zc) ∧
    Hid (Below z.heap.size z ((z.alloc (.cells zc 24)).alloc (.cells #[] 24)).drew ∧ ((z.alloc (.cells zc 24)).alloc (.cells #[] 24)).drew.ownsRow z.heap.size 24 3 (.slice (some ⟨z.heap.size + 1, 0, none⟩) 0 0) 0 [] ∧ IsCells ((z.alloc (.cells zc 24)).alloc (.cells #[] 24)).drew z.heap.size zc) := by
  have o1 := own_new z 24 3
  refine ⟨⟨(below1 z _).drew, own_of_block o1 (fun _ _ => rfl)⟩, ⟨(below2 z _ _).drew, own_of_block o1 (fun k hk => ?_), ?_⟩, ⟨(below2 z _ _).drew, ?_, ?_⟩⟩
  · exact Below.heap_alloc _ _ _ (own_block_lt o1 k hk).2
  · have c := isCells_new (z.alloc (.cells #[] 24)) zc 24
    rw [show (z.alloc (.cells #[] 24)).heap.size = z.heap.size + 1 from by simp] at c
    exact c.of_block rfl
  · have o2 := own_new (z.alloc (.cells zc 24)) 24 3
    rw [show (z.alloc (.cells zc 24)).heap.size = z.heap.size + 1 from by simp] at o2
    exact own_of_block (own_base o2 (fun k hk => Nat.le_trans (Nat.le_succ _) (own_block_lt o2 k hk).1)) (fun _ _ => rfl)
  · exact ((isCells_new z zc 24).alloc (.cells #[] 24)).of_block rfl
/-- A variable X behind the statement, and all that was there. -/
def Mid (z wx : World) (X : Nat) (cs : Array Value) : Prop := z.heap.size ≤ X ∧ Below z.heap.size z wx ∧ IsCells wx X cs

theorem mid_new {z w7 : World} {cs : Array Value} (h : Below z.heap.size z w7) : Mid z (w7.alloc (.cells cs 24)) w7.heap.size cs :=
  ⟨h.size, h.alloc h.size _, isCells_new w7 _ _⟩
theorem mid_set {z w7 : World} {X : Nat} {u0 u1 u2 : Value} {v0 v1 v2 : Value} (h : Below z.heap.size z w7) (hx : IsCells w7 X #[v0, v1, v2]) (hX : z.heap.size ≤ X) : Mid z (((w7.setCell ⟨X, 0, none⟩ u0).setCell ⟨X, 1, none⟩ u1).setCell ⟨X, 2, none⟩ u2) X #[u0, u1, u2] :=
  ⟨hX, ((h.setCell (by exact hX) _).setCell (by exact hX) _).setCell (by exact hX) _, ((hx.set 0 _).set 1 _).set 2 _⟩
theorem com_one : cmS [⟨1, 9, 0⟩] ⟨2, 3, 0⟩ ⟨1, 9, 0⟩ none = some ⟨1, 9, 0⟩ := rfl
theorem one_sps (w : World) (x : Sp) : SpsAt (w.alloc (.cells #[.int .u64 x.b, .int .u64 x.e, .int .i64 x.l] 24)) (w.alloc (.cells #[.int .u64 x.b, .int .u64 x.e, .int .i64 x.l] 24)).heap.size (some ⟨w.heap.size, 0, none⟩) [x] := by
  have c := isCells_new w #[.int .u64 x.b, .int .u64 x.e, .int .i64 x.l] 24
  intro i y hy
  match i, hy with
  | 0, hy =>
    simp at hy
    subst hy
    exact ⟨_, 0, rfl, c.lt, c.cell 0, c.cell 1, c.cell 2⟩

set_option maxRecDepth 100000 in
set_option maxHeartbeats 2000000 in
theorem checks_walk (w : World) (la : Option Addr) (L : List Sp) (cap : Nat) (a b : Sp) (h : SpsAt w w.heap.size la L) (hl : L.length ≤ 5864062014805) :
    Calls Try.prog 4 #[.slice la L.length cap, .agg (sv a), .agg (sv b)] w fun e w' => e = .returned (.bool true) ∧ Below w.heap.size w w' := by
  have HA : Hid (SpsAt w w.heap.size la L) := h
  have HK : Hid (∀ (W : World) (a : Option Addr) (cap : Nat), SpsAt W W.heap.size a L → Calls Try.prog 23 #[.slice a L.length cap] W fun e w' => e = .returned (.tuple #[.int .i64 (chkP L).1, .int .i64 (chkP L).2]) ∧ Below W.heap.size W w') := fun W a cap h => check_any W a L cap h
  have HRK : Hid (∀ (W : World) (a : Option Addr) (cap : Nat), SpsAt W W.heap.size a L → Calls Try.prog 24 #[.slice a L.length cap] W fun e w' => e = .returned (.tuple #[.int .i64 (chkP L).1, .int .i64 (chkP L).2]) ∧ Below W.heap.size W w') := fun W a cap h => rcheck_any W a L cap h
  have HC : Hid (∀ (W : World) (la : Option Addr) (cap : Nat), SpsAt W W.heap.size la L → Calls Try.prog 25 #[.slice la L.length cap, .agg (sv a), .agg (sv b)] W fun e w' => e = .returned (.tuple #[.agg (sv (comV (cmS L a b none))), .bool (cmS L a b none).isSome]) ∧ Below W.heap.size W w') := fun W la cap h => com_walk W la L cap a b h (by omega)
  have HRC : Hid (∀ (W : World), SpsAt W W.heap.size la L → Calls Try.prog 26 #[.slice la L.length cap, .agg (sv a), .agg (sv b)] W fun e w' => e = .returned (.tuple #[.agg (sv (comV (cmS L a b none))), .bool (cmS L a b none).isSome]) ∧ Below W.heap.size W w') := fun W h => rcom_walk W la L cap a b h (by omega)
  have HONE : Hid (∀ (W : World), Calls Try.prog 25 #[.slice (some ⟨W.heap.size, 0, none⟩) 1 1, .agg #[.int .u64 2, .int .u64 3, .int .i64 0], .agg #[.int .u64 1, .int .u64 9, .int .i64 0]] (W.alloc (.cells #[.int .u64 1, .int .u64 9, .int .i64 0] 24)) fun e w' => e = .returned (.tuple #[.agg #[.int .u64 1, .int .u64 9, .int .i64 0], .bool true]) ∧ Below (W.alloc (.cells #[.int .u64 1, .int .u64 9, .int .i64 0] 24)).heap.size (W.alloc (.cells #[.int .u64 1, .int .u64 9, .int .i64 0] 24)) w') := fun W => by
    have := com_walk (W.alloc (.cells #[.int .u64 1, .int .u64 9, .int .i64 0] 24)) (some ⟨W.heap.size, 0, none⟩) [⟨1, 9, 0⟩] 1 ⟨2, 3, 0⟩ ⟨1, 9, 0⟩ (one_sps W ⟨1, 9, 0⟩) (by decide)
    rw [com_one] at this
    exact this
  generalize (chkP L).1 = y1 at *
  generalize (chkP L).2 = y2 at *
  generalize comV (cmS L a b none) = c at *
  generalize (cmS L a b none).isSome = cs at *
  obtain ⟨a1, a2, a3⟩ := a
  obtain ⟨b1, b2, b3⟩ := b
  obtain ⟨c1, c2, c3⟩ := c
  unfold sv at *
  simp only at *
  have HB0 : Hid (Below w.heap.size w (((w.alloc (.cells #[.int .u64 a1, .int .u64 a2, .int .i64 a3] 24)).alloc (.cells #[.int .u64 b1, .int .u64 b2, .int .i64 b3] 24)).alloc (.cells #[] 24))) := below3 _ _ _ _
  have hlL : Hid ((spCells L).length = L.length * 3) := spCells_length _
  clear h
  have HO0 : Hid ((((w.alloc (.cells #[.int .u64 a1, .int .u64 a2, .int .i64 a3] 24)).alloc (.cells #[.int .u64 b1, .int .u64 b2, .int .i64 b3] 24)).alloc (.cells #[] 24)).ownsRow w.heap.size 24 3 (.slice (some ⟨w.heap.size + 1 + 1, 0, none⟩) 0 0) 0 []) := own_two w _ _
  have HIA : Hid (IsCells (((w.alloc (.cells #[.int .u64 a1, .int .u64 a2, .int .i64 a3] 24)).alloc (.cells #[.int .u64 b1, .int .u64 b2, .int .i64 b3] 24)).alloc (.cells #[] 24)) w.heap.size #[.int .u64 a1, .int .u64 a2, .int .i64 a3]) := ((isCells_new w _ _).alloc _).alloc _
  have HIB : Hid (IsCells (((w.alloc (.cells #[.int .u64 a1, .int .u64 a2, .int .i64 a3] 24)).alloc (.cells #[.int .u64 b1, .int .u64 b2, .int .i64 b3] 24)).alloc (.cells #[] 24)) (w.heap.size + 1) #[.int .u64 b1, .int .u64 b2, .int .i64 b3]) := by
    have := (isCells_new (w.alloc (.cells #[.int .u64 a1, .int .u64 a2, .int .i64 a3] 24)) #[.int .u64 b1, .int .u64 b2, .int .i64 b3] 24).alloc (.cells #[] 24)
    show IsCells _ _ _
    simpa using this
  have tok : True := trivial
  go_enter Try.func4, Try.ntmps4
  go_wp2_with (at_builtin; have _t := tok; refine wpList_app (by rfl) _ _ (by rfl) Try.underlying31 info24 rfl (by decide) w.heap.size (.slice (some ⟨w.heap.size + 1 + 1, 0, none⟩) 0 0) 0 [] (by rfl) HO0.out la L.length cap (spCells L) (by rfl) hlL.out (HA.out.below HB0.out (Nat.le_refl _)).news (spCells_one _) (by unfold maxLen; omega) (by omega) HB0.out.size ?_; intro v1 w1 hown1 hg1 _ hat1; obtain ⟨va1, vc1, hv1⟩ := own_slice hown1; subst hv1; rw [Nat.zero_add, List.nil_append] at hown1; rw [Nat.zero_add]; have HB1 : Hid (Below w.heap.size w w1) := HB0.out.grown hg1 HB0.out.size (fun k hk => (own_block_lt HO0.out k hk).1); have HIA1 : Hid (IsCells w1 w.heap.size #[.int .u64 a1, .int .u64 a2, .int .i64 a3]) := HIA.out.of_block (hg1.block _ HIA.out.lt (by simp [Value.ownBlock]; omega)); have HIB1 : Hid (IsCells w1 (w.heap.size + 1) #[.int .u64 b1, .int .u64 b2, .int .i64 b3]) := HIB.out.of_block (hg1.block _ HIB.out.lt (by simp [Value.ownBlock])); have HK1 := HK.out w1 va1 vc1 (row_sps hown1); clear tok _t hown1 hg1 hat1)
  with_reducible refine HK1.mono ?_
  rintro e w2 ⟨rfl, hb2⟩
  have HB2 : Hid (Below w.heap.size w w2) := HB1.out.trans (hb2.mono HB1.out.size)
  have HRK2 := HRK.out w2 la cap ((HA.out.below HB2.out (Nat.le_refl _)).up HB2.out.size)
  have HIA2 : Hid (IsCells w2 w.heap.size #[.int .u64 a1, .int .u64 a2, .int .i64 a3]) := HIA1.out.of_block (hb2.block _ HIA1.out.lt)
  have HIB2 : Hid (IsCells w2 (w.heap.size + 1) #[.int .u64 b1, .int .u64 b2, .int .i64 b3]) := HIB1.out.of_block (hb2.block _ HIB1.out.lt)
  clear hb2 HK HRK HIA HIB HIA1 HIB1 HB0 HO0 HB1 HK1
  go_wp2_with fail
  with_reducible refine HRK2.mono ?_
  rintro e z ⟨rfl, hb3⟩
  have HB3 : Hid (Below w.heap.size w z) := HB2.out.trans (hb3.mono HB2.out.size)
  have HIA3 : Hid (IsCells z w.heap.size #[.int .u64 a1, .int .u64 a2, .int .i64 a3]) := HIA2.out.of_block (hb3.block _ HIA2.out.lt)
  have HIB3 : Hid (IsCells z (w.heap.size + 1) #[.int .u64 b1, .int .u64 b2, .int .i64 b3]) := HIB2.out.of_block (hb3.block _ HIB2.out.lt)
  clear hb3 HRK2 HIA2 HIB2 HB2
  have hza0 : z.cell? ⟨w.heap.size, 0, none⟩ = some (.int .u64 a1) := HIA3.out.cell 0
  have hza1 : z.cell? ⟨w.heap.size, 1, none⟩ = some (.int .u64 a2) := HIA3.out.cell 1
  have hza2 : z.cell? ⟨w.heap.size, 2, none⟩ = some (.int .i64 a3) := HIA3.out.cell 2
  have hzb0 : z.cell? ⟨w.heap.size + 1, 0, none⟩ = some (.int .u64 b1) := HIB3.out.cell 0
  have hzb1 : z.cell? ⟨w.heap.size + 1, 1, none⟩ = some (.int .u64 b2) := HIB3.out.cell 1
  have hzb2 : z.cell? ⟨w.heap.size + 1, 2, none⟩ = some (.int .i64 b3) := HIB3.out.cell 2
  have hzl := HIB3.out.lt
  have hzs := HB3.out.size
  obtain ⟨HW1, HW2, HW3⟩ := rows3 z #[.int .u64 0, .int .u64 0, .int .i64 0]
  go_upto_region 3 with fail
  go_cut [11, 12] (fun p q wx => ∃ X, p = .pointer (some ⟨X, 0, none⟩) ∧ q = .bool cs ∧ Hid (Mid z wx X #[.int .u64 c1, .int .u64 c2, .int .i64 c3]))
  case first =>
    have HAz : Hid (SpsAt z z.heap.size la L) := (HA.out.below HB3.out (Nat.le_refl _)).up hzs
    have hzla : w.heap.size < z.heap.size := HIA3.out.lt
    have nc0 : ¬ z.heap.size = w.heap.size := (by omega)
    have nc1 : ¬ z.heap.size = w.heap.size + 1 := (by omega)
    have nc2 : ¬ w.heap.size = z.heap.size := (by omega)
    have nc3 : ¬ w.heap.size + 1 = z.heap.size := (by omega)
    have nd0 : ¬ (z.heap.size + 1) = w.heap.size := (by omega)
    have nd1 : ¬ (z.heap.size + 1) = w.heap.size + 1 := (by omega)
    have nd2 : ¬ w.heap.size = (z.heap.size + 1) := (by omega)
    have nd3 : ¬ w.heap.size + 1 = (z.heap.size + 1) := (by omega)
    have tok1 : True := trivial
    go_region_held3 (fun W => W.cell? ⟨w.heap.size, 0, none⟩ = some (.int .u64 a1) ∧ W.cell? ⟨w.heap.size, 1, none⟩ = some (.int .u64 a2) ∧ W.cell? ⟨w.heap.size, 2, none⟩ = some (.int .i64 a3) ∧ W.cell? ⟨w.heap.size + 1, 0, none⟩ = some (.int .u64 b1) ∧ W.cell? ⟨w.heap.size + 1, 1, none⟩ = some (.int .u64 b2) ∧ W.cell? ⟨w.heap.size + 1, 2, none⟩ = some (.int .i64 b3)) (go_keep)
      (first
        | (have _t := tok1; refine step_app (by rfl) _ _ (by rfl) Try.underlying31 info24 rfl (by decide) z.heap.size (.slice (some ⟨z.heap.size, 0, none⟩) 0 0) 0 [] (by rfl) HW1.out.2 la L.length cap (spCells L) (by rfl) hlL.out (HAz.out.below HW1.out.1 (Nat.le_refl _)).news (spCells_one _) (by unfold maxLen; omega) (by omega) HW1.out.1.size ?_; intro v1 w6 hown1 hg1 _ hat1; obtain ⟨va2, vc2, hv1⟩ := own_slice hown1; subst hv1; rw [Nat.zero_add, List.nil_append] at hown1; rw [Nat.zero_add]; have HB6 : Hid (Below z.heap.size z w6) := HW1.out.1.grown hg1 HW1.out.1.size (fun k hk => by simp only [Value.ownBlock, Option.some.injEq] at hk; omega); have ga0 : w6.cell? ⟨w.heap.size, 0, none⟩ = some (.int .u64 a1) := (HB6.out.cell (p := ⟨w.heap.size, 0, none⟩) hzla).trans hza0; have ga1 : w6.cell? ⟨w.heap.size, 1, none⟩ = some (.int .u64 a2) := (HB6.out.cell (p := ⟨w.heap.size, 1, none⟩) hzla).trans hza1; have ga2 : w6.cell? ⟨w.heap.size, 2, none⟩ = some (.int .i64 a3) := (HB6.out.cell (p := ⟨w.heap.size, 2, none⟩) hzla).trans hza2; have gb0 : w6.cell? ⟨w.heap.size + 1, 0, none⟩ = some (.int .u64 b1) := (HB6.out.cell (p := ⟨w.heap.size + 1, 0, none⟩) hzl).trans hzb0; have gb1 : w6.cell? ⟨w.heap.size + 1, 1, none⟩ = some (.int .u64 b2) := (HB6.out.cell (p := ⟨w.heap.size + 1, 1, none⟩) hzl).trans hzb1; have gb2 : w6.cell? ⟨w.heap.size + 1, 2, none⟩ = some (.int .i64 b3) := (HB6.out.cell (p := ⟨w.heap.size + 1, 2, none⟩) hzl).trans hzb2; have hs6 : z.heap.size ≤ w6.heap.size := HB6.out.size; have HR6 : Hid (SpsAt w6 w6.heap.size va2 L) := row_sps hown1; clear hown1 hg1 hat1 tok1 _t)
        | (have _t := tok1; refine step_app (by rfl) _ _ (by rfl) Try.underlying31 info24 rfl (by decide) z.heap.size (.slice (some ⟨z.heap.size, 0, none⟩) 0 0) 0 [] (by rfl) HW2.out.2.1 la L.length cap (spCells L) (by rfl) hlL.out (HAz.out.below HW2.out.1 (Nat.le_refl _)).news (spCells_one _) (by unfold maxLen; omega) (by omega) HW2.out.1.size ?_; intro v1 w6 hown1 hg1 _ hat1; obtain ⟨va2, vc2, hv1⟩ := own_slice hown1; subst hv1; rw [Nat.zero_add, List.nil_append] at hown1; rw [Nat.zero_add]; have HB6 : Hid (Below z.heap.size z w6) := HW2.out.1.grown hg1 HW2.out.1.size (fun k hk => by simp only [Value.ownBlock, Option.some.injEq] at hk; omega); have ga0 : w6.cell? ⟨w.heap.size, 0, none⟩ = some (.int .u64 a1) := (HB6.out.cell (p := ⟨w.heap.size, 0, none⟩) hzla).trans hza0; have ga1 : w6.cell? ⟨w.heap.size, 1, none⟩ = some (.int .u64 a2) := (HB6.out.cell (p := ⟨w.heap.size, 1, none⟩) hzla).trans hza1; have ga2 : w6.cell? ⟨w.heap.size, 2, none⟩ = some (.int .i64 a3) := (HB6.out.cell (p := ⟨w.heap.size, 2, none⟩) hzla).trans hza2; have gb0 : w6.cell? ⟨w.heap.size + 1, 0, none⟩ = some (.int .u64 b1) := (HB6.out.cell (p := ⟨w.heap.size + 1, 0, none⟩) hzl).trans hzb0; have gb1 : w6.cell? ⟨w.heap.size + 1, 1, none⟩ = some (.int .u64 b2) := (HB6.out.cell (p := ⟨w.heap.size + 1, 1, none⟩) hzl).trans hzb1; have gb2 : w6.cell? ⟨w.heap.size + 1, 2, none⟩ = some (.int .i64 b3) := (HB6.out.cell (p := ⟨w.heap.size + 1, 2, none⟩) hzl).trans hzb2; have hs6 : z.heap.size ≤ w6.heap.size := HB6.out.size; have HR6 : Hid (SpsAt w6 w6.heap.size va2 L) := row_sps hown1; have HX6 : Hid (IsCells w6 (z.heap.size + 1) #[.int .u64 0, .int .u64 0, .int .i64 0]) := HW2.out.2.2.of_block (hg1.block _ HW2.out.2.2.lt (by simp [Value.ownBlock])); clear hown1 hg1 hat1 tok1 _t)
        | (have _t := tok1; refine step_app (by rfl) _ _ (by rfl) Try.underlying31 info24 rfl (by decide) z.heap.size (.slice (some ⟨z.heap.size + 1, 0, none⟩) 0 0) 0 [] (by rfl) HW3.out.2.1 la L.length cap (spCells L) (by rfl) hlL.out (HAz.out.below HW3.out.1 (Nat.le_refl _)).news (spCells_one _) (by unfold maxLen; omega) (by omega) HW3.out.1.size ?_; intro v1 w6 hown1 hg1 _ hat1; obtain ⟨va2, vc2, hv1⟩ := own_slice hown1; subst hv1; rw [Nat.zero_add, List.nil_append] at hown1; rw [Nat.zero_add]; have HB6 : Hid (Below z.heap.size z w6) := HW3.out.1.grown hg1 HW3.out.1.size (fun k hk => by simp only [Value.ownBlock, Option.some.injEq] at hk; omega); have ga0 : w6.cell? ⟨w.heap.size, 0, none⟩ = some (.int .u64 a1) := (HB6.out.cell (p := ⟨w.heap.size, 0, none⟩) hzla).trans hza0; have ga1 : w6.cell? ⟨w.heap.size, 1, none⟩ = some (.int .u64 a2) := (HB6.out.cell (p := ⟨w.heap.size, 1, none⟩) hzla).trans hza1; have ga2 : w6.cell? ⟨w.heap.size, 2, none⟩ = some (.int .i64 a3) := (HB6.out.cell (p := ⟨w.heap.size, 2, none⟩) hzla).trans hza2; have gb0 : w6.cell? ⟨w.heap.size + 1, 0, none⟩ = some (.int .u64 b1) := (HB6.out.cell (p := ⟨w.heap.size + 1, 0, none⟩) hzl).trans hzb0; have gb1 : w6.cell? ⟨w.heap.size + 1, 1, none⟩ = some (.int .u64 b2) := (HB6.out.cell (p := ⟨w.heap.size + 1, 1, none⟩) hzl).trans hzb1; have gb2 : w6.cell? ⟨w.heap.size + 1, 2, none⟩ = some (.int .i64 b3) := (HB6.out.cell (p := ⟨w.heap.size + 1, 2, none⟩) hzl).trans hzb2; have hs6 : z.heap.size ≤ w6.heap.size := HB6.out.size; have HR6 : Hid (SpsAt w6 w6.heap.size va2 L) := row_sps hown1; have HX6 : Hid (IsCells w6 z.heap.size #[.int .u64 0, .int .u64 0, .int .i64 0]) := HW3.out.2.2.of_block (hg1.block _ HW3.out.2.2.lt (by simp [Value.ownBlock])); clear hown1 hg1 hat1 tok1 _t)
        | (go_at_call 25; have _x := HX6.out; clear _x; (with_reducible refine (HC.out w6 va2 vc2 HR6.out).mono ?_); rintro e w7 ⟨rfl, hb7⟩; have HB7 : Hid (Below z.heap.size z w7) := HB6.out.trans (hb7.mono hs6); have ka0 : w7.cell? ⟨w.heap.size, 0, none⟩ = some (.int .u64 a1) := (HB7.out.cell (p := ⟨w.heap.size, 0, none⟩) hzla).trans hza0; have ka1 : w7.cell? ⟨w.heap.size, 1, none⟩ = some (.int .u64 a2) := (HB7.out.cell (p := ⟨w.heap.size, 1, none⟩) hzla).trans hza1; have ka2 : w7.cell? ⟨w.heap.size, 2, none⟩ = some (.int .i64 a3) := (HB7.out.cell (p := ⟨w.heap.size, 2, none⟩) hzla).trans hza2; have kb0 : w7.cell? ⟨w.heap.size + 1, 0, none⟩ = some (.int .u64 b1) := (HB7.out.cell (p := ⟨w.heap.size + 1, 0, none⟩) hzl).trans hzb0; have kb1 : w7.cell? ⟨w.heap.size + 1, 1, none⟩ = some (.int .u64 b2) := (HB7.out.cell (p := ⟨w.heap.size + 1, 1, none⟩) hzl).trans hzb1; have kb2 : w7.cell? ⟨w.heap.size + 1, 2, none⟩ = some (.int .i64 b3) := (HB7.out.cell (p := ⟨w.heap.size + 1, 2, none⟩) hzl).trans hzb2; have hs7 : z.heap.size ≤ w7.heap.size := HB7.out.size; have na0 : ¬ w7.heap.size = w.heap.size := (by omega); have na1 : ¬ w7.heap.size = w.heap.size + 1 := (by omega); have na2 : ¬ w.heap.size = w7.heap.size := (by omega); have na3 : ¬ w.heap.size + 1 = w7.heap.size := (by omega); have nb0 : ¬ w6.heap.size = w.heap.size := (by omega); have nb1 : ¬ w6.heap.size = w.heap.size + 1 := (by omega); have nb2 : ¬ w.heap.size = w6.heap.size := (by omega); have nb3 : ¬ w.heap.size + 1 = w6.heap.size := (by omega); first | (have HX7 : Hid (IsCells w7 (z.heap.size + 1) #[.int .u64 0, .int .u64 0, .int .i64 0]) := HX6.out.of_block (hb7.block _ HX6.out.lt); have x0 := HX7.out.cell 0; have x1 := HX7.out.cell 1; have x2 := HX7.out.cell 2; have y0 := HX7.out.frozen 0; have y1' := HX7.out.frozen 1; have y2' := HX7.out.frozen 2; simp at x0 x1 x2; clear hb7) | (have HX7 : Hid (IsCells w7 z.heap.size #[.int .u64 0, .int .u64 0, .int .i64 0]) := HX6.out.of_block (hb7.block _ HX6.out.lt); have x0 := HX7.out.cell 0; have x1 := HX7.out.cell 1; have x2 := HX7.out.cell 2; have y0 := HX7.out.frozen 0; have y1' := HX7.out.frozen 1; have y2' := HX7.out.frozen 2; simp at x0 x1 x2; clear hb7))
        | (go_at_call 25; (with_reducible refine (HC.out w6 va2 vc2 HR6.out).mono ?_); rintro e w7 ⟨rfl, hb7⟩; have HB7 : Hid (Below z.heap.size z w7) := HB6.out.trans (hb7.mono hs6); have ka0 : w7.cell? ⟨w.heap.size, 0, none⟩ = some (.int .u64 a1) := (HB7.out.cell (p := ⟨w.heap.size, 0, none⟩) hzla).trans hza0; have ka1 : w7.cell? ⟨w.heap.size, 1, none⟩ = some (.int .u64 a2) := (HB7.out.cell (p := ⟨w.heap.size, 1, none⟩) hzla).trans hza1; have ka2 : w7.cell? ⟨w.heap.size, 2, none⟩ = some (.int .i64 a3) := (HB7.out.cell (p := ⟨w.heap.size, 2, none⟩) hzla).trans hza2; have kb0 : w7.cell? ⟨w.heap.size + 1, 0, none⟩ = some (.int .u64 b1) := (HB7.out.cell (p := ⟨w.heap.size + 1, 0, none⟩) hzl).trans hzb0; have kb1 : w7.cell? ⟨w.heap.size + 1, 1, none⟩ = some (.int .u64 b2) := (HB7.out.cell (p := ⟨w.heap.size + 1, 1, none⟩) hzl).trans hzb1; have kb2 : w7.cell? ⟨w.heap.size + 1, 2, none⟩ = some (.int .i64 b3) := (HB7.out.cell (p := ⟨w.heap.size + 1, 2, none⟩) hzl).trans hzb2; have hs7 : z.heap.size ≤ w7.heap.size := HB7.out.size; have na0 : ¬ w7.heap.size = w.heap.size := (by omega); have na1 : ¬ w7.heap.size = w.heap.size + 1 := (by omega); have na2 : ¬ w.heap.size = w7.heap.size := (by omega); have na3 : ¬ w.heap.size + 1 = w7.heap.size := (by omega); have nb0 : ¬ w6.heap.size = w.heap.size := (by omega); have nb1 : ¬ w6.heap.size = w.heap.size + 1 := (by omega); have nb2 : ¬ w.heap.size = w6.heap.size := (by omega); have nb3 : ¬ w.heap.size + 1 = w6.heap.size := (by omega); clear hb7)
        | (go_at_call 25; (with_reducible refine (HC.out (w6.alloc (.cells #[.int .u64 0, .int .u64 0, .int .i64 0] 24)) va2 vc2 ((HR6.out.below (below1 w6 _) (Nat.le_refl _)).up (by simp))).mono ?_); rintro e w7 ⟨rfl, hb7⟩; have HB7 : Hid (Below z.heap.size z w7) := (HB6.out.alloc hs6 _).trans (hb7.mono (by simp; omega)); have ka0 : w7.cell? ⟨w.heap.size, 0, none⟩ = some (.int .u64 a1) := (HB7.out.cell (p := ⟨w.heap.size, 0, none⟩) hzla).trans hza0; have ka1 : w7.cell? ⟨w.heap.size, 1, none⟩ = some (.int .u64 a2) := (HB7.out.cell (p := ⟨w.heap.size, 1, none⟩) hzla).trans hza1; have ka2 : w7.cell? ⟨w.heap.size, 2, none⟩ = some (.int .i64 a3) := (HB7.out.cell (p := ⟨w.heap.size, 2, none⟩) hzla).trans hza2; have kb0 : w7.cell? ⟨w.heap.size + 1, 0, none⟩ = some (.int .u64 b1) := (HB7.out.cell (p := ⟨w.heap.size + 1, 0, none⟩) hzl).trans hzb0; have kb1 : w7.cell? ⟨w.heap.size + 1, 1, none⟩ = some (.int .u64 b2) := (HB7.out.cell (p := ⟨w.heap.size + 1, 1, none⟩) hzl).trans hzb1; have kb2 : w7.cell? ⟨w.heap.size + 1, 2, none⟩ = some (.int .i64 b3) := (HB7.out.cell (p := ⟨w.heap.size + 1, 2, none⟩) hzl).trans hzb2; have hs7 : z.heap.size ≤ w7.heap.size := HB7.out.size; have na0 : ¬ w7.heap.size = w.heap.size := (by omega); have na1 : ¬ w7.heap.size = w.heap.size + 1 := (by omega); have na2 : ¬ w.heap.size = w7.heap.size := (by omega); have na3 : ¬ w.heap.size + 1 = w7.heap.size := (by omega); have nb0 : ¬ w6.heap.size = w.heap.size := (by omega); have nb1 : ¬ w6.heap.size = w.heap.size + 1 := (by omega); have nb2 : ¬ w.heap.size = w6.heap.size := (by omega); have nb3 : ¬ w.heap.size + 1 = w6.heap.size := (by omega); have HX7 : Hid (IsCells w7 w6.heap.size #[.int .u64 0, .int .u64 0, .int .i64 0]) := (isCells_new w6 _ _).of_block (hb7.block _ (by simp)); have x0 := HX7.out.cell 0; have x1 := HX7.out.cell 1; have x2 := HX7.out.cell 2; have y0 := HX7.out.frozen 0; have y1' := HX7.out.frozen 1; have y2' := HX7.out.frozen 2; simp at x0 x1 x2; clear hb7))
    all_goals
      go_wp2_with fail
      go_meet
      first | exact ⟨_, rfl, rfl, mid_new HB7.out⟩ | exact ⟨_, rfl, rfl, mid_set HB7.out HX7.out (by omega)⟩
  case rest =>
    obtain ⟨X, rfl, rfl, HM⟩ := hcut
    have hX := HM.out.1
    have HBc : Hid (Below w.heap.size w wc) := HB3.out.trans (HM.out.2.1.mono hzs)
    have HXc : Hid (IsCells wc X #[.int .u64 c1, .int .u64 c2, .int .i64 c3]) := HM.out.2.2
    have HIA4 : Hid (IsCells wc w.heap.size #[.int .u64 a1, .int .u64 a2, .int .i64 a3]) := HIA3.out.of_block (HM.out.2.1.block _ HIA3.out.lt)
    have HIB4 : Hid (IsCells wc (w.heap.size + 1) #[.int .u64 b1, .int .u64 b2, .int .i64 b3]) := HIB3.out.of_block (HM.out.2.1.block _ HIB3.out.lt)
    have HRC4 := HRC.out wc ((HA.out.below HBc.out (Nat.le_refl _)).up HBc.out.size)
    clear HM HIA3 HIB3 HB3 hza0 hza1 hza2 hzb0 hzb1 hzb2 HW1 HW2 HW3 HRC HC
    have hza0 : wc.cell? ⟨w.heap.size, 0, none⟩ = some (.int .u64 a1) := HIA4.out.cell 0
    have hza1 : wc.cell? ⟨w.heap.size, 1, none⟩ = some (.int .u64 a2) := HIA4.out.cell 1
    have hza2 : wc.cell? ⟨w.heap.size, 2, none⟩ = some (.int .i64 a3) := HIA4.out.cell 2
    have hzb0 : wc.cell? ⟨w.heap.size + 1, 0, none⟩ = some (.int .u64 b1) := HIB4.out.cell 0
    have hzb1 : wc.cell? ⟨w.heap.size + 1, 1, none⟩ = some (.int .u64 b2) := HIB4.out.cell 1
    have hzb2 : wc.cell? ⟨w.heap.size + 1, 2, none⟩ = some (.int .i64 b3) := HIB4.out.cell 2
    go_wp2_with fail
    with_reducible refine HRC4.mono ?_
    rintro e w8 ⟨rfl, hb8⟩
    have HB8 : Hid (Below w.heap.size w w8) := HBc.out.trans (hb8.mono HBc.out.size)
    have HX8 : Hid (IsCells w8 X #[.int .u64 c1, .int .u64 c2, .int .i64 c3]) := HXc.out.of_block (hb8.block _ HXc.out.lt)
    clear hza0 hza1 hza2 hzb0 hzb1 hzb2 HRC4 hb8 HXc HBc HIA4 HIB4
    have HO8 := HONE.out (w8.alloc (.cells #[.int .u64 c1, .int .u64 c2, .int .i64 c3] 24))
    simp only [World.size_alloc] at HO8
    go_wp2_with fail
    with_reducible refine HO8.mono ?_
    rintro e w9 ⟨rfl, hb9⟩
    have HX9 : Hid (IsCells w9 X #[.int .u64 c1, .int .u64 c2, .int .i64 c3]) := ((HX8.out.alloc _).alloc _).of_block (hb9.block _ (by have := HX8.out.lt; omega))
    have HY9 : Hid (IsCells w9 w8.heap.size #[.int .u64 c1, .int .u64 c2, .int .i64 c3]) := ((isCells_new w8 _ _).alloc _).of_block (hb9.block _ (by omega))
    have HB9 : Hid (Below w.heap.size w w9) := ((HB8.out.alloc HB8.out.size _).alloc (by have := HB8.out.size; simp; omega) _).trans (hb9.mono (by have := HB8.out.size; omega))
    have hl9 : X < w9.heap.size := HX9.out.lt
    have hm9 : w8.heap.size < w9.heap.size := HY9.out.lt
    have p0 : w9.cell? ⟨X, 0, none⟩ = some (.int .u64 c1) := HX9.out.cell 0
    have p1 : w9.cell? ⟨X, 1, none⟩ = some (.int .u64 c2) := HX9.out.cell 1
    have p2 : w9.cell? ⟨X, 2, none⟩ = some (.int .i64 c3) := HX9.out.cell 2
    have q0 : w9.cell? ⟨w8.heap.size, 0, none⟩ = some (.int .u64 c1) := HY9.out.cell 0
    have q1 : w9.cell? ⟨w8.heap.size, 1, none⟩ = some (.int .u64 c2) := HY9.out.cell 1
    have q2 : w9.cell? ⟨w8.heap.size, 2, none⟩ = some (.int .i64 c3) := HY9.out.cell 2
    clear hb9 HO8 HX8 HX9 HY9
    go_wp2
    go_ret
    exact ⟨rfl, HB9.out.alloc HB9.out.size _⟩

end Go.Proofs.Ytfhbfilmejegcaa
