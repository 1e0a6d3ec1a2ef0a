/- A value in memory of its own: the law's own. -/
import Derived.Test.YtoabgmpcdnikeaaGreatDoorXm
import Derived.Test.YtoabgmpcdnikeaaGreatDoorApp
import Derived.Deep.RegionLaw
import Derived.Deep.RegionHeld3
import Derived.OwnWalk
import Derived.Laws.MakeOwn
import Derived.Deep.Cut
namespace Go.Proofs.YtoabgmpcdnikeaaGreatDoor
open Go.RowKit
set_option linter.unusedVariables false

/-- append as a step of a statement whose order is open. -/
theorem step_app {P : Program} {t e : TypeId} {z : Value} {size bytes : Nat} {w : World} {ops : Array Oper} {o : Oper} {ac : Act} {K : Act → World → Prop} {Q : Exit → Act → World → Prop} {E : Prop} (hgd : o.guard = none) (s x : Operand)
    (ho : o.op = .call { callee := .builtin .append, args := #[s, x], argTypes := #[t, t] }) (ht : P.underlying t = some (.slice e)) (hi : InfoOf P e z size bytes) (hzs : z.cells.size = size) (hsz : 0 < size)
    (base : Nat) (v : Value) (n : Nat) (xs : List Value) (hs : ac.eval s = v) (hown : w.ownsRow base e size v n xs) (a : Option Addr) (m c : Nat) (news : List Value) (hx : ac.eval x = .slice a m c) (hl : news.length = m * size)
    (hnews : ∀ j u, news[j]? = some u → ∃ ad, a = some ad ∧ w.cell? (ad.add j) = some u) (h1 : ∀ u ∈ news, u.oneCell' = true) (h63 : n + m ≤ maxLen) (hbytes : (n + m) * bytes ≤ 140737488355328) (hbase : base ≤ w.heap.size)
    (hK : ∀ v' w', w'.ownsRow base e size v' (n + m) (xs ++ news) → w.grownBy w' v.ownBlock → (v' = .slice none 0 0 ↔ v = .slice none 0 0 ∧ m = 0) → (v'.ownBlock = v.ownBlock ∨ v'.ownBlock = some w.heap.size) → K (ac.put o.dst v') w') :
    if Region.wanted o (yielded ops ac.tmps) = true then Oper.wp P o ac w K Q else E := by
  have hw : Region.wanted o (yielded ops ac.tmps) = true := by simp [Region.wanted, hgd]
  rw [if_pos hw]
  obtain ⟨v', w', hr, h2, h3, h4, h5⟩ := run_app (ty := o.type) ht hi hzs hsz w base v n xs hown a m c news hl hnews h1 h63 hbytes hbase
  unfold Oper.wp execOp
  simp only [ho, resolve, invoke, builtin, Sem.run_bind, Sem.run_pure, Result.andThen_ok, List.map_toArray, List.map_cons, List.map_nil, hs, hx, hr]
  exact hK v' w' h2 h3 h4 h5

theorem info9 : InfoOf Tryz.prog 9 (.string ⟨#[]⟩) 1 16 := by unfold InfoOf; kernel_rfl
/-- A list of texts as cells. -/
def strCells (L : List ByteArray) : List Value := L.map Value.string
theorem strCells_one (L : List ByteArray) : ∀ u ∈ strCells L, u.oneCell' = true := by
  intro u hu
  obtain ⟨s, _, rfl⟩ := List.mem_map.1 hu
  rfl
theorem SsAt.news {w : World} {a : Option Addr} {L : List ByteArray} (h : SsAt w a L) : ∀ j u, (strCells L)[j]? = some u → ∃ ad, a = some ad ∧ w.cell? (ad.add j) = some u := by
  intro j u hu
  unfold strCells at hu
  rw [List.getElem?_map] at hu
  cases hj : L[j]? with
  | none => rw [hj] at hu; cases hu
  | some s =>
    rw [hj] at hu
    simp only [Option.map_some, Option.some.injEq] at hu
    subst hu
    obtain ⟨b, o, rfl, _, h3⟩ := h j s hj
    refine ⟨_, rfl, ?_⟩
    have e : (⟨b, o, none⟩ : Addr).add j = ⟨b, o + j, none⟩ := by unfold Addr.add; split <;> simp_all
    rw [e]
    exact h3
theorem SsAt.of_row {w : World} {base : Nat} {a : Option Addr} {cap : Nat} {L : List ByteArray} (h : w.ownsRow base 9 1 (.slice a L.length cap) L.length (strCells L)) : SsAt w a L := by
  intro i s hi
  obtain ⟨_, _, h3⟩ := row_cell h
  obtain ⟨g, rfl, _, hg, hc⟩ := h3 i (.string s) (by unfold strCells; rw [List.getElem?_map, hi]; rfl)
  exact ⟨g, 0, rfl, hg, by simpa using hc⟩

theorem SsAt.set {w : World} {a : Option Addr} {L : List ByteArray} {B : Nat} (h : SsAt w a L) (hB : ∀ b o, a = some ⟨b, o, none⟩ → b ≠ B) (j : Nat) (v : Value) : SsAt (w.setCell ⟨B, j, none⟩ v) a L := fun i s hs => by
  obtain ⟨b, o, h1, h2, h3⟩ := h i s hs
  exact ⟨b, o, h1, by simpa [World.setCell] using h2, (World.cell?_of_block (w := w) (a := ⟨b, o + i, none⟩) (Below.heap_setCell _ _ _ _ (hB b o h1))).trans h3⟩

set_option maxRecDepth 100000 in
set_option maxHeartbeats 4000000 in
theorem own_any (w : World) {k n : Int} {b no : Bool} {t : ByteArray} {a : Option Addr} {c : Nat} {L : List ByteArray} (h : VOk w ⟨k, b, n, no, t, L⟩ a) (hz : L.length * 16 ≤ 140737488351232) :
    Calls Tryz.prog 8 #[.agg #[.int .i64 k, .bool b, .int .i64 n, .bool no, .string t, .slice a L.length c]] w fun e w' => ∃ a' c', e = .returned (.agg #[.int .i64 k, .bool b, .int .i64 n, .bool no, .string t, .slice a' L.length c']) ∧ SsAt w' a' L ∧ Below w.heap.size w w' ∧ ∀ b o, a' = some ⟨b, o, none⟩ → w.heap.size ≤ b ∧ b < w'.heap.size := by
  obtain ⟨W, hW⟩ : ∃ W, ((w.alloc (.cells #[.int .i64 k, .bool b, .int .i64 n, .bool no, .string t, .slice a L.length c] 24)).alloc (.cells #[.int .i64 0, .bool false, .int .i64 0, .bool false, .string ⟨#[]⟩, .slice none 0 0] 24)) = W := ⟨_, rfl⟩
  have hbW : Below w.heap.size w W := by rw [← hW]; exact below2 _ _ _
  have hsz : W.heap.size = w.heap.size + 2 := by rw [← hW]; simp
  have hx : IsCells W w.heap.size #[.int .i64 k, .bool b, .int .i64 n, .bool no, .string t, .slice a L.length c] := by rw [← hW]; exact (isCells_new w _ 24).alloc _
  have hy : IsCells W (w.heap.size + 1) #[.int .i64 0, .bool false, .int .i64 0, .bool false, .string ⟨#[]⟩, .slice none 0 0] := by
    have := isCells_new (w.alloc (.cells #[.int .i64 k, .bool b, .int .i64 n, .bool no, .string t, .slice a L.length c] 24)) #[.int .i64 0, .bool false, .int .i64 0, .bool false, .string ⟨#[]⟩, .slice none 0 0] 24
    rw [hW] at this
    simpa using this
  have HW : Hid (((w.alloc (.cells #[.int .i64 k, .bool b, .int .i64 n, .bool no, .string t, .slice a L.length c] 24)).alloc (.cells #[.int .i64 0, .bool false, .int .i64 0, .bool false, .string ⟨#[]⟩, .slice none 0 0] 24)) = W ∧ Below w.heap.size w W ∧ IsCells W w.heap.size #[.int .i64 k, .bool b, .int .i64 n, .bool no, .string t, .slice a L.length c] ∧ IsCells W (w.heap.size + 1) #[.int .i64 0, .bool false, .int .i64 0, .bool false, .string ⟨#[]⟩, .slice none 0 0] ∧ W.heap.size = w.heap.size + 2) := ⟨hW, hbW, hx, hy, hsz⟩
  have HAT : Hid (SsAt w a L) := h.at_
  obtain ⟨x0, x1, x2, x3, x4, x5⟩ := six_cells hx
  clear hW hbW hx hy h hsz
  have hl0 : L.length ≤ 8796093022000 := by omega
  have hl1 : (L.length : Int) ≤ 8796093022000 := by omega
  have hwr : IntKind.i64.wrap ((L.length : Int) + 1) = (L.length : Int) + 1 := by rw [IntKind.wrap_i64]; omega
  go_enter Tryz.func8, Tryz.ntmps8
  go_upto_region 1 with fail
  rw [HW.out.1]
  have HN : Hid (∀ X, Below w.heap.size w X → ∀ j u, (strCells L)[j]? = some u → ∃ ad, a = some ad ∧ X.cell? (ad.add j) = some u) := fun X hX => (HAT.out.bel hX).news
  obtain ⟨iA, hiA0, hiA1, hiA2, hiA3⟩ := info9.parts
  obtain ⟨w2, hmk, hown2, hg2⟩ := run_make_own (P := Tryz.prog) W.drew (w.heap.size + 2) 22 9 iA _ 1 Tryz.underlying22 hiA0 hiA1 hiA2 .i64 .i64 (L.length + 1) (by rw [hiA3]; omega) (by unfold maxLen; omega) (by have := HW.out.2.2.2.2; simp; omega)
  have hdz : W.drew.heap.size = w.heap.size + 2 := HW.out.2.2.2.2
  rw [show ((L.length + 1 : Nat) : Int) = (L.length : Int) + 1 from by omega, hdz] at hmk
  rw [hdz] at hown2
  have HO2 : Hid (w2.ownsRow (w.heap.size + 2) 9 1 (.slice (some ⟨w.heap.size + 2, 0, none⟩) 0 (L.length + 1)) 0 []) := hown2
  have HB2 : Hid (Below w.heap.size w w2) := (HW.out.2.1.drew).grown hg2 (by omega) (fun k hk => by cases hk)
  have HX2 : Hid (IsCells w2 w.heap.size #[.int .i64 k, .bool b, .int .i64 n, .bool no, .string t, .slice a L.length c] ∧ IsCells w2 (w.heap.size + 1) #[.int .i64 0, .bool false, .int .i64 0, .bool false, .string ⟨#[]⟩, .slice none 0 0]) := ⟨HW.out.2.2.1.of_block (hg2.block _ (by omega) (fun e => by cases e)), HW.out.2.2.2.1.of_block (hg2.block _ (by omega) (fun e => by cases e))⟩
  have hc2 : w2.cell? ⟨w.heap.size, 5, none⟩ = some (.slice a L.length c) := HX2.out.1.cell 5
  have hf2 : w2.frozen? ⟨w.heap.size, 5, none⟩ = false := HX2.out.1.frozen 5
  have HS2 : Hid (w.heap.size + 2 ≤ w2.heap.size) := by have := hg2.size; rw [hdz] at this; exact this
  clear hown2 hg2 hiA0 hiA1 hiA2 hiA3 hdz
  have tok3 : True := trivial
  go_region_law (first
      | (have _t := tok3; refine step_app (by rfl) _ _ (by rfl) Tryz.underlying22 info9 rfl (by decide) (w.heap.size + 2) _ 0 [] (by rfl) HO2.out a L.length c (strCells L) (by rfl) (by simp [strCells]) (HN.out w2 HB2.out) (strCells_one _) (by unfold maxLen; omega) (by omega) HS2.out ?_; intro v3 w3 hown3 hg3 _ hat3; obtain ⟨va, vc, hv3⟩ := own_slice hown3; subst hv3; rw [Nat.zero_add, List.nil_append] at hown3; rw [Nat.zero_add]; have HO3 : Hid (w3.ownsRow (w.heap.size + 2) 9 1 (.slice va L.length vc) L.length (strCells L)) := hown3; have HB3 : Hid (Below w.heap.size w w3) := HB2.out.grown hg3 (by have := HS2.out; omega) (fun j hj => by have := (own_block_lt HO2.out j hj).1; omega); have HX3 : Hid (IsCells w3 w.heap.size #[.int .i64 k, .bool b, .int .i64 n, .bool no, .string t, .slice a L.length c] ∧ IsCells w3 (w.heap.size + 1) #[.int .i64 0, .bool false, .int .i64 0, .bool false, .string ⟨#[]⟩, .slice none 0 0]) := ⟨HX2.out.1.of_block (hg3.block _ (by have := HS2.out; omega) (fun e => by have := (own_block_lt HO2.out _ e.symm).1; omega)), HX2.out.2.of_block (hg3.block _ (by have := HS2.out; omega) (fun e => by have := (own_block_lt HO2.out _ e.symm).1; omega))⟩; have hc3 : w3.cell? ⟨w.heap.size, 5, none⟩ = some (.slice a L.length c) := HX3.out.1.cell 5; have hf3 : w3.frozen? ⟨w.heap.size, 5, none⟩ = false := HX3.out.1.frozen 5; clear hown3 hg3 hat3 tok3 _t))
  all_goals
    obtain ⟨w4, hw4⟩ : ∃ w4, w4 = w3.setCell ⟨w.heap.size, 5, none⟩ (.slice va L.length vc) := ⟨_, rfl⟩
    have HB4 : Hid (Below w.heap.size w w4) := by rw [hw4]; exact HB3.out.setCell (p := ⟨w.heap.size, 5, none⟩) (Nat.le_refl _) _
    have hx4 : IsCells w4 w.heap.size #[.int .i64 k, .bool b, .int .i64 n, .bool no, .string t, .slice va L.length vc] := by rw [hw4]; exact HX3.out.1.set 5 _
    have hy4 : IsCells w4 (w.heap.size + 1) #[.int .i64 0, .bool false, .int .i64 0, .bool false, .string ⟨#[]⟩, .slice none 0 0] := by rw [hw4]; exact HX3.out.2.of_block (Below.heap_setCell _ _ _ _ (show w.heap.size + 1 ≠ w.heap.size by omega))
    have HVB : Hid (∀ b o, va = some ⟨b, o, none⟩ → b ≠ w.heap.size + 1) := fun b o e => by have := (own_block_lt HO3.out b (by subst e; rfl)).1; omega
    have HVC : Hid (∀ b o, va = some ⟨b, o, none⟩ → w.heap.size ≤ b ∧ b < w4.heap.size) := fun b o e => by have h := own_block_lt HO3.out b (by subst e; rfl); rw [hw4]; simp [World.setCell]; omega
    have HO4 : Hid (SsAt w4 va L) := SsAt.of_row (base := w.heap.size + 2) (own_of_block HO3.out (fun k hk => by rw [hw4]; exact Below.heap_setCell _ _ _ _ (show k ≠ w.heap.size by have := (own_block_lt HO3.out k hk).1; omega)))
    have HX4 : Hid (IsCells w4 w.heap.size #[.int .i64 k, .bool b, .int .i64 n, .bool no, .string t, .slice va L.length vc] ∧ IsCells w4 (w.heap.size + 1) #[.int .i64 0, .bool false, .int .i64 0, .bool false, .string ⟨#[]⟩, .slice none 0 0]) := ⟨hx4, hy4⟩
    rw [← hw4]
    clear hw4 hx4 hy4 hmk hc2 hc3 hf2 hf3 x0 x1 x2 x3 x4 x5
    obtain ⟨x0, x1, x2, x3, x4, x5⟩ := six_cells HX4.out.1
    obtain ⟨z0, z1, z2, z3, z4, z5⟩ := six_cells HX4.out.2
    obtain ⟨f0, f1, f2, f3, f4, f5⟩ := six_frozen HX4.out.2
    go_wp2
    obtain ⟨y0, y1, y2, y3, y4, y5⟩ := six_cells (set6 HX4.out.2 (.int .i64 k) (.bool b) (.int .i64 n) (.bool no) (.string t) (.slice va L.length vc))
    have HR : Hid (SsAt ((((((w4.setCell ⟨w.heap.size + 1, 0, none⟩ (.int .i64 k)).setCell ⟨w.heap.size + 1, 1, none⟩ (.bool b)).setCell ⟨w.heap.size + 1, 2, none⟩ (.int .i64 n)).setCell ⟨w.heap.size + 1, 3, none⟩ (.bool no)).setCell ⟨w.heap.size + 1, 4, none⟩ (.string t)).setCell ⟨w.heap.size + 1, 5, none⟩ (.slice va L.length vc)) va L) := (((((HO4.out.set HVB.out 0 _).set HVB.out 1 _).set HVB.out 2 _).set HVB.out 3 _).set HVB.out 4 _).set HVB.out 5 _
    exact bodyPost_ret (v := .agg #[.int .i64 k, .bool b, .int .i64 n, .bool no, .string t, .slice va L.length vc]) (by simp [results, Tryz.results8, go_sem, y0, y1, y2, y3, y4, y5]) rfl ⟨va, vc, rfl, HR.out, below6 HB4.out (Nat.le_succ _) _ _ _ _ _ _, fun b o e => by have h := HVC.out b o e; simpa [World.setCell] using h⟩

end Go.Proofs.YtoabgmpcdnikeaaGreatDoor
