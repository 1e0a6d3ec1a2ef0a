/- shelve. -/
import Derived.Test.YtmeinebfdljndaaShv
import Derived.Deep.RegionHeld3
import Derived.Maps.AppendAt
namespace Go.Proofs.Ytmeinebfdljndaa
open Go.RowKit
set_option linter.unusedVariables false

def mtA (P : List Plc) (nm : ByteArray) (j : Nat) : Bool := match P[j]? with | some p => mt p nm | none => false
/-- The lists when so many places were looked at. -/
def shR (P : List Plc) (nm : ByteArray) (x : Pl) (R : Nat → List Pl) (i : Nat) : Nat → List Pl := fun j => if j < i ∧ mtA P nm j = true then R j ++ [x] else R j
theorem shR_zero (P : List Plc) (nm : ByteArray) (x : Pl) (R : Nat → List Pl) : shR P nm x R 0 = R := by funext j; simp [shR]
theorem shR_at (P : List Plc) (nm : ByteArray) (x : Pl) (R : Nat → List Pl) (i : Nat) : shR P nm x R i i = R i := by simp [shR]
theorem shR_yes {P : List Plc} {nm : ByteArray} {x : Pl} {R : Nat → List Pl} {i : Nat} (h : mtA P nm i = true) : (fun j => if j = i then shR P nm x R i i ++ [x] else shR P nm x R i j) = shR P nm x R (i + 1) := by
  funext j
  by_cases e : j = i
  · subst e
    simp [shR, h]
  · rw [if_neg e]
    unfold shR
    by_cases h2 : j < i ∧ mtA P nm j = true
    · rw [if_pos h2, if_pos ⟨by omega, h2.2⟩]
    · rw [if_neg h2, if_neg (fun h3 => h2 ⟨by omega, h3.2⟩)]
theorem shR_no {P : List Plc} {nm : ByteArray} {x : Pl} {R : Nat → List Pl} {i : Nat} (h : mtA P nm i = false) : shR P nm x R i = shR P nm x R (i + 1) := by
  funext j
  unfold shR
  by_cases h2 : j < i ∧ mtA P nm j = true
  · rw [if_pos h2, if_pos ⟨by omega, h2.2⟩]
  · rw [if_neg h2, if_neg]
    intro h3
    rcases Nat.lt_or_ge j i with h4 | h4
    · exact h2 ⟨h4, h3.2⟩
    · have e : j = i := by omega
      subst e
      rw [h] at h3
      exact absurd h3.2 (by simp)

/-- What shelve holds on to: lists under way, its own box. -/
structure ShS (lb B n : Nat) (R : Nat → List Pl) (x : Pl) (xb : Nat) (w : World) (wr : World) : Prop where
  ex : ∃ sl, Shv lb B n R sl wr ∧ (∀ i, i < n → (Value.slice (sl i).1 (R i).length (sl i).2).ownBlock ≠ some w.heap.size) ∧ ∀ i, i < n → (Value.slice (sl i).1 (R i).length (sl i).2).ownBlock ≠ some xb
  keep : wr.heap[xb]? = w.heap[xb]?
  tn : Tn (fun b => b = lb ∨ B ≤ b) w wr
  box : IsCells wr w.heap.size #[.int .u64 x.n, .int .u64 x.s.b, .int .u64 x.s.e, .int .i64 x.s.l]

set_option maxRecDepth 100000 in
set_option maxHeartbeats 8000000 in
theorem shelve_any (w : World) {lb B n : Nat} {R : Nat → List Pl} {sl : Nat → Option Addr × Nat} (h : Shv lb B n R sl w) (P : List Plc) (hPn : P.length = n) (hn : n ≤ 16) (hR : ∀ i, (R i).length ≤ 4096) (xb : Nat) (hxb : xb < w.heap.size ∧ xb ≠ lb ∧ ∀ i, i < n → (Value.slice (sl i).1 (R i).length (sl i).2).ownBlock ≠ some xb) {pa : Option Addr} {pc : Nat} (hP : PcAt w pa P) (hPb : ∀ g, pa = some ⟨g, 0, none⟩ → g < B ∧ g ≠ lb) (x : Pl) (nm : ByteArray) :
    Calls Try.prog 26 #[.slice (some ⟨lb, 0, none⟩) n n, .slice pa n pc, .agg #[.int .u64 x.n, .int .u64 x.s.b, .int .u64 x.s.e, .int .i64 x.s.l], .string nm] w fun e w' => (∃ v, e = .returned v) ∧ (∃ sl', Shv lb B n (shR P nm x R n) sl' w' ∧ Tn (fun b => b = lb ∨ B ≤ b) w w') ∧ w'.heap[xb]? = w.heap[xb]? := by
  have hlow := h.low
  have hsz := h.size
  have HP : Hid (PcAt w pa P ∧ ∀ g, pa = some ⟨g, 0, none⟩ → g < B ∧ g ≠ lb) := ⟨hP, hPb⟩
  have HRl : Hid (∀ i, (R i).length ≤ 4096) := hR
  have H0 : Hid (ShS lb B n (shR P nm x R 0) x xb w (w.alloc (.cells #[.int .u64 x.n, .int .u64 x.s.b, .int .u64 x.s.e, .int .i64 x.s.l] 38))) := by
    rw [shR_zero]
    have t : Tn (fun _ => False) w (w.alloc (.cells #[.int .u64 x.n, .int .u64 x.s.b, .int .u64 x.s.e, .int .i64 x.s.l] 38)) := (Tn.refl _ _).alloc _
    exact ⟨⟨sl, h.tn t (fun _ h => h.elim), (fun i hi e => by have := (own_block_lt (h.own i hi) _ e).2; omega), hxb.2.2⟩, t.block _ hxb.1 id, t.mono (fun _ _ h => h.elim), isCells_new _ _ _⟩
  have hx1 := hxb.1
  have hx2 := hxb.2.1
  clear h hP hPb hR hxb
  subst hPn
  go_enter Try.func26, Try.ntmps26
  go_wp2
  go_loopw [12] (fun u wr => ∃ i : Nat, i ≤ P.length ∧ u = .int .i64 (i : Int) ∧ Hid (ShS lb B P.length (shR P nm x R i) x xb w wr)) (fun u _ => P.length - (intOf u).toNat)
  case atStart => exact ⟨0, by omega, rfl, H0⟩
  case round =>
    clear H0
    obtain ⟨i, hi, rfl, HS⟩ := hrel
    by_cases hlt : i < P.length
    · obtain ⟨p, hp⟩ : ∃ p, P[i]? = some p := ⟨_, List.getElem?_eq_getElem hlt⟩
      obtain ⟨g, rfl, hg, q0, q1, q2⟩ := HP.out.1 i p hp
      have hgB := HP.out.2 g rfl
      have kc : ∀ o, wr.cell? ⟨g, o, none⟩ = w.cell? ⟨g, o, none⟩ := fun o => HS.out.tn.cell hg (by omega)
      have c0 : wr.cell? ⟨g, i * 3, none⟩ = some (.string p.nm) := (kc _).trans q0
      have c1 : wr.cell? ⟨g, i * 3 + 1, none⟩ = some (.int .i64 p.up) := (kc _).trans q1
      have c2 : wr.cell? ⟨g, i * 3 + 2, none⟩ = some (.bool p.dr) := (kc _).trans q2
      have hws := HS.out.tn.size
      have hgw : g < wr.heap.size := by omega
      have hlt9 : (i : Int) < (P.length : Int) := by omega
      have hmA : mtA P nm i = mt p nm := by unfold mtA; rw [hp]
      obtain ⟨W1, hW1⟩ : ∃ W1, W1 = wr.alloc (.cells #[.string p.nm, .int .i64 p.up, .bool p.dr] 87) := ⟨_, rfl⟩
      have t1 : Tn (fun _ => False) wr W1 := by rw [hW1]; exact (Tn.refl _ _).alloc _
      have HW1 : Hid (W1 = wr.alloc (.cells #[.string p.nm, .int .i64 p.up, .bool p.dr] 87)) := hW1
      have HS1 : Hid (ShS lb B P.length (shR P nm x R i) x xb w W1) := by
        obtain ⟨⟨sl1, e1, e2⟩, e5, e3, e4⟩ := HS.out
        exact ⟨⟨sl1, e1.tn t1 (fun _ h => h.elim), e2⟩, (t1.block _ (by omega) id).trans e5, e3.trans (t1.mono (fun _ _ h => h.elim)) (fun _ _ h => h), e4.tn t1 id⟩
      clear hW1 kc q0 q1 q2 hp t1
      cases hm : mt p nm
      · have HS2 : Hid (ShS lb B P.length (shR P nm x R (i + 1)) x xb w W1) := by
          rw [← shR_no (by rw [hmA, hm])]
          exact HS1.out
        have hm2 : p.nm.toList.isEmpty = false ∧ (p.nm.toList == nm.toList) = false := by
          unfold mt at hm
          simpa using hm
        obtain ⟨hE, hN⟩ := hm2
        clear HS HS1 hm hmA
        go_wp2
        rw [← HW1.out]
        go_roundw
        case rel => exact ⟨i + 1, by omega, by go_num, HS2⟩
        case measure => simp [intOf]; omega
      · have hl2 : (shR P nm x R i i).length ≤ 4096 := by rw [shR_at]; exact HRl.out i
        obtain ⟨sl1, e1, e2⟩ := HS1.out.ex
        have HFZ : Hid (∀ va vc Y, Y.ownsRow B 38 4 (.slice va ((shR P nm x R i i).length + 1) vc) ((shR P nm x R i i).length + 1) (plCells (shR P nm x R i i) ++ plCells [x]) → ((W1.alloc (.cells #[.int .u64 x.n, .int .u64 x.s.b, .int .u64 x.s.e, .int .i64 x.s.l] 38)).drew).grownBy Y (Value.slice (sl1 i).1 (shR P nm x R i i).length (sl1 i).2).ownBlock → ((Value.slice va ((shR P nm x R i i).length + 1) vc).ownBlock = (Value.slice (sl1 i).1 (shR P nm x R i i).length (sl1 i).2).ownBlock ∨ (Value.slice va ((shR P nm x R i i).length + 1) vc).ownBlock = some ((W1.alloc (.cells #[.int .u64 x.n, .int .u64 x.s.b, .int .u64 x.s.e, .int .i64 x.s.l] 38)).drew).heap.size) → IsCells Y lb (slA P.length (shR P nm x R i) sl1) ∧ ShS lb B P.length (shR P nm x R (i + 1)) x xb w (Y.setCell ⟨lb, i, none⟩ (.slice va ((shR P nm x R i i).length + 1) vc))) := by
          intro va vc Y q1 q2 q3
          obtain ⟨r1, sl2, r2, r3, r4⟩ := e1.put hlt (((Tn.refl (fun _ => False) W1).alloc (.cells #[.int .u64 x.n, .int .u64 x.s.b, .int .u64 x.s.e, .int .i64 x.s.l] 38)).drew) q1 q2 q3
          rw [shR_yes (by rw [hmA, hm])] at r2
          obtain ⟨r5, r6⟩ := r4 w.heap.size (HS1.out.box.lt) (by omega) e2.1
          obtain ⟨r7, r8⟩ := r4 xb (by have := HS1.out.tn.size; omega) hx2 e2.2
          refine ⟨r1, ⟨sl2, r2, fun j hj => ?_, fun j hj => ?_⟩, r7.trans HS1.out.keep, HS1.out.tn.trans r3 (fun _ _ h => h), HS1.out.box.of_block r5⟩
          · have := r6 j hj
            rw [← shR_yes (by rw [hmA, hm])]
            exact this
          · have := r8 j hj
            rw [← shR_yes (by rw [hmA, hm])]
            exact this
        have HCS : Hid ((slA P.length (shR P nm x R i) sl1)[i]? = some (.slice (sl1 i).1 (shR P nm x R i i).length (sl1 i).2)) := slA_at hlt
        have HOW : Hid (((W1.alloc (.cells #[.int .u64 x.n, .int .u64 x.s.b, .int .u64 x.s.e, .int .i64 x.s.l] 38)).drew).ownsRow B 38 4 (.slice (sl1 i).1 (shR P nm x R i i).length (sl1 i).2) (shR P nm x R i i).length (plCells (shR P nm x R i i))) := own_tn (e1.own i hlt) (((Tn.refl (fun _ => False) W1).alloc _).drew) (fun _ _ h => h)
        have d0 : W1.cell? ⟨lb, i, none⟩ = some (.slice (sl1 i).1 (shR P nm x R i i).length (sl1 i).2) := (e1.cells.cell i).trans HCS.out
        have dl : lb < W1.heap.size := e1.cells.lt
        have dB : B ≤ W1.heap.size := e1.size
        have b0 : W1.cell? ⟨w.heap.size, 0, none⟩ = some (.int .u64 x.n) := HS1.out.box.cell 0
        have b1 : W1.cell? ⟨w.heap.size, 1, none⟩ = some (.int .u64 x.s.b) := HS1.out.box.cell 1
        have b2 : W1.cell? ⟨w.heap.size, 2, none⟩ = some (.int .u64 x.s.e) := HS1.out.box.cell 2
        have b3 : W1.cell? ⟨w.heap.size, 3, none⟩ = some (.int .i64 x.s.l) := HS1.out.box.cell 3
        have bl : w.heap.size < W1.heap.size := HS1.out.box.lt
        have nb1 : ¬ lb = w.heap.size := by omega
        have nb2 : ¬ w.heap.size = lb := by omega
        have hm2 : p.nm.toList.isEmpty = true ∨ (p.nm.toList.isEmpty = false ∧ (p.nm.toList == nm.toList) = true) := by
          unfold mt at hm
          cases h1 : p.nm.toList.isEmpty
          · rw [h1] at hm
            exact .inr ⟨rfl, by simpa using hm⟩
          · exact .inl rfl
        clear HS HS1 hm hmA e1 e2 HRl
        generalize plCells (shR P nm x R i i) = xs at HFZ HOW
        generalize (shR P nm x R i i).length = rl at HFZ HCS HOW d0 hl2
        generalize (sl1 i).1 = ra at HFZ HCS HOW d0
        generalize (sl1 i).2 = rc at HFZ HCS HOW d0
        obtain ⟨xn, x1, x2, x3⟩ := x
        simp only at *
        rcases hm2 with hE | ⟨hE, hN⟩
        · go_upto_region 5 with fail
          rw [← HW1.out]
          go_region_law (first | (refine step_app (by rfl) _ _ (by rfl) Try.underlying25 info38 rfl (by decide) B (.slice ra rl rc) rl xs (by rfl) HOW.out (some ⟨W1.heap.size, 0, none⟩) 1 1 (plCells [⟨xn, ⟨x1, x2, x3⟩⟩]) (by rfl) (by rfl) (pl_news W1 ⟨xn, ⟨x1, x2, x3⟩⟩) (plCells_one _) (by unfold maxLen; omega) (by omega) (by simp; omega) ?_; intro v1 Y hown1 hg1 _ hat1; obtain ⟨va, vc, hvv⟩ := own_slice hown1; subst hvv; obtain ⟨i9, j9⟩ := HFZ.out va vc Y hown1 hg1 hat1; have c9 : Y.cell? ⟨lb, i, none⟩ = some (.slice ra rl rc) := (i9.cell i).trans HCS.out; have f9 : Y.frozen? ⟨lb, i, none⟩ = false := i9.frozen i; have l9 : lb < Y.heap.size := i9.lt; have HJ : Hid (ShS lb B P.length (shR P nm ⟨xn, ⟨x1, x2, x3⟩⟩ R (i + 1)) ⟨xn, ⟨x1, x2, x3⟩⟩ xb w (Y.setCell ⟨lb, i, none⟩ (.slice va (rl + 1) vc))) := j9; clear hown1 hg1 hat1 i9 j9))
          all_goals (
            go_wp2
            go_roundw
            case rel => exact ⟨i + 1, by omega, by go_num, HJ⟩
            case measure => simp [intOf]; omega)
        · go_upto_region 5 with fail
          rw [← HW1.out]
          go_region_law (first | (refine step_app (by rfl) _ _ (by rfl) Try.underlying25 info38 rfl (by decide) B (.slice ra rl rc) rl xs (by rfl) HOW.out (some ⟨W1.heap.size, 0, none⟩) 1 1 (plCells [⟨xn, ⟨x1, x2, x3⟩⟩]) (by rfl) (by rfl) (pl_news W1 ⟨xn, ⟨x1, x2, x3⟩⟩) (plCells_one _) (by unfold maxLen; omega) (by omega) (by simp; omega) ?_; intro v1 Y hown1 hg1 _ hat1; obtain ⟨va, vc, hvv⟩ := own_slice hown1; subst hvv; obtain ⟨i9, j9⟩ := HFZ.out va vc Y hown1 hg1 hat1; have c9 : Y.cell? ⟨lb, i, none⟩ = some (.slice ra rl rc) := (i9.cell i).trans HCS.out; have f9 : Y.frozen? ⟨lb, i, none⟩ = false := i9.frozen i; have l9 : lb < Y.heap.size := i9.lt; have HJ : Hid (ShS lb B P.length (shR P nm ⟨xn, ⟨x1, x2, x3⟩⟩ R (i + 1)) ⟨xn, ⟨x1, x2, x3⟩⟩ xb w (Y.setCell ⟨lb, i, none⟩ (.slice va (rl + 1) vc))) := j9; clear hown1 hg1 hat1 i9 j9))
          all_goals (
            go_wp2
            go_roundw
            case rel => exact ⟨i + 1, by omega, by go_num, HJ⟩
            case measure => simp [intOf]; omega)
    · have hin : i = P.length := by omega
      subst hin
      obtain ⟨⟨sl1, e1, e2⟩, e5, e3, e4⟩ := HS.out
      have HE : Hid ((∃ sl', Shv lb B P.length (shR P nm x R P.length) sl' wr ∧ Tn (fun b => b = lb ∨ B ≤ b) w wr) ∧ wr.heap[xb]? = w.heap[xb]?) := ⟨⟨sl1, e1, e3⟩, e5⟩
      clear e1 e2 e3 e4 e5 HS
      go_wp2
      refine bodyPost_end (results_none rfl _ _ _) rfl ?_
      exact ⟨⟨_, rfl⟩, HE.out⟩

end Go.Proofs.Ytmeinebfdljndaa
