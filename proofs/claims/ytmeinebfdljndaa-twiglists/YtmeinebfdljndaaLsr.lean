/- Lists, where a function is handed in. -/
import Derived.Test.YtmeinebfdljndaaLst
namespace Go.Proofs.Ytmeinebfdljndaa
open Go.RowKit Go.Shelf
set_option linter.unusedVariables false

theorem ll_one {w : World} {la : Option Addr} {lc : Nat} {N : List Pl} (h : PlsAt w w.heap.size la N) (hc : N.length ≤ lc) : LlAt (w.alloc (.cells #[.slice la N.length lc] 25)) (some ⟨w.heap.size, 0, none⟩) [N] := by
  intro i L hL
  cases i with
  | zero =>
    simp at hL
    subst hL
    exact ⟨w.heap.size, 0, la, lc, rfl, by simp, (isCells_new w _ 25).cell 0, hc, h.bel ((Below.refl _ _).alloc (Nat.le_refl _) _)⟩
  | succ i => simp at hL

set_option maxRecDepth 100000 in
set_option maxHeartbeats 8000000 in
/-- The way of Lists up to where the lists are made, or the error. -/
theorem lists_wrong {n : Nat} (w : World) {nm : ByteArray} {dr : Bool} {ka : Option Addr} {kl kc : Nat} {t : TP n} (h : TwAt w w.heap.size n #[.string nm, .bool dr, .slice ka kl kc] t) {la : Option Addr} {lc : Nat} {N : List Pl} (hN : PlsAt w w.heap.size la N) (hc : N.length ≤ lc) (hv : ∀ x ∈ N, Lvl x.s) (ptrs : Array Value) (q : Bool) (hq : q = true ↔ (sps N).Pairwise Ok) (hk : chkT n t = 0) (y : Int) (hy : wrE [N] q = y) (hy0 : y ≠ 0) :
    Calls Try.prog 6 #[.agg #[.string nm, .bool dr, .slice ka kl kc], .slice la N.length lc, .func (.func 8) #[] ptrs] w fun e w' => e = .returned (.tuple #[.slice none 0 0, .int .i64 y]) ∧ Below w.heap.size w w' := by
  obtain ⟨W, hW⟩ : ∃ W, (w.alloc (.cells #[.string nm, .bool dr, .slice ka kl kc] 24)).alloc (.cells #[.func (.func 8) #[] ptrs] 39) = W := ⟨_, rfl⟩
  have hb : Below w.heap.size w W := by rw [← hW]; exact ((Below.refl _ _).alloc (Nat.le_refl _) _).alloc (by simp) _
  have i1 : IsCells W (w.heap.size + 1) #[.func (.func 8) #[] ptrs] := by
    have := isCells_new (w.alloc (.cells #[.string nm, .bool dr, .slice ka kl kc] 24)) #[.func (.func 8) #[] ptrs] 39
    rw [hW] at this
    simpa using this
  have hpl := places_any W ((h.below hb (Nat.le_refl _)).mono hb.size)
  have hq1 : ∀ w, (binOp .eql 39 (.func (.func 8) #[] ptrs) .nilFunc).run Try.prog w = .ok (.bool false) w := fun _ => by kernel_rfl
  have HW : Hid ((w.alloc (.cells #[.string nm, .bool dr, .slice ka kl kc] 24)).alloc (.cells #[.func (.func 8) #[] ptrs] 39) = W) := hW
  have HB : Hid (Below w.heap.size w W ∧ IsCells W (w.heap.size + 1) #[.func (.func 8) #[] ptrs]) := ⟨hb, i1⟩
  have HWR : Hid (∀ X, Below w.heap.size w X → Calls Try.prog 22 #[.slice (some ⟨X.heap.size, 0, none⟩) 1 1] (X.alloc (.cells #[.slice la N.length lc] 25)) fun e Y => e = .returned (.int .i64 y) ∧ Hid (Below w.heap.size w Y)) := fun X hX => by
    have bA : Below w.heap.size w (X.alloc (.cells #[.slice la N.length lc] 25)) := hX.alloc hX.size _
    refine (wrong_any _ (ca := 1) (ll_one (hN.bel hX) hc) (by simp) (fun L hL => by simp at hL; subst hL; exact hv) q (by simpa using hq)).mono ?_
    rintro e Y ⟨he, hY⟩
    exact ⟨by rw [← hy]; exact he, bA.trans (hY.mono bA.size)⟩
  rw [hk] at hpl
  clear h hb hW i1 hN hv hq hk hy
  generalize plA n t = P at hpl
  go_enter Try.func6, Try.ntmps6
  go_wp2_with fail
  rw [HW.out]
  with_reducible refine hpl.mono ?_
  rintro e X ⟨pa, pc, rfl, -, hX⟩
  have HX : Hid (Below w.heap.size w (X.alloc (.cells #[.slice pa P.length pc] 61))) := (HB.out.1.trans (hX.mono HB.out.1.size)).alloc (by have := hX.size; have := HB.out.1.size; omega) _
  have f0 : X.cell? ⟨w.heap.size + 1, 0, none⟩ = some (.func (.func 8) #[] ptrs) := (HB.out.2.of_block (hX.block _ HB.out.2.lt)).cell 0
  have fl : w.heap.size + 1 < X.heap.size := (HB.out.2.of_block (hX.block _ HB.out.2.lt)).lt
  have hwr := HWR.out _ HX.out
  simp only [World.size_alloc] at hwr
  clear hX hpl
  go_wp2_with fail
  with_reducible refine hwr.mono ?_
  rintro e Y ⟨rfl, HY⟩
  clear hwr HX HWR
  go_wp2
  go_ret2
  exact ⟨rfl, HY.out⟩

/-- All places' lists. -/
def LLf (P : List Plc) (N : List Pl) (C : List ByteArray) : List (List Pl) := P.map (fun p => fl p N C N.length)
theorem Shv.ll {lb B : Nat} {P : List Plc} {N : List Pl} {C : List ByteArray} {sl : Nat → Option Addr × Nat} {w : World} (h : Shv lb B P.length (flR P N C N.length) sl w) : LlAt w (some ⟨lb, 0, none⟩) (LLf P N C) := by
  intro i L hL
  unfold LLf at hL
  rw [List.getElem?_map] at hL
  obtain ⟨p, hp, rfl⟩ := Option.map_eq_some_iff.1 hL
  have hi := (List.getElem?_eq_some_iff.1 hp).1
  have e : flR P N C N.length i = fl p N C N.length := by unfold flR; rw [hp]
  have ho := h.own i hi
  rw [e] at ho
  refine ⟨lb, 0, (sl i).1, (sl i).2, rfl, h.cells.lt, ?_, (row_cell ho).1, row_pls ho⟩
  rw [Nat.zero_add, h.cells.cell, slA_at hi, e]

set_option maxRecDepth 100000 in
set_option maxHeartbeats 8000000 in
theorem lists_run {n : Nat} (w : World) {nm : ByteArray} {dr : Bool} {ka : Option Addr} {kl kc : Nat} {t : TP n} (h : TwAt w w.heap.size n #[.string nm, .bool dr, .slice ka kl kc] t) {ad : Addr} {lc : Nat} {N : List Pl} (hN : PlsAt w w.heap.size (some ad) N) (hc : N.length ≤ lc) (hv : ∀ x ∈ N, Lvl x.s) (q : Bool) (hq : q = true ↔ (sps N).Pairwise Ok) (hk : chkT n t = 0) (hy : wrE [N] q = 0)
    {cb gb pb nb clb lb0 : Nat} {C : List ByteArray} {pan : Int} {na : Option Addr} {nc : Nat} {ca : Option Addr} {cc : Nat} (hE : NmI w.heap.size cb gb lb0 pb nb clb N C pan na nc ca cc 0 w) (hC : C.length = N.length) (Q : Ending → World → Prop)
    (hq1 : ∀ (k : Nat) w', (k : Int) + 1 = pan → k < N.length → IsCells w' cb #[.int .i64 ((k : Int) + 1)] → IsCells w' gb #[.bool true] → Tn (fun b => b = cb ∨ b = gb) w w' → Q (.returned (.tuple #[.slice none 0 0, .int .i64 9])) w')
    (hq2 : ∀ a c w', (∀ k : Nat, k < N.length → (k : Int) + 1 ≠ pan) → LlAt w' a (LLf (plA n t) N C) → IsCells w' cb #[.int .i64 (N.length : Int)] → IsCells w' gb #[.bool true] → Tn (fun b => b = cb ∨ b = gb) w w' → Q (.returned (.tuple #[.slice a (plA n t).length c, .int .i64 0])) w') :
    Calls Try.prog 6 #[.agg #[.string nm, .bool dr, .slice ka kl kc], .slice (some ad) N.length lc, .func (.func 8) #[] #[.pointer (some ⟨cb, 0, none⟩), .pointer (some ⟨pb, 0, none⟩), .pointer (some ⟨gb, 0, none⟩), .pointer (some ⟨nb, 0, none⟩), .pointer (some ⟨clb, 0, none⟩)]] w Q := by
  obtain ⟨ptrs, hptr⟩ : ∃ ptrs : Array Value, #[.pointer (some ⟨cb, 0, none⟩), .pointer (some ⟨pb, 0, none⟩), .pointer (some ⟨gb, 0, none⟩), .pointer (some ⟨nb, 0, none⟩), .pointer (some ⟨clb, 0, none⟩)] = ptrs := ⟨_, rfl⟩
  have hN4 : N.length ≤ 4096 := by
    have h0 : wrA [N] = 0 := by
      unfold wrE at hy
      by_cases h1 : wrA [N] = 0
      · exact h1
      · rw [if_neg h1] at hy
        exact hy
    exact (wrA_ok h0 N (by simp)).1
  have hPl : (plA n t).length ≤ 16 := by
    unfold plA
    rw [if_pos hk, plT_len]
    unfold chkT at hk
    by_cases h1 : 16 < szT n t
    · rw [if_pos h1] at hk
      cases hk
    · omega
  rw [hptr]
  obtain ⟨W, hW⟩ : ∃ W, (w.alloc (.cells #[.string nm, .bool dr, .slice ka kl kc] 24)).alloc (.cells #[.func (.func 8) #[] ptrs] 39) = W := ⟨_, rfl⟩
  have hb : Below w.heap.size w W := by rw [← hW]; exact ((Below.refl _ _).alloc (Nat.le_refl _) _).alloc (by simp) _
  have i1 : IsCells W (w.heap.size + 1) #[.func (.func 8) #[] ptrs] := by
    have := isCells_new (w.alloc (.cells #[.string nm, .bool dr, .slice ka kl kc] 24)) #[.func (.func 8) #[] ptrs] 39
    rw [hW] at this
    simpa using this
  have hpl := places_any W ((h.below hb (Nat.le_refl _)).mono hb.size)
  have hnf : ∀ w, (binOp .eql 39 (.func (.func 8) #[] ptrs) .nilFunc).run Try.prog w = .ok (.bool false) w := fun _ => by kernel_rfl
  have HW : Hid ((w.alloc (.cells #[.string nm, .bool dr, .slice ka kl kc] 24)).alloc (.cells #[.func (.func 8) #[] ptrs] 39) = W) := hW
  have HB : Hid (Below w.heap.size w W ∧ IsCells W (w.heap.size + 1) #[.func (.func 8) #[] ptrs]) := ⟨hb, i1⟩
  have HWR : Hid (∀ X, Below w.heap.size w X → Calls Try.prog 22 #[.slice (some ⟨X.heap.size, 0, none⟩) 1 1] (X.alloc (.cells #[.slice (some ad) N.length lc] 25)) fun e Y => e = .returned (.int .i64 0) ∧ Hid (Below X.heap.size X Y)) := fun X hX => by
    refine (wrong_any _ (ca := 1) (ll_one (hN.bel hX) hc) (by simp) (fun L hL => by simp at hL; subst hL; exact hv) q (by simpa using hq)).mono ?_
    rintro e Y ⟨he, hY⟩
    exact ⟨by rw [hy] at he; exact he, ((Below.refl _ _).alloc (Nat.le_refl _) _).trans (hY.mono (by simp))⟩
  have HCL : Hid (∀ X, Below w.heap.size w X → Calls Try.prog 23 #[.slice (some ad) N.length lc] X fun e Y => ∃ va vc, e = .returned (.slice va N.length vc) ∧ Hid (Y.ownsRow X.heap.size 38 4 (.slice va N.length vc) N.length (plCells N) ∧ Below X.heap.size X Y)) := fun X hX => by
    refine (clone_any X (c := lc) (hN.bel hX) hN4).mono ?_
    rintro e Y ⟨va, vc, he, h1, h2⟩
    exact ⟨va, vc, he, h1, h2⟩
  have HEn : Hid (NmI w.heap.size cb gb lb0 pb nb clb N C pan na nc ca cc 0 w) := hE
  have HQ1 : Hid _ := hq1
  have HQ2 : Hid _ := hq2
  rw [hk] at hpl
  clear h hb hW i1 hN hv hq hy hq1 hq2
  generalize plA n t = P at hpl hPl HQ2
  go_enter Try.func6, Try.ntmps6
  go_wp2_with fail
  rw [HW.out]
  with_reducible refine hpl.mono ?_
  rintro e X1 ⟨pa, pc, rfl, hop, hX⟩
  have HX1 : Hid (Below w.heap.size w X1 ∧ X1.ownsRow W.heap.size 87 3 (.slice pa P.length pc) P.length (plcC P)) := ⟨HB.out.1.trans (hX.mono HB.out.1.size), hop⟩
  have HF1 : Hid (IsCells X1 (w.heap.size + 1) #[.func (.func 8) #[] ptrs]) := HB.out.2.of_block (hX.block _ HB.out.2.lt)
  have f0 : X1.cell? ⟨w.heap.size + 1, 0, none⟩ = some (.func (.func 8) #[] ptrs) := HF1.out.cell 0
  have fl : w.heap.size + 1 < X1.heap.size := HF1.out.lt
  have hwr := HWR.out (X1.alloc (.cells #[.slice pa P.length pc] 61)) (HX1.out.1.alloc HX1.out.1.size _)
  simp only [World.size_alloc] at hwr
  clear hX hop hpl
  go_wp2_with fail
  with_reducible refine hwr.mono ?_
  rintro e X2 ⟨rfl, hX2⟩
  have hS1 : X1.heap.size + 1 ≤ X2.heap.size := by have := hX2.size; simpa using this
  have iP : IsCells X2 X1.heap.size #[.slice pa P.length pc] := (isCells_new X1 _ 61).of_block (hX2.block _ (by simp))
  have hP0 : X2.cell? ⟨X1.heap.size, 0, none⟩ = some (.slice pa P.length pc) := iP.cell 0
  have HX2 : Hid (Below X1.heap.size X1 X2 ∧ IsCells X2 X1.heap.size #[.slice pa P.length pc]) := ⟨((Below.refl _ _).alloc (Nat.le_refl _) _).trans (hX2.mono (by simp)), iP⟩
  have hmk := make_sl X2 P.length (by omega)
  obtain ⟨X3, hX3⟩ : ∃ X3, (X2.alloc (.cells (slA P.length (fun _ => []) (fun _ => (none, 0))) 25)).alloc (.cells #[.slice (some ⟨X2.heap.size, 0, none⟩) P.length P.length] 27) = X3 := ⟨_, rfl⟩
  have b3 : Below X2.heap.size X2 X3 := by rw [← hX3]; exact ((Below.refl _ _).alloc (Nat.le_refl _) _).alloc (by simp) _
  have i3 : IsCells X3 X2.heap.size (slA P.length (fun _ => []) (fun _ => (none, 0))) := by rw [← hX3]; exact (isCells_new X2 _ 25).alloc _
  have j3 : IsCells X3 (X2.heap.size + 1) #[.slice (some ⟨X2.heap.size, 0, none⟩) P.length P.length] := by
    have := isCells_new (X2.alloc (.cells (slA P.length (fun _ => []) (fun _ => (none, 0))) 25)) #[.slice (some ⟨X2.heap.size, 0, none⟩) P.length P.length] 27
    rw [hX3] at this
    simpa using this
  have HX3 : Hid ((X2.alloc (.cells (slA P.length (fun _ => []) (fun _ => (none, 0))) 25)).alloc (.cells #[.slice (some ⟨X2.heap.size, 0, none⟩) P.length P.length] 27) = X3) := hX3
  have HI3 : Hid (Below X2.heap.size X2 X3 ∧ IsCells X3 X2.heap.size (slA P.length (fun _ => []) (fun _ => (none, 0))) ∧ IsCells X3 (X2.heap.size + 1) #[.slice (some ⟨X2.heap.size, 0, none⟩) P.length P.length]) := ⟨b3, i3, j3⟩
  have bw2 : Below w.heap.size w X2 := HX1.out.1.trans (HX2.out.1.mono HX1.out.1.size)
  have hcl := HCL.out X3 (bw2.trans (b3.mono bw2.size))
  clear hwr HWR iP hX2 b3 i3 j3 hX3 bw2 f0 fl
  go_wp2_with fail
  rw [HX3.out]
  with_reducible refine hcl.mono ?_
  rintro e X4 ⟨aa, ac, rfl, H4⟩
  obtain ⟨X5, hX5⟩ : ∃ X5, X4.alloc (.cells #[.slice aa N.length ac] 25) = X5 := ⟨_, rfl⟩
  have HX5 : Hid (X4.alloc (.cells #[.slice aa N.length ac] 25) = X5) := hX5
  have HST : Hid (Below w.heap.size w X5 ∧ LsS X5.heap.size cb gb X2.heap.size pb nb clb N C pan na nc ca cc X4.heap.size (X2.heap.size + 1) X1.heap.size (w.heap.size + 1) P.length aa ac pa pc P ptrs 0 X5 ∧ w.heap.size ≤ X2.heap.size ∧ X2.heap.size < X5.heap.size) := by
    have bw1 := HX1.out.1
    have bw2 : Below w.heap.size w X2 := bw1.trans (HX2.out.1.mono bw1.size)
    have bw3 : Below w.heap.size w X3 := bw2.trans (HI3.out.1.mono bw2.size)
    have bw4 : Below w.heap.size w X4 := bw3.trans (H4.out.2.mono bw3.size)
    have bw5 : Below w.heap.size w X5 := by rw [← hX5]; exact bw4.alloc bw4.size _
    have s1 := bw1.size
    have s2 := HX2.out.1.size
    have s3 : X2.heap.size + 2 ≤ X3.heap.size := HI3.out.2.2.lt
    have s4 := H4.out.2.size
    have s5 : X5.heap.size = X4.heap.size + 1 := by rw [← hX5]; simp
    have sP := HX2.out.2.lt
    have sF := HF1.out.lt
    have t45 : Tn (fun _ => False) X4 X5 := by rw [← hX5]; exact (Tn.refl _ _).alloc _
    have t34 : Below X3.heap.size X3 X4 := H4.out.2
    have up4 : ∀ {b : Nat} {cs : Array Value}, b < X3.heap.size → IsCells X3 b cs → IsCells X5 b cs := fun hb h => (h.of_block (t34.block _ hb)).tn t45 id
    have up2 : ∀ {b : Nat} {cs : Array Value}, b < X2.heap.size → IsCells X2 b cs → IsCells X5 b cs := fun hb h => up4 (by omega) (h.of_block (HI3.out.1.block _ hb))
    have hne := HEn.out.e.ne
    have tw5 : Tn (fun _ => False) w X5 := Tn.of_below bw5 (Nat.le_refl _)
    refine ⟨bw5, ⟨⟨(HEn.out.e.tn tw5 (fun _ h => h.elim)).up bw5.size (Nat.le_refl _) (by omega), HEn.out.c.tn tw5 id, HEn.out.g.tn tw5 id⟩, ⟨Nat.le_refl _, ?_, ?_, ?_, ?_, ?_, ?_⟩, ?_, ?_⟩, by omega, by omega⟩
    · refine ⟨by rw [← hX5]; exact isCells_new _ _ _, ?_⟩
      unfold Gd
      omega
    · refine ⟨up4 (by omega) HI3.out.2.2, ?_⟩
      unfold Gd
      omega
    · refine ⟨up2 sP HX2.out.2, ?_⟩
      unfold Gd
      omega
    · refine ⟨up2 (by omega) (HF1.out.of_block (HX2.out.1.block _ sF)), ?_⟩
      unfold Gd
      omega
    · intro i x hx
      obtain ⟨r1, r2, r3, r4⟩ := plCells_get N i x hx
      obtain ⟨-, -, hcell⟩ := row_cell H4.out.1
      obtain ⟨g, rfl, hb, hlt, c1⟩ := hcell _ _ r1
      obtain ⟨g', e', _, _, c2⟩ := hcell _ _ r2
      cases e'
      obtain ⟨g', e', _, _, c3⟩ := hcell _ _ r3
      cases e'
      obtain ⟨g', e', _, _, c4⟩ := hcell _ _ r4
      cases e'
      have kk : ∀ o', X5.cell? ⟨g, o', none⟩ = X4.cell? ⟨g, o', none⟩ := fun o' => t45.cell hlt id
      refine ⟨g, 0, rfl, ?_, ?_, ?_, ?_, ?_⟩
      · unfold Gd
        omega
      · rw [kk]; simpa using c1
      · rw [kk]; simpa using c2
      · rw [kk]; simpa using c3
      · rw [kk]; simpa using c4
    · have hpc := row_plc HX1.out.2
      have bX : Below X1.heap.size X1 X5 := by
        have t := (HX2.out.1.trans (HI3.out.1.mono s2)).trans (t34.mono (by omega))
        rw [← hX5]
        exact t.alloc (by omega) _
      refine ⟨hpc.bel bX, fun g hg => ?_⟩
      have := own_block_lt HX1.out.2 g (by rw [hg]; rfl)
      have sW := HB.out.1.size
      unfold Gd
      omega
    · rw [flR_zero]
      refine ⟨fun _ => (none, 0), by omega, Nat.le_refl _, up4 (by omega) HI3.out.2.1, fun i hi => own_none _ _ _ _, fun i j b _ _ _ hb => by cases hb⟩
    · omega
  subst hptr
  have em : ∀ args w, (callFunc 25 args).run Try.prog w = .ok (.enter 25 args) w := enters_of Try.func25 (by kernel_rfl) rfl
  have hfn : ∀ (fn : Fn) (first cap : Array Value) (w : World), (Instr.makeFunc fn first cap).run Try.prog w = .ok (.func fn first cap) w := fun _ _ _ _ => rfl
  have HTW : Hid (∀ w', Tn (fun b => b = cb ∨ b = gb ∨ b = X2.heap.size) X5 w' → Tn (fun b => b = cb ∨ b = gb) w w') := fun w' h => (Tn.of_below (A := fun b => b = cb ∨ b = gb) HST.out.1 (Nat.le_refl _)).trans h (fun i hi h => by
    have := HST.out.2.2.1
    rcases h with h | h | h
    · exact .inl h
    · exact .inr h
    · omega)
  by_cases hpan : ∃ k : Nat, k < N.length ∧ (k : Int) + 1 = pan
  · obtain ⟨k, hk1, hk2⟩ := hpan
    have hls := ls1_any X5 (Nat.le_refl _) hPl hN4 hC HST.out.2.1 (fun e Y => (∃ v, e = .panicked [{ v := v, recovered := false }]) ∧ NmI X5.heap.size cb gb X2.heap.size pb nb clb N C pan na nc ca cc (k + 1) Y ∧ Tn (fun b => b = cb ∨ b = gb ∨ b = X2.heap.size) X5 Y)
      (fun k' v w' e1 e2 e3 e4 => by
        have : k' = k := by omega
        subst this
        exact ⟨⟨v, rfl⟩, e3, e4⟩) (fun v w' e1 e2 e3 => absurd hk2 (e1 k hk1))
    have hrun := runs_caught X5 25 _ _ em hls
    have HE1 : Hid (∀ Y, NmI X5.heap.size cb gb X2.heap.size pb nb clb N C pan na nc ca cc (k + 1) Y ∧ Tn (fun b => b = cb ∨ b = gb ∨ b = X2.heap.size) X5 Y → Q (.returned (.tuple #[.slice none 0 0, .int .i64 9])) Y) := fun Y h => HQ1.out k Y hk2 hk1 (by have := h.1.c; rwa [show ((k + 1 : Nat) : Int) = (k : Int) + 1 by omega] at this) h.1.g (HTW.out Y h.2)
    clear HQ1 HQ2 HST HTW hls hX5 H4 hcl HCL
    go_wp2_with fail
    rw [HX5.out]
    refine hrun.mono ?_
    rintro e Y ⟨rfl, hY⟩
    have HY := HE1.out Y hY
    clear hY hrun HE1
    go_wp2
    exact HY
  · have hls := ls1_any X5 (Nat.le_refl _) hPl hN4 hC HST.out.2.1 (fun e Y => (∃ v, e = .returned v) ∧ LsS X5.heap.size cb gb X2.heap.size pb nb clb N C pan na nc ca cc X4.heap.size (X2.heap.size + 1) X1.heap.size (w.heap.size + 1) P.length aa ac pa pc P #[.pointer (some ⟨cb, 0, none⟩), .pointer (some ⟨pb, 0, none⟩), .pointer (some ⟨gb, 0, none⟩), .pointer (some ⟨nb, 0, none⟩), .pointer (some ⟨clb, 0, none⟩)] N.length Y ∧ Tn (fun b => b = cb ∨ b = gb ∨ b = X2.heap.size) X5 Y)
      (fun k' v w' e1 e2 e3 e4 => absurd ⟨k', e2, e1⟩ hpan) (fun v w' e1 e2 e3 => ⟨⟨v, rfl⟩, e2, e3⟩)
    have hrun := runs_any X5 25 _ _ em hls
    have HE1 : Hid (∀ Y, LsS X5.heap.size cb gb X2.heap.size pb nb clb N C pan na nc ca cc X4.heap.size (X2.heap.size + 1) X1.heap.size (w.heap.size + 1) P.length aa ac pa pc P #[.pointer (some ⟨cb, 0, none⟩), .pointer (some ⟨pb, 0, none⟩), .pointer (some ⟨gb, 0, none⟩), .pointer (some ⟨nb, 0, none⟩), .pointer (some ⟨clb, 0, none⟩)] N.length Y ∧ Tn (fun b => b = cb ∨ b = gb ∨ b = X2.heap.size) X5 Y → Q (.returned (.tuple #[.slice (some ⟨X2.heap.size, 0, none⟩) P.length P.length, .int .i64 0])) Y) := fun Y h => by
      obtain ⟨sl, hs⟩ := h.1.s
      exact HQ2.out _ _ Y (fun k hk e => hpan ⟨k, hk, e⟩) hs.ll h.1.m.c h.1.m.g (HTW.out Y h.2)
    clear HQ1 HQ2 HST HTW hls hX5 H4 hcl HCL
    go_wp2_with fail
    rw [HX5.out]
    refine hrun.mono ?_
    rintro e Y ⟨rfl, hY⟩
    have HY := HE1.out Y hY
    have y0 : Y.cell? ⟨X2.heap.size + 1, 0, none⟩ = some (.slice (some ⟨X2.heap.size, 0, none⟩) P.length P.length) := hY.1.e.l.1.cell 0
    have yl := hY.1.e.l.1.lt
    clear hY hrun HE1
    go_wp2
    exact HY

end Go.Proofs.Ytmeinebfdljndaa
