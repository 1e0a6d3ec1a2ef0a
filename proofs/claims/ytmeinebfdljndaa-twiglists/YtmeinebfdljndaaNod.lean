/- A pattern's nodes in their order, put behind others: the document's nodes. -/
import Derived.Test.YtmeinebfdljndaaPla
namespace Go.Proofs.Ytmeinebfdljndaa
open Go.RowKit
set_option linter.unusedVariables false

def ndC : List Plc → List Value
  | [] => []
  | p :: r => .int .i64 p.up :: .bool p.dr :: .string p.nm :: ndC r
theorem ndC_append : ∀ l m, ndC (l ++ m) = ndC l ++ ndC m
  | [], m => rfl
  | x :: r, m => by simp [ndC, ndC_append r m]
theorem ndC_length : ∀ l, (ndC l).length = l.length * 3
  | [] => rfl
  | x :: r => by simp [ndC, ndC_length r]; omega
theorem info73 : InfoOf Try.prog 73 (.agg #[.int .i64 0, .bool false, .string ⟨#[]⟩]) 3 32 := by unfold InfoOf; kernel_rfl
theorem nd_one (nm : ByteArray) (up : Int) (dr : Bool) : ∀ u ∈ [Value.int .i64 up, .bool dr, .string nm], u.oneCell' = true := by
  intro u hu
  simp only [List.mem_cons, List.not_mem_nil, or_false] at hu
  rcases hu with rfl | rfl | rfl <;> rfl

/-- What is put behind: the row, as it is then. -/
def NdR (base : Nat) (v : Value) (M : List Plc) (w : World) (a' : Option Addr) (c' : Nat) (w' : World) : Prop := w'.ownsRow base 73 3 (.slice a' M.length c') M.length (ndC M) ∧ RwT v (.slice a' M.length c') w w'
def NodP (n : Nat) : Prop := ∀ (w : World) (v : Array Value) (t : TP n) (up : Int) (B base : Nat) (a : Option Addr) (c : Nat) (L : List Plc), TwAt w B n v t → B ≤ base → base ≤ w.heap.size →
  w.ownsRow base 73 3 (.slice a L.length c) L.length (ndC L) → L.length + szT n t ≤ 64 →
  Calls Try.prog 47 #[.agg v, .int .i64 up, .slice a L.length c] w fun e w' => ∃ a' c', e = .returned (.slice a' (L ++ plT n t up L.length).length c') ∧ NdR base (.slice a L.length c) (L ++ plT n t up L.length) w a' c' w'

set_option maxRecDepth 100000 in
set_option maxHeartbeats 4000000 in
theorem nod_step {n : Nat} (ih : NodP n) (w : World) (nm : ByteArray) (dr : Bool) (ks : List (TP n)) (ka : Option Addr) (kc : Nat) (hk1 : ks.length ≤ maxT) (up : Int) (B base : Nat) (a : Option Addr) (c : Nat) (L : List Plc) (hkd : KdAt w B n ka ks) (hB : B ≤ base) (hbw : base ≤ w.heap.size)
    (hown : w.ownsRow base 73 3 (.slice a L.length c) L.length (ndC L)) (hsz : L.length + (1 + sumL (szT n) ks) ≤ 64) (R : List Plc) (hR : L ++ (⟨nm, up, dr⟩ :: plL (plT n) ks (L.length : Int) (L.length + 1)) = R) :
    Calls Try.prog 47 #[.agg #[.string nm, .bool dr, .slice ka ks.length kc], .int .i64 up, .slice a L.length c] w fun e w' => ∃ a' c', e = .returned (.slice a' R.length c') ∧ NdR base (.slice a L.length c) R w a' c' w' := by
  obtain ⟨W1, hW1⟩ : ∃ W1, W1 = (w.alloc (.cells #[.string nm, .bool dr, .slice ka ks.length kc] 24)).alloc (.cells #[.int .i64 up, .bool dr, .string nm] 73) := ⟨_, rfl⟩
  have tn1 : Tn (fun _ => False) w W1 := by rw [hW1]; exact ((Tn.refl _ _).alloc _).alloc _
  have x0 : IsCells W1 w.heap.size #[.string nm, .bool dr, .slice ka ks.length kc] := by rw [hW1]; exact (isCells_new w _ 24).alloc _
  have own1 : W1.ownsRow base 73 3 (.slice a L.length c) L.length (ndC L) := own_tn hown tn1 (fun _ _ h => h)
  have nw1 : ∀ j u, [Value.int .i64 up, .bool dr, .string nm][j]? = some u → ∃ ad, some (⟨w.heap.size + 1, 0, none⟩ : Addr) = some ad ∧ W1.cell? (ad.add j) = some u := by
    have := news_new (w.alloc (.cells #[.string nm, .bool dr, .slice ka ks.length kc] 24)) #[.int .i64 up, .bool dr, .string nm] 73
    rw [← hW1] at this
    simpa using this
  have HOB : Hid (∀ k, (Value.slice a L.length c).ownBlock = some k → base ≤ k ∧ k < w.heap.size) := own_block_lt hown
  have HKD : Hid (KdAt w B n ka ks) := hkd
  have HW1 : Hid (W1 = (w.alloc (.cells #[.string nm, .bool dr, .slice ka ks.length kc] 24)).alloc (.cells #[.int .i64 up, .bool dr, .string nm] 73)) := hW1
  have HX0 : Hid (IsCells W1 w.heap.size #[.string nm, .bool dr, .slice ka ks.length kc]) := x0
  have HO1 : Hid (W1.ownsRow base 73 3 (.slice a L.length c) L.length (ndC L)) := own1
  have HNW : Hid (∀ j u, [Value.int .i64 up, .bool dr, .string nm][j]? = some u → ∃ ad, some (⟨w.heap.size + 1, 0, none⟩ : Addr) = some ad ∧ W1.cell? (ad.add j) = some u) := nw1
  have HTN : Hid (Tn (fun _ => False) w W1 ∧ W1.heap.size = w.heap.size + 2) := ⟨tn1, by rw [hW1]; simp⟩
  have HR : Hid (L ++ (⟨nm, up, dr⟩ :: plL (plT n) ks (L.length : Int) (L.length + 1)) = R) := hR
  have HZ : Hid (∀ i k, ks[i]? = some k → sumL (szT n) (ks.take i) + szT n k ≤ sumL (szT n) ks) := fun i k hk => by rw [← sumL_take _ hk]; exact sumL_le _ _ _
  clear hW1 tn1 x0 own1 nw1 hown hkd hR
  unfold maxT at hk1
  have tok1 : True := trivial
  go_enter Try.func47, Try.ntmps47
  go_wp2_with (at_builtin; have _t := tok1; refine wpList_app rfl _ _ rfl Try.underlying70 info73 rfl (by decide) base (.slice a L.length c) L.length (ndC L) rfl (HW1.out ▸ HO1.out) (some ⟨w.heap.size + 1, 0, none⟩) 1 1 [.int .i64 up, .bool dr, .string nm] rfl rfl (HW1.out ▸ HNW.out) (nd_one _ _ _) (by unfold maxLen; omega) (by omega) (by simp; omega) ?_; rw [← HW1.out]; intro v1 w1 hown1 hg1 _ hat1; clear tok1 _t; obtain ⟨a1, c1, hv1⟩ := own_slice hown1; subst hv1; have HO2 : Hid (w1.ownsRow base 73 3 (.slice a1 (L.length + 1) c1) (L.length + 1) (ndC L ++ [.int .i64 up, .bool dr, .string nm])) := hown1; have HRW : Hid (RwT (.slice a L.length c) (.slice a1 (L.length + 1) c1) w w1) := (RwT.of_grown hg1 hat1).pre HTN.out.1; have HX1 : Hid (IsCells w1 w.heap.size #[.string nm, .bool dr, .slice ka ks.length kc]) := HX0.out.of_block (hg1.block _ HX0.out.lt (fun e => by have := HOB.out _ e.symm; omega)); have y2 : w1.cell? ⟨w.heap.size, 2, none⟩ = some (.slice ka ks.length kc) := HX1.out.cell 2; have yl : w.heap.size < w1.heap.size := HX1.out.lt; have HNE : Hid ((Value.slice a1 (L.length + 1) c1).ownBlock ≠ some w.heap.size) := (fun e => hat1.elim (fun h => by have := HOB.out _ (h ▸ e); omega) (fun h => by rw [h] at e; simp only [Option.some.injEq] at e; have := HTN.out.2; omega)); clear hown1 hg1 hat1 HX0 HO1 HNW HTN HW1)
  go_loopw [2, 8] (fun u v wr => ∃ (i : Nat) (M : List Plc) (a' : Option Addr) (c' : Nat), i ≤ ks.length ∧ M.length ≤ 64 ∧ u = .slice a' M.length c' ∧ v = .int .i64 (i : Int) ∧ Hid (M = L ++ (⟨nm, up, dr⟩ :: plL (plT n) (ks.take i) (L.length : Int) (L.length + 1))) ∧ Hid (NdR base (.slice a L.length c) M w a' c' wr) ∧ Hid (IsCells wr w.heap.size #[.string nm, .bool dr, .slice ka ks.length kc] ∧ (Value.slice a' M.length c').ownBlock ≠ some w.heap.size)) (fun _ v _ => ks.length - (intOf v).toNat)
  case atStart => exact ⟨0, L ++ [⟨nm, up, dr⟩], a1, c1, by omega, by simp; omega, by simp, rfl, by show _ = _; simp [plL], by
    have h1 := HO2.out
    have h2 := HRW.out
    refine ⟨?_, ?_⟩
    · rw [ndC_append]
      simpa [ndC] using h1
    · simpa using h2, by
    refine ⟨HX1.out, ?_⟩
    have h3 := HNE.out
    simpa using h3⟩
  case round =>
    obtain ⟨i, M, a', c', hi, hM, rfl, rfl, HM, HS, HY⟩ := hrel
    clear HO2 HRW HX1 y2 yl HNE
    have y2 : wr.cell? ⟨w.heap.size, 2, none⟩ = some (.slice ka ks.length kc) := HY.out.1.cell 2
    have yl : w.heap.size < wr.heap.size := HY.out.1.lt
    have hOB := HOB.out
    have hbl : Below B w wr := HS.out.2.below (by omega) (fun k hk => by have := HOB.out k hk; omega)
    have HBL : Hid (Below B w wr) := hbl
    have hws : w.heap.size ≤ wr.heap.size := HS.out.2.1.size
    clear hOB hbl
    by_cases hlt : i < ks.length
    · obtain ⟨k, hk⟩ : ∃ k, ks[i]? = some k := ⟨_, List.getElem?_eq_getElem hlt⟩
      obtain ⟨b, o, nm', dr', ka', kl, kc', rfl, hb, d0, d1, d2, htw⟩ := HKD.out.at HBL.out hk
      have hbw2 : b < wr.heap.size := by omega
      have hlt9 : (i : Int) < (ks.length : Int) := by omega
      have hlen : M.length + szT n k ≤ 64 := by
        have h1 := HZ.out i k hk
        have h2 := congrArg List.length HM.out
        rw [List.length_append, List.length_cons, plL_len (plT n) (szT n) (fun k me p => plT_len n k me p)] at h2
        omega
      have hcl := ih wr _ k (L.length : Int) B base a' c' M (htw _ HBL.out) hB (by omega) HS.out.1 hlen
      obtain ⟨M2, hM2⟩ : ∃ M2, M ++ plT n k (L.length : Int) M.length = M2 := ⟨_, rfl⟩
      rw [hM2] at hcl
      have HN : Hid (M2 = L ++ (⟨nm, up, dr⟩ :: plL (plT n) (ks.take (i + 1)) (L.length : Int) (L.length + 1))) := by
        show _ = _
        rw [← hM2, take_snoc hk, plL_snoc]
        have h2 := congrArg List.length HM.out
        rw [List.length_append, List.length_cons] at h2
        rw [show L.length + 1 + (plL (plT n) (ks.take i) (L.length : Int) (L.length + 1)).length = M.length by omega]
        generalize plT n k (L.length : Int) M.length = Q
        rw [HM.out, List.append_assoc, List.cons_append]
      have hM3 : M2.length ≤ 64 := by rw [← hM2, List.length_append, plT_len]; omega
      have HC : Hid (∀ a2 c2 Y, NdR base (.slice a' M.length c') M2 wr a2 c2 Y → NdR base (.slice a L.length c) M2 w a2 c2 Y) := fun a2 c2 Y h => ⟨h.1, HS.out.2.trans h.2⟩
      clear hM2 hlen htw hk HM HS
      go_wp2_with fail
      with_reducible refine hcl.mono ?_
      rintro e X ⟨a2, c2, rfl, hX⟩
      have HX : Hid (NdR base (.slice a L.length c) M2 w a2 c2 X) := HC.out a2 c2 X hX
      have HY2 : Hid (IsCells X w.heap.size #[.string nm, .bool dr, .slice (some ⟨b, o, none⟩) ks.length kc] ∧ (Value.slice a2 M2.length c2).ownBlock ≠ some w.heap.size) := ⟨HY.out.1.tn hX.2.1 HY.out.2, fun e => (hX.2.2 _ e).elim HY.out.2 (fun h => by omega)⟩
      clear hX hcl HC
      go_wp2
      go_roundw
      case rel => exact ⟨i + 1, M2, a2, c2, by omega, hM3, rfl, by go_num, HN, HX, HY2⟩
      case measure => simp [intOf]; omega
    · have hfin : M = R := by
        have h1 := HM.out
        rw [List.take_of_length_le (by omega), HR.out] at h1
        exact h1
      subst hfin
      go_wp2
      go_ret
      exact ⟨a', c', rfl, HS.out⟩
theorem nod_any : ∀ n, NodP n
  | 0 => fun w v t up B base a c L h => h.elim
  | n + 1 => by
    intro w v t up B base a c L h hB hbw hown hsz
    obtain ⟨ka, kc, rfl, hk1, hk2, hkd⟩ := h
    exact nod_step (nod_any n) w t.nm t.dr t.ks ka kc hk1 up B base a c L hkd hB hbw hown hsz _ rfl

end Go.Proofs.Ytmeinebfdljndaa
