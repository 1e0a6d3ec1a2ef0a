/- A pattern's nodes in their order, put behind others: the program's places. -/
import Derived.Test.YtmeinebfdljndaaSz
namespace Go.Proofs.Ytmeinebfdljndaa
open Go.RowKit
set_option linter.unusedVariables false

/-- What is put behind a row leaves: only the row's own block is turned, and new ones; the new row lies in that block or in a new one. -/
def RwT (v v' : Value) (w w' : World) : Prop := Tn (fun b => v.ownBlock = some b) w w' ∧ ∀ b, v'.ownBlock = some b → v.ownBlock = some b ∨ w.heap.size ≤ b
theorem RwT.trans {v v' v'' : Value} {a b c : World} (h : RwT v v' a b) (k : RwT v' v'' b c) : RwT v v'' a c :=
  ⟨h.1.trans k.1 (fun i hi hv => (h.2 i hv).elim id (fun h => by omega)), fun i hv => (k.2 i hv).elim (h.2 i) (fun h1 => .inr (Nat.le_trans h.1.size h1))⟩
theorem RwT.pre {v v' : Value} {a b c : World} (h : Tn (fun _ => False) a b) (k : RwT v v' b c) : RwT v v' a c :=
  ⟨(h.mono (fun _ _ h => h.elim)).trans k.1 (fun i hi hv => hv), fun i hv => (k.2 i hv).imp id (fun h1 => Nat.le_trans h.size h1)⟩
theorem RwT.of_grown {v v' : Value} {a b : World} (hg : a.grownBy b v.ownBlock) (hat : v'.ownBlock = v.ownBlock ∨ v'.ownBlock = some a.heap.size) : RwT v v' a b :=
  ⟨⟨hg.os, hg.tape, hg.output, hg.size, fun k hk ha => hg.block k hk (fun e => ha e.symm)⟩, fun i hv => by
    rcases hat with h | h
    · exact .inl (h ▸ hv)
    · rw [h] at hv
      simp only [Option.some.injEq] at hv
      exact .inr (by omega)⟩
theorem RwT.refl (v : Value) (w : World) : RwT v v w w := ⟨Tn.refl _ _, fun _ h => .inl h⟩
theorem RwT.below {v v' : Value} {a b : World} (h : RwT v v' a b) {B : Nat} (hB : B ≤ a.heap.size) (hv : ∀ k, v.ownBlock = some k → B ≤ k) : Below B a b := h.1.below hB hv

theorem KdAt.at {w : World} {B n : Nat} {ka : Option Addr} {ks : List (TP n)} (hkd : KdAt w B n ka ks) {X : World} (hX : Below B w X) {i : Nat} {k : TP n} (hk : ks[i]? = some k) :
    ∃ b o nm dr ka' kl kc, ka = some ⟨b, o, none⟩ ∧ b < B ∧ X.cell? ⟨b, o + i * 3, none⟩ = some (.string nm) ∧ X.cell? ⟨b, o + i * 3 + 1, none⟩ = some (.bool dr) ∧ X.cell? ⟨b, o + i * 3 + 2, none⟩ = some (.slice ka' kl kc) ∧ ∀ Y, Below B w Y → TwAt Y B n #[.string nm, .bool dr, .slice ka' kl kc] k := by
  obtain ⟨b, o, nm, dr, ka', kl, kc', h1, h2, h3, h4, h5, h6⟩ := KdAt.get hkd hk
  exact ⟨b, o, nm, dr, ka', kl, kc', h1, h2, (hX.cell (p := ⟨b, o + i * 3, none⟩) h2).trans h3, (hX.cell (p := ⟨b, o + i * 3 + 1, none⟩) h2).trans h4, (hX.cell (p := ⟨b, o + i * 3 + 2, none⟩) h2).trans h5, fun Y hY => h6.below hY (Nat.le_refl _)⟩

def plcC : List Plc → List Value
  | [] => []
  | p :: r => .string p.nm :: .int .i64 p.up :: .bool p.dr :: plcC r
theorem plcC_append : ∀ l m, plcC (l ++ m) = plcC l ++ plcC m
  | [], m => rfl
  | x :: r, m => by simp [plcC, plcC_append r m]
theorem plcC_length : ∀ l, (plcC l).length = l.length * 3
  | [] => rfl
  | x :: r => by simp [plcC, plcC_length r]; omega
theorem info87 : InfoOf Try.prog 87 (.agg #[.string ⟨#[]⟩, .int .i64 0, .bool false]) 3 32 := by unfold InfoOf; kernel_rfl
theorem news_new (w : World) (cs : Array Value) (T : TypeId) : ∀ j u, cs.toList[j]? = some u → ∃ ad, some (⟨w.heap.size, 0, none⟩ : Addr) = some ad ∧ (w.alloc (.cells cs T)).cell? (ad.add j) = some u := by
  intro j u hu
  refine ⟨_, rfl, ?_⟩
  have e : (⟨w.heap.size, 0, none⟩ : Addr).add j = ⟨w.heap.size, j, none⟩ := by unfold Addr.add; split <;> simp_all
  rw [e, (isCells_new w cs T).cell]
  simpa using hu
theorem plc_one (nm : ByteArray) (up : Int) (dr : Bool) : ∀ u ∈ [Value.string nm, .int .i64 up, .bool dr], u.oneCell' = true := by
  intro u hu
  simp only [List.mem_cons, List.not_mem_nil, or_false] at hu
  rcases hu with rfl | rfl | rfl <;> rfl

/-- What is put behind: the row, as it is then. -/
def PlR (base : Nat) (v : Value) (M : List Plc) (w : World) (a' : Option Addr) (c' : Nat) (w' : World) : Prop := w'.ownsRow base 87 3 (.slice a' M.length c') M.length (plcC M) ∧ RwT v (.slice a' M.length c') w w'
def AppP (n : Nat) : Prop := ∀ (w : World) (v : Array Value) (t : TP n) (up : Int) (B base : Nat) (a : Option Addr) (c : Nat) (L : List Plc), TwAt w B n v t → B ≤ base → base ≤ w.heap.size →
  w.ownsRow base 87 3 (.slice a L.length c) L.length (plcC L) → L.length + szT n t ≤ 64 →
  Calls Try.prog 38 #[.slice a L.length c, .agg v, .int .i64 up] w fun e w' => ∃ a' c', e = .returned (.slice a' (L ++ plT n t up L.length).length c') ∧ PlR base (.slice a L.length c) (L ++ plT n t up L.length) w a' c' w'

set_option maxRecDepth 100000 in
set_option maxHeartbeats 4000000 in
theorem app_step {n : Nat} (ih : AppP n) (w : World) (nm : ByteArray) (dr : Bool) (ks : List (TP n)) (ka : Option Addr) (kc : Nat) (hk1 : ks.length ≤ maxT) (up : Int) (B base : Nat) (a : Option Addr) (c : Nat) (L : List Plc) (hkd : KdAt w B n ka ks) (hB : B ≤ base) (hbw : base ≤ w.heap.size)
    (hown : w.ownsRow base 87 3 (.slice a L.length c) L.length (plcC L)) (hsz : L.length + (1 + sumL (szT n) ks) ≤ 64) (R : List Plc) (hR : L ++ (⟨nm, up, dr⟩ :: plL (plT n) ks (L.length : Int) (L.length + 1)) = R) :
    Calls Try.prog 38 #[.slice a L.length c, .agg #[.string nm, .bool dr, .slice ka ks.length kc], .int .i64 up] w fun e w' => ∃ a' c', e = .returned (.slice a' R.length c') ∧ PlR base (.slice a L.length c) R w a' c' w' := by
  obtain ⟨W1, hW1⟩ : ∃ W1, W1 = (w.alloc (.cells #[.string nm, .bool dr, .slice ka ks.length kc] 24)).alloc (.cells #[.string nm, .int .i64 up, .bool dr] 87) := ⟨_, rfl⟩
  have tn1 : Tn (fun _ => False) w W1 := by rw [hW1]; exact ((Tn.refl _ _).alloc _).alloc _
  have x0 : IsCells W1 w.heap.size #[.string nm, .bool dr, .slice ka ks.length kc] := by rw [hW1]; exact (isCells_new w _ 24).alloc _
  have own1 : W1.ownsRow base 87 3 (.slice a L.length c) L.length (plcC L) := own_tn hown tn1 (fun _ _ h => h)
  have nw1 : ∀ j u, [Value.string nm, .int .i64 up, .bool dr][j]? = some u → ∃ ad, some (⟨w.heap.size + 1, 0, none⟩ : Addr) = some ad ∧ W1.cell? (ad.add j) = some u := by
    have := news_new (w.alloc (.cells #[.string nm, .bool dr, .slice ka ks.length kc] 24)) #[.string nm, .int .i64 up, .bool dr] 87
    rw [← hW1] at this
    simpa using this
  have HOB : Hid (∀ k, (Value.slice a L.length c).ownBlock = some k → base ≤ k ∧ k < w.heap.size) := own_block_lt hown
  have HKD : Hid (KdAt w B n ka ks) := hkd
  have HW1 : Hid (W1 = (w.alloc (.cells #[.string nm, .bool dr, .slice ka ks.length kc] 24)).alloc (.cells #[.string nm, .int .i64 up, .bool dr] 87)) := hW1
  have HX0 : Hid (IsCells W1 w.heap.size #[.string nm, .bool dr, .slice ka ks.length kc]) := x0
  have HO1 : Hid (W1.ownsRow base 87 3 (.slice a L.length c) L.length (plcC L)) := own1
  have HNW : Hid (∀ j u, [Value.string nm, .int .i64 up, .bool dr][j]? = some u → ∃ ad, some (⟨w.heap.size + 1, 0, none⟩ : Addr) = some ad ∧ W1.cell? (ad.add j) = some u) := nw1
  have HTN : Hid (Tn (fun _ => False) w W1 ∧ W1.heap.size = w.heap.size + 2) := ⟨tn1, by rw [hW1]; simp⟩
  have HR : Hid (L ++ (⟨nm, up, dr⟩ :: plL (plT n) ks (L.length : Int) (L.length + 1)) = R) := hR
  have HZ : Hid (∀ i k, ks[i]? = some k → sumL (szT n) (ks.take i) + szT n k ≤ sumL (szT n) ks) := fun i k hk => by rw [← sumL_take _ hk]; exact sumL_le _ _ _
  clear hW1 tn1 x0 own1 nw1 hown hkd hR
  unfold maxT at hk1
  have tok1 : True := trivial
  go_enter Try.func38, Try.ntmps38
  go_wp2_with (at_builtin; have _t := tok1; refine wpList_app rfl _ _ rfl Try.underlying61 info87 rfl (by decide) base (.slice a L.length c) L.length (plcC L) rfl (HW1.out ▸ HO1.out) (some ⟨w.heap.size + 1, 0, none⟩) 1 1 [.string nm, .int .i64 up, .bool dr] rfl rfl (HW1.out ▸ HNW.out) (plc_one _ _ _) (by unfold maxLen; omega) (by omega) (by simp; omega) ?_; rw [← HW1.out]; intro v1 w1 hown1 hg1 _ hat1; clear tok1 _t; obtain ⟨a1, c1, hv1⟩ := own_slice hown1; subst hv1; have HO2 : Hid (w1.ownsRow base 87 3 (.slice a1 (L.length + 1) c1) (L.length + 1) (plcC L ++ [.string nm, .int .i64 up, .bool dr])) := hown1; have HRW : Hid (RwT (.slice a L.length c) (.slice a1 (L.length + 1) c1) w w1) := (RwT.of_grown hg1 hat1).pre HTN.out.1; have HX1 : Hid (IsCells w1 w.heap.size #[.string nm, .bool dr, .slice ka ks.length kc]) := HX0.out.of_block (hg1.block _ HX0.out.lt (fun e => by have := HOB.out _ e.symm; omega)); have y2 : w1.cell? ⟨w.heap.size, 2, none⟩ = some (.slice ka ks.length kc) := HX1.out.cell 2; have yl : w.heap.size < w1.heap.size := HX1.out.lt; clear hown1 hg1 hat1 HX0 HO1 HNW HTN HW1)
  go_loopw [0, 24] (fun u v wr => ∃ (i : Nat) (M : List Plc) (a' : Option Addr) (c' : Nat), i ≤ ks.length ∧ M.length ≤ 64 ∧ u = .slice a' M.length c' ∧ v = .int .i64 (i : Int) ∧ Hid (M = L ++ (⟨nm, up, dr⟩ :: plL (plT n) (ks.take i) (L.length : Int) (L.length + 1))) ∧ Hid (PlR base (.slice a L.length c) M w a' c' wr)) (fun _ v _ => ks.length - (intOf v).toNat)
  case atStart => exact ⟨0, L ++ [⟨nm, up, dr⟩], a1, c1, by omega, by simp; omega, by simp, rfl, by show _ = _; simp [plL], by
    have h1 := HO2.out
    have h2 := HRW.out
    refine ⟨?_, ?_⟩
    · rw [plcC_append]
      simpa [plcC] using h1
    · simpa using h2⟩
  case round =>
    obtain ⟨i, M, a', c', hi, hM, rfl, rfl, HM, HS⟩ := hrel
    clear HO2 HRW HX1 y2 yl
    have hOB := HOB.out
    have hbl : Below B w wr := HS.out.2.below (by omega) (fun k hk => by have := HOB.out k hk; omega)
    have HBL : Hid (Below B w wr) := hbl
    have hws : w.heap.size ≤ wr.heap.size := HS.out.2.1.size
    clear hOB hbl
    by_cases hlt : i < ks.length
    · obtain ⟨k, hk⟩ : ∃ k, ks[i]? = some k := ⟨_, List.getElem?_eq_getElem hlt⟩
      obtain ⟨b, o, nm', dr', ka', kl, kc', rfl, hb, d0, d1, d2, htw⟩ := HKD.out.at HBL.out hk
      have hbw2 : b < wr.heap.size := by omega
      have hlt9 : (i : Int) < (ks.length : Int) := by omega
      have HB2 : Hid (Below B w (wr.alloc (.cells #[.string nm', .bool dr', .slice ka' kl kc'] 24))) := HBL.out.alloc (by omega) _
      have hlen : M.length + szT n k ≤ 64 := by
        have h1 := HZ.out i k hk
        have h2 := congrArg List.length HM.out
        rw [List.length_append, List.length_cons, plL_len (plT n) (szT n) (fun k me p => plT_len n k me p)] at h2
        omega
      have hcl := ih (wr.alloc (.cells #[.string nm', .bool dr', .slice ka' kl kc'] 24)) _ k (L.length : Int) B base a' c' M (htw _ HB2.out) hB (by simp; omega) (own_tn HS.out.1 ((Tn.refl (fun _ => False) _).alloc _) (fun _ _ h => h)) hlen
      obtain ⟨M2, hM2⟩ : ∃ M2, M ++ plT n k (L.length : Int) M.length = M2 := ⟨_, rfl⟩
      rw [hM2] at hcl
      have HN : Hid (M2 = L ++ (⟨nm, up, dr⟩ :: plL (plT n) (ks.take (i + 1)) (L.length : Int) (L.length + 1))) := by
        show _ = _
        rw [← hM2, take_snoc hk, plL_snoc]
        have h2 := congrArg List.length HM.out
        rw [List.length_append, List.length_cons] at h2
        rw [show L.length + 1 + (plL (plT n) (ks.take i) (L.length : Int) (L.length + 1)).length = M.length by omega]
        generalize plT n k (L.length : Int) M.length = Q
        rw [HM.out, List.append_assoc, List.cons_append]
      have hM3 : M2.length ≤ 64 := by rw [← hM2, List.length_append, plT_len]; omega
      have HC : Hid (∀ a2 c2 Y, PlR base (.slice a' M.length c') M2 (wr.alloc (.cells #[.string nm', .bool dr', .slice ka' kl kc'] 24)) a2 c2 Y → PlR base (.slice a L.length c) M2 w a2 c2 Y) := fun a2 c2 Y h => ⟨h.1, HS.out.2.trans (h.2.pre ((Tn.refl (fun _ => False) _).alloc _))⟩
      clear hM2 hlen htw hk HM HS HB2
      go_wp2_with fail
      with_reducible refine hcl.mono ?_
      rintro e X ⟨a2, c2, rfl, hX⟩
      have HX : Hid (PlR base (.slice a L.length c) M2 w a2 c2 X) := HC.out a2 c2 X hX
      clear hX hcl HC
      go_wp2
      go_roundw
      case rel => exact ⟨i + 1, M2, a2, c2, by omega, hM3, rfl, by go_num, HN, HX⟩
      case measure => simp [intOf]; omega
    · have hfin : M = R := by
        have h1 := HM.out
        rw [List.take_of_length_le (by omega), HR.out] at h1
        exact h1
      subst hfin
      go_wp2
      go_ret
      exact ⟨a', c', rfl, HS.out⟩
theorem app_any : ∀ n, AppP n
  | 0 => fun w v t up B base a c L h => h.elim
  | n + 1 => by
    intro w v t up B base a c L h hB hbw hown hsz
    obtain ⟨ka, kc, rfl, hk1, hk2, hkd⟩ := h
    exact app_step (app_any n) w t.nm t.dr t.ks ka kc hk1 up B base a c L hkd hB hbw hown hsz _ rfl

end Go.Proofs.Ytmeinebfdljndaa
