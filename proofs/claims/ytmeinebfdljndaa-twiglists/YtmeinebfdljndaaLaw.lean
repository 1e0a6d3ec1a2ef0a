/- TwigLists. -/
import Derived.Test.YtmeinebfdljndaaLws
import Derived.Deep.DeepCutAuto
namespace Go.Proofs.Ytmeinebfdljndaa
open Go.RowKit
set_option linter.unusedVariables false

theorem own_some {va : Option Addr} {n c g g' m d : Nat} (h : (Value.slice va n c).ownBlock = (Value.slice (some ⟨g, 0, none⟩) m d).ownBlock ∨ (Value.slice va n c).ownBlock = some g') : ∃ ad, va = some ad := by
  cases va with
  | none => rcases h with h | h <;> simp [Value.ownBlock] at h
  | some ad => exact ⟨ad, rfl⟩
set_option maxRecDepth 100000 in
set_option maxHeartbeats 8000000 in
theorem law_walk {n : Nat} (w : World) {nm : ByteArray} {dr : Bool} {ka : Option Addr} {kl kc : Nat} {t : TP n} (h : TwAt w w.heap.size n #[.string nm, .bool dr, .slice ka kl kc] t) {na : Option Addr} {nc : Nat} {N : List Pl} (hN : PlsAt w w.heap.size na N) (hc : N.length ≤ nc) (hv : ∀ x ∈ N, Lvl x.s) (sN : N.length * 32 ≤ 140737488355328) {aa : Option Addr} {ac : Nat} {A : List ByteArray} (hA : StA w aa A) (sA : A.length ≤ 1152921504606846976) (pan : Int) :
    Calls Try.prog 3 #[.agg #[.string nm, .bool dr, .slice ka kl kc], .slice na N.length nc, .slice aa A.length ac, .int .i64 pan] w fun e w' => e = .returned (.bool true) ∧ Below w.heap.size w w' := by
  obtain ⟨W1, hW1⟩ : ∃ W1, W1 = ((w.alloc (.cells #[.string nm, .bool dr, .slice ka kl kc] 24)).alloc (.cells #[.slice na N.length nc] 25)).alloc (.cells #[.int .i64 pan] 3) := ⟨_, rfl⟩
  have hs1 : W1.heap.size = w.heap.size + 3 := by rw [hW1]; simp
  have b1 : Below w.heap.size w W1 := by rw [hW1]; exact (((Below.refl _ _).alloc (Nat.le_refl _) _).alloc (by simp) _).alloc (by simp; omega) _
  have iT : IsCells W1 w.heap.size #[.string nm, .bool dr, .slice ka kl kc] := by rw [hW1]; exact ((isCells_new w _ 24).alloc _).alloc _
  have iN : IsCells W1 (w.heap.size + 1) #[.slice na N.length nc] := by
    have := (isCells_new (w.alloc (.cells #[.string nm, .bool dr, .slice ka kl kc] 24)) #[.slice na N.length nc] 25).alloc (.cells #[.int .i64 pan] 3)
    rw [← hW1] at this
    simpa using this
  have iP : IsCells W1 (w.heap.size + 2) #[.int .i64 pan] := by
    have := isCells_new ((w.alloc (.cells #[.string nm, .bool dr, .slice ka kl kc] 24)).alloc (.cells #[.slice na N.length nc] 25)) #[.int .i64 pan] 3
    rw [← hW1] at this
    simpa using this
  obtain ⟨i0, hi0, hz0, hz1, hz2⟩ := info38.parts
  obtain ⟨W2, hmk, hown, hgr⟩ := run_make_own (P := Try.prog) (w := W1.drew) (w.heap.size + 3) 25 38 i0 _ 4 Try.underlying25 hi0 hz0 hz1 .i64 .i64 (N.length + 1) (by rw [hz2]; omega) (by unfold maxLen; omega) (by show _ ≤ W1.heap.size; omega)
  rw [show ((N.length + 1 : Nat) : Int) = (N.length : Int) + 1 by omega] at hmk
  have b2 : Below W1.heap.size W1 W2 := ((Below.refl _ W1).drew).grown hgr (Nat.le_refl _) (fun k hk => by cases hk)
  have HNW : Hid (∀ j u, (plCells N)[j]? = some u → ∃ ad, na = some ad ∧ W2.cell? (ad.add j) = some u) := pls_news hN (b1.trans (b2.mono b1.size))
  have HOW : Hid (W2.ownsRow (w.heap.size + 3) 38 4 (.slice (some ⟨w.heap.size + 3, 0, none⟩) 0 (N.length + 1)) 0 []) := by have hh := hown; rw [show W1.drew.heap.size = w.heap.size + 3 from hs1] at hh; exact hh
  have HW1 : Hid (W1 = ((w.alloc (.cells #[.string nm, .bool dr, .slice ka kl kc] 24)).alloc (.cells #[.slice na N.length nc] 25)).alloc (.cells #[.int .i64 pan] 3)) := hW1
  have HB : Hid (Below w.heap.size w W1 ∧ Below W1.heap.size W1 W2 ∧ IsCells W1 w.heap.size #[.string nm, .bool dr, .slice ka kl kc] ∧ IsCells W1 (w.heap.size + 1) #[.slice na N.length nc] ∧ IsCells W1 (w.heap.size + 2) #[.int .i64 pan]) := ⟨b1, b2, iT, iN, iP⟩
  have n0 : W1.cell? ⟨w.heap.size + 1, 0, none⟩ = some (.slice na N.length nc) := iN.cell 0
  have n1 : W2.cell? ⟨w.heap.size + 1, 0, none⟩ = some (.slice na N.length nc) := (iN.of_block (b2.block _ iN.lt)).cell 0
  have s2 : W1.heap.size ≤ W2.heap.size := b2.size
  have hNl : N.length ≤ 4398046511104 := by omega
  have hwp : IntKind.i64.wrap ((N.length : Int) + 1) = (N.length : Int) + 1 := by rw [IntKind.wrap_i64]; omega
  clear hW1 b1 b2 iT iN iP hi0 hz0 hz1 hz2 hown hgr
  go_enter Try.func3, Try.ntmps3
  have tokM : True := trivial
  go_upto_region 1 with fail
  rw [← HW1.out]
  go_cut [9] (fun s9 wx => ∃ (ad : Addr) (vc : Nat), s9 = .slice (some ad) N.length vc ∧ N.length ≤ vc ∧ Hid (Below W1.heap.size W1 wx ∧ PlsAt wx wx.heap.size (some ad) N))
  case first =>
    go_region_law (first | (refine step_app (by rfl) _ _ (by rfl) Try.underlying25 info38 rfl (by decide) (w.heap.size + 3) (.slice (some ⟨w.heap.size + 3, 0, none⟩) 0 (N.length + 1)) 0 [] (by rfl) HOW.out na N.length nc (plCells N) (by rfl) (plCells_length _) HNW.out (plCells_one _) (by unfold maxLen; omega) (by omega) (by omega) ?_; intro v1 X hown1 hg1 _ hat1; obtain ⟨va, vc, hvv⟩ := own_slice hown1; subst hvv; have hown2 : X.ownsRow (w.heap.size + 3) 38 4 (.slice va N.length vc) N.length (plCells N) := (by have hh := hown1; simp only [Nat.zero_add, List.nil_append] at hh; exact hh); obtain ⟨ad, had⟩ := own_some hat1; subst had; have hvc : N.length ≤ vc := (row_cell hown2).1; have HX : Hid (Below W1.heap.size W1 X ∧ PlsAt X X.heap.size (some ad) N) := ⟨HB.out.2.1.grown hg1 HB.out.2.1.size (fun k hk => by have := (own_block_lt HOW.out k hk).1; omega), row_pls hown2⟩; clear hown2; clear hat1 hown1 hg1))
    all_goals (
      go_wp2
      go_meet
      exact ⟨ad, vc, rfl, hvc, HX⟩)
  case rest =>
    obtain ⟨ad, vc, rfl, hvc, HX⟩ := hcut
    have HC0 : Hid (CaS wc (wc.alloc (.cells #[.slice none 0 0] 26)) [] none 0) := ⟨(Below.refl _ _).alloc (Nat.le_refl _) _, isCells_new _ _ _, own_none _ _ _ _⟩
    have HN0 : Hid (∀ wr, Below wc.heap.size wc wr → IsCells wr (w.heap.size + 1) #[.slice na N.length nc]) := fun wr hb => by
      obtain ⟨-, -, -, i1, -⟩ := HB.out
      exact (i1.of_block (HX.out.1.block _ i1.lt)).of_block (hb.block _ (by have := HX.out.1.size; have := i1.lt; omega))
    have HA : Hid (StA wc aa A) := hA.bel (HB.out.1.trans (HX.out.1.mono HB.out.1.size))
    clear tokM hmk HOW HNW n0 n1 s2 hA
    go_wp2
    go_loopw [11] (fun v wr => ∃ (i : Nat) (ra : Option Addr) (rc : Nat), i ≤ N.length ∧ v = .int .i64 (i : Int) ∧ Hid (CaS wc wr (calL A i) ra rc)) (fun v _ => N.length - (intOf v).toNat)
    case atStart => exact ⟨0, none, 0, by omega, rfl, HC0⟩
    case round =>
      obtain ⟨i, ra, rc, hi, rfl, HC⟩ := hrel
      clear HC0
      have m0 : wr.cell? ⟨w.heap.size + 1, 0, none⟩ = some (.slice na N.length nc) := (HN0.out wr HC.out.bel).cell 0
      have k0 : wr.cell? ⟨wc.heap.size, 0, none⟩ = some (.slice ra i rc) := by have := HC.out.box.cell 0; rw [calL_len] at this; exact this
      have hkl0 := HC.out.box.lt
      by_cases hlt : i < N.length
      · have hlt9 : (i : Int) < (N.length : Int) := by omega
        have HOW : Hid (∀ s : ByteArray, (wr.alloc (.cells #[.string s] 9)).ownsRow (wc.heap.size + 1) 9 1 (.slice ra i rc) i (strs (calL A i))) := fun s => by
          have hh := HC.out.own
          rw [calL_len] at hh
          exact own_of_block hh (fun k hk => Below.heap_alloc _ _ _ (own_block_lt hh k hk).2)
        have HPU : Hid (∀ s : ByteArray, s = calN A i → ∀ (va : Option Addr) (vc : Nat) (w4 : World), w4.ownsRow (wc.heap.size + 1) 9 1 (.slice va (i + 1) vc) (i + 1) (strs (calL A i) ++ [.string s]) → (wr.alloc (.cells #[.string s] 9)).grownBy w4 (Value.slice ra i rc).ownBlock → IsCells w4 wc.heap.size #[.slice ra i rc] ∧ CaS wc (w4.setCell ⟨wc.heap.size, 0, none⟩ (.slice va (i + 1) vc)) (calL A (i + 1)) va vc) := fun s hs va vc w4 q1 q2 => by
          have hh := HC.out.put (s := s) (o := .cells #[.string s] 9) (va := va) (vc := vc) (w4 := w4) (by rw [calL_len]; exact q1) (by rw [calL_len]; exact q2)
          subst hs
          rw [calL_len, ← calL_snoc] at hh
          exact hh
        have hil : i ≤ 4398046511104 := by omega
        by_cases hA0 : A.length = 0
        · have hA1 : ¬ (0 : Int) < (A.length : Int) := by omega
          have hcN : (⟨#[]⟩ : ByteArray) = calN A i := by
            have : A = [] := List.length_eq_zero_iff.1 hA0
            subst this
            rfl
          have HCN : Hid ((⟨#[]⟩ : ByteArray) = calN A i) := hcN
          clear hcN HC
          have tok2 : True := trivial
          go_wp2_with (at_builtin; have _t := tok2; refine wpList_app rfl _ _ rfl Try.underlying26 info9 rfl (by decide) (wc.heap.size + 1) (.slice ra i rc) i (strs (calL A i)) rfl (HOW.out _) (some ⟨wr.heap.size, 0, none⟩) 1 1 [.string ⟨#[]⟩] rfl rfl (news_new wr #[.string ⟨#[]⟩] 9) (by simp [Value.oneCell']) (by unfold maxLen; omega) (by omega) (by simp; omega) ?_; intro v3 w3 hown3 hg3 _ hat3; clear tok2 _t; obtain ⟨la', lcap', hv3⟩ := own_slice hown3; subst hv3; obtain ⟨i9, j9⟩ := HPU.out _ HCN.out _ _ _ hown3 hg3; have c9 : w3.cell? ⟨wc.heap.size, 0, none⟩ = some (.slice ra i rc) := i9.cell 0; have f9 : w3.frozen? ⟨wc.heap.size, 0, none⟩ = false := i9.frozen 0; have l9 : wc.heap.size < w3.heap.size := i9.lt; have HJ : Hid (CaS wc (w3.setCell ⟨wc.heap.size, 0, none⟩ (.slice la' (i + 1) lcap')) (calL A (i + 1)) la' lcap') := j9; clear hown3 hg3 hat3 i9 j9 HOW HPU)
          go_roundw
          case rel => exact ⟨i + 1, by omega, by omega, la', lcap', HJ⟩
          case measure => simp [intOf]; omega
        · have hA1 : (0 : Int) < (A.length : Int) := by omega
          have hmod : i % A.length < A.length := Nat.mod_lt _ (by omega)
          obtain ⟨b, o, rfl, hb, hcell⟩ := HA.out (i % A.length) _ (List.getElem?_eq_getElem hmod)
          generalize hsn : A[i % A.length] = sn at hcell
          have hcN : sn = calN A i := by unfold calN; rw [List.getElem?_eq_getElem hmod, hsn]
          have HCN : Hid (sn = calN A i) := hcN
          have hcl : wr.cell? ⟨b, o + i % A.length, none⟩ = some (.string sn) := (HC.out.bel.cell (p := ⟨b, o + i % A.length, none⟩) hb).trans hcell
          have hbr : b < wr.heap.size := by have := HC.out.bel.size; omega
          have hAn : ((A.length : Int) == 0) = false := by simp only [beq_eq_false_iff_ne, ne_eq]; omega
          clear hcN HC hcell hsn
          have tok2 : True := trivial
          go_wp2_with (at_builtin; have _t := tok2; refine wpList_app rfl _ _ rfl Try.underlying26 info9 rfl (by decide) (wc.heap.size + 1) (.slice ra i rc) i (strs (calL A i)) rfl (HOW.out _) (some ⟨wr.heap.size, 0, none⟩) 1 1 [.string sn] rfl rfl (news_new wr #[.string sn] 9) (by simp [Value.oneCell']) (by unfold maxLen; omega) (by omega) (by simp; omega) ?_; intro v3 w3 hown3 hg3 _ hat3; clear tok2 _t; obtain ⟨la', lcap', hv3⟩ := own_slice hown3; subst hv3; obtain ⟨i9, j9⟩ := HPU.out _ HCN.out _ _ _ hown3 hg3; have c9 : w3.cell? ⟨wc.heap.size, 0, none⟩ = some (.slice ra i rc) := i9.cell 0; have f9 : w3.frozen? ⟨wc.heap.size, 0, none⟩ = false := i9.frozen 0; have l9 : wc.heap.size < w3.heap.size := i9.lt; have HJ : Hid (CaS wc (w3.setCell ⟨wc.heap.size, 0, none⟩ (.slice la' (i + 1) lcap')) (calL A (i + 1)) la' lcap') := j9; clear hown3 hg3 hat3 i9 j9 HOW HPU)
          go_roundw
          case rel => exact ⟨i + 1, la', lcap', by omega, by go_num, HJ⟩
          case measure => simp [intOf]; omega
      · have hin : i = N.length := by omega
        subst hin
        obtain ⟨C, hCd⟩ : ∃ C, C = calL A N.length := ⟨_, rfl⟩
        have HCl : Hid (C.length = N.length) := by show _ = _; rw [hCd, calL_len]
        have bWr : Below w.heap.size w wr := HB.out.1.trans ((HX.out.1.trans (HC.out.bel.mono HX.out.1.size)).mono HB.out.1.size)
        have bW1 : Below W1.heap.size W1 wr := HX.out.1.trans (HC.out.bel.mono HX.out.1.size)
        have HL : Hid (LwS w.heap.size wc.heap.size wr n #[.string nm, .bool dr, .slice ka kl kc] t N na nc ad C ra rc pan) := by
          obtain ⟨-, -, i1, i2, i3⟩ := HB.out
          refine ⟨(h.below bWr (Nat.le_refl _)).mono bWr.size, i1.of_block (bW1.block _ i1.lt), i2.of_block (bW1.block _ i2.lt), i3.of_block (bW1.block _ i3.lt), ?_, hN.bel bWr, HX.out.2.bel HC.out.bel, ?_⟩
          · rw [hCd]; exact HC.out.box
          · rw [hCd]; exact HC.out.sta
        have HBW : Hid (Below w.heap.size w wr) := bWr
        have hBw : w.heap.size + 3 ≤ wr.heap.size := by have := bW1.size; omega
        obtain ⟨q, hq⟩ : ∃ q : Bool, q = true ↔ (sps N).Pairwise Ok := by classical exact ⟨decide ((sps N).Pairwise Ok), by simp⟩
        have HQ : Hid ((q = true ↔ (sps N).Pairwise Ok) ∧ ∀ x ∈ N, Lvl x.s) := ⟨hq, hv⟩
        obtain ⟨X0, hX0⟩ : ∃ X0, X0 = (wr.alloc (.cells #[.int .i64 0] 3)).alloc (.cells #[.bool true] 4) := ⟨_, rfl⟩
        have b0 : Below wr.heap.size wr X0 := by rw [hX0]; exact ((Below.refl _ _).alloc (Nat.le_refl _) _).alloc (by simp) _
        have c0 : IsCells X0 wr.heap.size #[.int .i64 0] := by rw [hX0]; exact (isCells_new wr _ 3).alloc _
        have g0 : IsCells X0 (wr.heap.size + 1) #[.bool true] := by
          have := isCells_new (wr.alloc (.cells #[.int .i64 0] 3)) #[.bool true] 4
          rw [hX0]
          simpa using this
        have HX0 : Hid (X0 = (wr.alloc (.cells #[.int .i64 0] 3)).alloc (.cells #[.bool true] 4)) := hX0
        have HB0 : Hid (Below wr.heap.size wr X0 ∧ IsCells X0 wr.heap.size #[.int .i64 0] ∧ IsCells X0 (wr.heap.size + 1) #[.bool true]) := ⟨b0, c0, g0⟩
        have HCP : Hid (Calls Try.prog 7 #[.agg #[.string nm, .bool dr, .slice ka kl kc]] X0 (CpP X0 n t)) := copied_any n X0 _ t (HL.out.bel b0).tw
        have t0 : wr.cell? ⟨w.heap.size, 0, none⟩ = some (.string nm) := HL.out.bt.cell 0
        have t1 : wr.cell? ⟨w.heap.size, 1, none⟩ = some (.bool dr) := HL.out.bt.cell 1
        have t2 : wr.cell? ⟨w.heap.size, 2, none⟩ = some (.slice ka kl kc) := HL.out.bt.cell 2
        have tl : w.heap.size < wr.heap.size := by omega
        clear hlt hX0 b0 c0 g0 hq HC bWr bW1 hCd HA HB HX HW1 h hN hv HN0
        go_wp2_with fail
        rw [← HX0.out]
        with_reducible refine HCP.out.mono ?_
        rintro e X1 ⟨nm1, dr1, ka1, kl1, kc1, rfl, htr, hb1⟩
        have HB1 : Hid (Below wr.heap.size wr X1) := HB0.out.1.trans (hb1.mono HB0.out.1.size)
        have HLS : Hid (Calls Try.prog 6 #[.agg #[.string nm1, .bool dr1, .slice ka1 kl1 kc1], .slice (some ad) N.length vc, .func (.func 8) #[] #[.pointer (some ⟨wr.heap.size, 0, none⟩), .pointer (some ⟨w.heap.size + 1 + 1, 0, none⟩), .pointer (some ⟨wr.heap.size + 1, 0, none⟩), .pointer (some ⟨w.heap.size + 1, 0, none⟩), .pointer (some ⟨wc.heap.size, 0, none⟩)]] X1 fun e w' => ∃ fa fl fc y c, e = .returned (.tuple #[.slice fa fl fc, .int .i64 y]) ∧ LsO n t N C pan q fa fl y c w' ∧ IsCells w' wr.heap.size #[.int .i64 c] ∧ IsCells w' (wr.heap.size + 1) #[.bool true] ∧ Tn (fun b => b = wr.heap.size ∨ b = wr.heap.size + 1) X1 w') :=
          lists_all X1 (TwR.toAt (fun b hb => hb.2) htr) (HL.out.bel HB1.out).po hvc HQ.out.2 q HQ.out.1 (HL.out.env HB1.out (HB0.out.2.1.of_block (hb1.block _ HB0.out.2.1.lt)) (HB0.out.2.2.of_block (hb1.block _ HB0.out.2.2.lt))) HCl.out
        clear htr hb1 HCP t0 t1 t2 HX0 HB0
        go_wp2_with fail
        with_reducible refine HLS.out.mono ?_
        rintro e X2 ⟨fa, fl, fc, y, c, rfl, ho, c2, g2, ht2⟩
        have b2 : Below wr.heap.size wr X2 := HB1.out.trans (ht2.below HB1.out.size (fun k hk => by rcases hk with rfl | rfl <;> omega))
        have HO : Hid (LsO n t N C pan q fa fl y c X2 ∧ IsCells X2 wr.heap.size #[.int .i64 c] ∧ IsCells X2 (wr.heap.size + 1) #[.bool true] ∧ Below wr.heap.size wr X2) := ⟨ho, c2, g2, b2⟩
        have L2 : Hid (LwS w.heap.size wc.heap.size X2 n #[.string nm, .bool dr, .slice ka kl kc] t N na nc ad C ra rc pan) := HL.out.bel b2
        have HRL := rlists_all (cc := rc) X2 L2.out.tw L2.out.pn hc (by omega) HQ.out.2 L2.out.sc HCl.out q HQ.out.1
        have t0 : X2.cell? ⟨w.heap.size, 0, none⟩ = some (.string nm) := L2.out.bt.cell 0
        have t1 : X2.cell? ⟨w.heap.size, 1, none⟩ = some (.bool dr) := L2.out.bt.cell 1
        have t2 : X2.cell? ⟨w.heap.size, 2, none⟩ = some (.slice ka kl kc) := L2.out.bt.cell 2
        have t3 : X2.cell? ⟨w.heap.size + 1, 0, none⟩ = some (.slice na N.length nc) := L2.out.bn.cell 0
        have t4 : X2.cell? ⟨wc.heap.size, 0, none⟩ = some (.slice ra C.length rc) := L2.out.bc.cell 0
        have s2 : wr.heap.size ≤ X2.heap.size := b2.size
        generalize hle : lsE n t N q = le at HRL
        have HLE : Hid (lsE n t N q = le) := hle
        clear ho c2 g2 ht2 b2 HLS HB1 hle m0 k0 HL
        go_wp2_with fail
        with_reducible refine HRL.mono ?_
        rintro e X3 ⟨ga, gl, gc, rfl, hg1, hg2, b3⟩
        have HG : Hid ((le ≠ 0 → gl = 0) ∧ (le = 0 → gl = (plA n t).length ∧ LlAt X3 ga (LLf (plA n t) N C)) ∧ Below X2.heap.size X2 X3) := ⟨hg1, hg2, b3⟩
        have L3 : Hid (LwS w.heap.size wc.heap.size X3 n #[.string nm, .bool dr, .slice ka kl kc] t N na nc ad C ra rc pan) := L2.out.bel b3
        have HCP := copied_any n X3 _ t L3.out.tw
        have u0 : X3.cell? ⟨w.heap.size, 0, none⟩ = some (.string nm) := L3.out.bt.cell 0
        have u1 : X3.cell? ⟨w.heap.size, 1, none⟩ = some (.bool dr) := L3.out.bt.cell 1
        have u2 : X3.cell? ⟨w.heap.size, 2, none⟩ = some (.slice ka kl kc) := L3.out.bt.cell 2
        have s3 : X2.heap.size ≤ X3.heap.size := b3.size
        clear hg1 hg2 b3 HRL t0 t1 t2 t3 t4 L2
        go_wp2_with fail
        with_reducible refine HCP.mono ?_
        rintro e X4 ⟨nm4, dr4, ka4, kl4, kc4, rfl, htr, b4⟩
        have HLN := lists_nil X4 (TwR.toAt (fun b hb => hb.2) htr) (some ad) N.length vc
        have HB4 : Hid (Below X3.heap.size X3 X4) := b4
        have s4 : X3.heap.size ≤ X4.heap.size := b4.size
        clear htr b4 HCP u0 u1 u2
        go_wp2_with fail
        with_reducible refine HLN.mono ?_
        rintro e X5 ⟨z, rfl, hz, b5⟩
        have HB5 : Hid (Below X3.heap.size X3 X5) := HB4.out.trans (b5.mono s4)
        have L5 : Hid (LwS w.heap.size wc.heap.size X5 n #[.string nm, .bool dr, .slice ka kl kc] t N na nc ad C ra rc pan) := L3.out.bel HB5.out
        have HCK := rcheck_any X5 L5.out.tw
        have u0 : X5.cell? ⟨w.heap.size, 0, none⟩ = some (.string nm) := L5.out.bt.cell 0
        have u1 : X5.cell? ⟨w.heap.size, 1, none⟩ = some (.bool dr) := L5.out.bt.cell 1
        have u2 : X5.cell? ⟨w.heap.size, 2, none⟩ = some (.slice ka kl kc) := L5.out.bt.cell 2
        have s5 : X3.heap.size ≤ X5.heap.size := HB5.out.size
        have HZ : Hid (chkT n t = 0 → z = 1) := hz
        clear hz b5 HLN HB4 L3
        go_wp2_with fail
        with_reducible refine HCK.mono ?_
        rintro e X6 ⟨rfl, b6⟩
        have HB6 : Hid (Below X3.heap.size X3 X6) := HB5.out.trans (b6.mono s5)
        have L6 : Hid (LwS w.heap.size wc.heap.size X6 n #[.string nm, .bool dr, .slice ka kl kc] t N na nc ad C ra rc pan) := L5.out.bel b6
        clear HCK u0 u1 u2 HB5 L5 b6
        have b26 : Below X2.heap.size X2 X6 := HG.out.2.2.trans (HB6.out.mono s3)
        have HWX : Hid (Below w.heap.size w X6) := HBW.out.trans ((HO.out.2.2.2.trans (b26.mono s2)).mono HBW.out.size)
        have i5 : IsCells X6 wr.heap.size #[.int .i64 c] := HO.out.2.1.of_block (b26.block _ HO.out.2.1.lt)
        have i6 : IsCells X6 (wr.heap.size + 1) #[.bool true] := HO.out.2.2.1.of_block (b26.block _ HO.out.2.2.1.lt)
        have v1 : X6.cell? ⟨w.heap.size + 1 + 1, 0, none⟩ = some (.int .i64 pan) := L6.out.bp.cell 0
        have v3 : X6.cell? ⟨w.heap.size + 1, 0, none⟩ = some (.slice na N.length nc) := L6.out.bn.cell 0
        have v5 : X6.cell? ⟨wr.heap.size, 0, none⟩ = some (.int .i64 c) := i5.cell 0
        have v6 : X6.cell? ⟨wr.heap.size + 1, 0, none⟩ = some (.bool true) := i6.cell 0
        have s6 : wr.heap.size + 1 < X6.heap.size := i6.lt
        have HK2 : Hid (∀ X7, Below X6.heap.size X6 X7 → Calls Try.prog 11 #[.slice (some ⟨X7.heap.size, 0, none⟩) 1 1, .slice (some ⟨X7.heap.size + 1, 0, none⟩) 1 1] ((X7.alloc (.cells #[.slice (some ad) N.length vc] 25)).alloc (.cells #[.slice na N.length nc] 25)) fun e w' => e = .returned (.bool true) ∧ Hid (Below X6.heap.size X6 w')) := fun X7 b7 => by
          have L7 := L6.out.bel b7
          have bA : Below X7.heap.size X7 (X7.alloc (.cells #[.slice (some ad) N.length vc] 25)) := (Below.refl _ _).alloc (Nat.le_refl _) _
          have bB : Below (X7.alloc (.cells #[.slice (some ad) N.length vc] 25)).heap.size (X7.alloc (.cells #[.slice (some ad) N.length vc] 25)) ((X7.alloc (.cells #[.slice (some ad) N.length vc] 25)).alloc (.cells #[.slice na N.length nc] 25)) := (Below.refl _ _).alloc (Nat.le_refl _) _
          have l1 := (ll_one L7.po hvc).bel bB
          have l2 := ll_one (L7.pn.bel bA) hc
          have e1 : (X7.alloc (.cells #[.slice (some ad) N.length vc] 25)).heap.size = X7.heap.size + 1 := by simp
          rw [e1] at l2
          have bC : Below X6.heap.size X6 ((X7.alloc (.cells #[.slice (some ad) N.length vc] 25)).alloc (.cells #[.slice na N.length nc] 25)) := b7.trans ((bA.trans (bB.mono bA.size)).mono b7.size)
          refine (kept_any (ca := 1) (cb := 1) _ l1 l2 (by simp) (by intro L hL; simp at hL; subst hL; omega)).mono ?_
          rintro e Y ⟨rfl, hY⟩
          exact ⟨rfl, bC.trans (hY.mono bC.size)⟩
        have ho := HO.out.1
        unfold LsO at ho
        rw [HLE.out] at ho
        have hck0 : le = 0 → chkT n t = 0 := fun h0 => (lsE_chk (HLE.out.trans h0)).1
        have hkz : (chkT n t = 0 ∧ z = 1) ∨ ¬ chkT n t = 0 := by
          by_cases h0 : chkT n t = 0
          · exact .inl ⟨h0, HZ.out h0⟩
          · exact .inr h0
        have hPl : (plA n t).length ≤ 4096 := by
          unfold plA
          by_cases h0 : chkT n t = 0
          · rw [if_pos h0, plT_len]
            unfold chkT at h0
            by_cases h2 : 16 < szT n t
            · rw [if_pos h2] at h0
              cases h0
            · omega
          · rw [if_neg h0]
            simp
        have HLL : Hid (∀ L ∈ LLf (plA n t) N C, L.length ≤ 4611686018427387904) := fun L hL => by
          unfold LLf at hL
          obtain ⟨p, -, rfl⟩ := List.mem_map.1 hL
          have := fl_len p N C N.length
          omega
        have HG6 : Hid (le = 0 → LlAt X6 ga (LLf (plA n t) N C)) := fun h0 => (HG.out.2.1 h0).2.bel HB6.out
        have hgl1 := HG.out.1
        have hgl2 : le = 0 → gl = (plA n t).length := fun h0 => (HG.out.2.1 h0).1
        have HFA : Hid (LlAt X2 fa (LLf (plA n t) N C) → LlAt X6 fa (LLf (plA n t) N C)) := fun h0 => h0.bel b26
        generalize chkT n t = k0 at *
        clear HO HG HB6 L6 i5 i6 b26 HZ HLE HBW s3 s4 s5
        rcases ho with ⟨h0, rfl, rfl⟩ | ⟨rfl, rfl, rfl, hp1, hp2, rfl⟩ | ⟨rfl, rfl, hp, rfl, rfl, hll⟩
        · have hg0 := hgl1 h0
          subst hg0
          have HK1 : Hid (Calls Try.prog 11 #[.slice fa 0 fc, .slice ga 0 gc] X6 fun e w' => e = .returned (.bool true) ∧ Below X6.heap.size X6 w') := kept_any (LL := []) X6 (fun i L hL => by simp at hL) (fun i L hL => by simp at hL) (by simp) (by simp)
          have h09 : (y == 0) = false := by simpa using h0
          clear hck0 hgl1 hgl2 HLL HG6 HFA hPl
          rcases hkz with ⟨rfl, rfl⟩ | hk0
          · have tokE : True := trivial
            go_wp2_with fail
            with_reducible refine HK1.out.mono ?_
            rintro e X7 ⟨rfl, b7⟩
            have hk2 := HK2.out X7 b7
            have n7 : X7.cell? ⟨w.heap.size + 1, 0, none⟩ = some (.slice na N.length nc) := (b7.cell (p := ⟨w.heap.size + 1, 0, none⟩) (by show w.heap.size + 1 < X6.heap.size; omega)).trans v3
            have s7 : X6.heap.size ≤ X7.heap.size := b7.size
            have l7 : w.heap.size + 1 < X7.heap.size := by omega
            clear b7 HK1 HK2
            go_wp2_with fail
            with_reducible refine hk2.mono ?_
            rintro e X8 ⟨rfl, HB8⟩
            have n8 : X8.cell? ⟨w.heap.size + 1, 0, none⟩ = some (.slice na N.length nc) := (HB8.out.cell (p := ⟨w.heap.size + 1, 0, none⟩) (by show w.heap.size + 1 < X6.heap.size; omega)).trans v3
            have c8 : X8.cell? ⟨wr.heap.size, 0, none⟩ = some (.int .i64 c) := (HB8.out.cell (p := ⟨wr.heap.size, 0, none⟩) (by show wr.heap.size < X6.heap.size; omega)).trans v5
            have s8 : X6.heap.size ≤ X8.heap.size := HB8.out.size
            have HF : Hid (Below w.heap.size w X8) := HWX.out.trans (HB8.out.mono HWX.out.size)
            clear hk2 HB8 v1 v3 v5 n7
            go_wp2
            go_ret
            exact ⟨rfl, HF.out⟩
          · have hk9 : (k0 == 0) = false := by simpa using hk0
            go_wp2_with fail
            with_reducible refine HK1.out.mono ?_
            rintro e X7 ⟨rfl, b7⟩
            have hk2 := HK2.out X7 b7
            have n7 : X7.cell? ⟨w.heap.size + 1, 0, none⟩ = some (.slice na N.length nc) := (b7.cell (p := ⟨w.heap.size + 1, 0, none⟩) (by show w.heap.size + 1 < X6.heap.size; omega)).trans v3
            have s7 : X6.heap.size ≤ X7.heap.size := b7.size
            have l7 : w.heap.size + 1 < X7.heap.size := by omega
            clear b7 HK1 HK2
            go_wp2_with fail
            with_reducible refine hk2.mono ?_
            rintro e X8 ⟨rfl, HB8⟩
            have n8 : X8.cell? ⟨w.heap.size + 1, 0, none⟩ = some (.slice na N.length nc) := (HB8.out.cell (p := ⟨w.heap.size + 1, 0, none⟩) (by show w.heap.size + 1 < X6.heap.size; omega)).trans v3
            have c8 : X8.cell? ⟨wr.heap.size, 0, none⟩ = some (.int .i64 c) := (HB8.out.cell (p := ⟨wr.heap.size, 0, none⟩) (by show wr.heap.size < X6.heap.size; omega)).trans v5
            have s8 : X6.heap.size ≤ X8.heap.size := HB8.out.size
            have HF : Hid (Below w.heap.size w X8) := HWX.out.trans (HB8.out.mono HWX.out.size)
            clear hk2 HB8 v1 v3 v5 n7
            go_wp2
            go_ret
            exact ⟨rfl, HF.out⟩
        · have hk1 := hck0 rfl
          subst hk1
          have hz1 : z = 1 := by
            rcases hkz with ⟨-, h1⟩ | h1
            · exact h1
            · exact absurd rfl h1
          subst hz1
          clear hck0 hgl1 hgl2 HLL HG6 HFA hPl hkz HK2
          go_wp2
          go_ret
          exact ⟨rfl, HWX.out⟩
        · have hk1 := hck0 rfl
          subst hk1
          have hz1 : z = 1 := by
            rcases hkz with ⟨-, h1⟩ | h1
            · exact h1
            · exact absurd rfl h1
          subst hz1
          have hg0 := hgl2 rfl
          subst hg0
          have eL : (LLf (plA n t) N C).length = (plA n t).length := by simp [LLf]
          have HK1 : Hid (Calls Try.prog 11 #[.slice fa (plA n t).length fc, .slice ga (plA n t).length gc] X6 fun e w' => e = .returned (.bool true) ∧ Below X6.heap.size X6 w') := by
            have hh := kept_any (ca := fc) (cb := gc) X6 (HFA.out hll) (HG6.out rfl) (by rw [eL]; exact hPl) HLL.out
            rw [eL] at hh
            exact hh
          clear hck0 hgl1 hgl2 HLL HG6 HFA hll eL hkz
          by_cases hp1 : 1 ≤ pan
          · have hp2 : ¬ pan ≤ (N.length : Int) := fun h2 => hp ⟨hp1, h2⟩
            clear hp
            go_wp2_with fail
            with_reducible refine HK1.out.mono ?_
            rintro e X7 ⟨rfl, b7⟩
            have hk2 := HK2.out X7 b7
            have n7 : X7.cell? ⟨w.heap.size + 1, 0, none⟩ = some (.slice na N.length nc) := (b7.cell (p := ⟨w.heap.size + 1, 0, none⟩) (by show w.heap.size + 1 < X6.heap.size; omega)).trans v3
            have s7 : X6.heap.size ≤ X7.heap.size := b7.size
            have l7 : w.heap.size + 1 < X7.heap.size := by omega
            clear b7 HK1 HK2
            go_wp2_with fail
            with_reducible refine hk2.mono ?_
            rintro e X8 ⟨rfl, HB8⟩
            have n8 : X8.cell? ⟨w.heap.size + 1, 0, none⟩ = some (.slice na N.length nc) := (HB8.out.cell (p := ⟨w.heap.size + 1, 0, none⟩) (by show w.heap.size + 1 < X6.heap.size; omega)).trans v3
            have c8 : X8.cell? ⟨wr.heap.size, 0, none⟩ = some (.int .i64 (N.length : Int)) := (HB8.out.cell (p := ⟨wr.heap.size, 0, none⟩) (by show wr.heap.size < X6.heap.size; omega)).trans v5
            have s8 : X6.heap.size ≤ X8.heap.size := HB8.out.size
            have HF : Hid (Below w.heap.size w X8) := HWX.out.trans (HB8.out.mono HWX.out.size)
            clear hk2 HB8 v1 v3 v5 n7
            go_wp2
            go_ret
            exact ⟨rfl, HF.out⟩
          · clear hp
            go_wp2_with fail
            with_reducible refine HK1.out.mono ?_
            rintro e X7 ⟨rfl, b7⟩
            have hk2 := HK2.out X7 b7
            have n7 : X7.cell? ⟨w.heap.size + 1, 0, none⟩ = some (.slice na N.length nc) := (b7.cell (p := ⟨w.heap.size + 1, 0, none⟩) (by show w.heap.size + 1 < X6.heap.size; omega)).trans v3
            have s7 : X6.heap.size ≤ X7.heap.size := b7.size
            have l7 : w.heap.size + 1 < X7.heap.size := by omega
            clear b7 HK1 HK2
            go_wp2_with fail
            with_reducible refine hk2.mono ?_
            rintro e X8 ⟨rfl, HB8⟩
            have n8 : X8.cell? ⟨w.heap.size + 1, 0, none⟩ = some (.slice na N.length nc) := (HB8.out.cell (p := ⟨w.heap.size + 1, 0, none⟩) (by show w.heap.size + 1 < X6.heap.size; omega)).trans v3
            have c8 : X8.cell? ⟨wr.heap.size, 0, none⟩ = some (.int .i64 (N.length : Int)) := (HB8.out.cell (p := ⟨wr.heap.size, 0, none⟩) (by show wr.heap.size < X6.heap.size; omega)).trans v5
            have s8 : X6.heap.size ≤ X8.heap.size := HB8.out.size
            have HF : Hid (Below w.heap.size w X8) := HWX.out.trans (HB8.out.mono HWX.out.size)
            clear hk2 HB8 v1 v3 v5 n7
            go_wp2
            go_ret
            exact ⟨rfl, HF.out⟩

end Go.Proofs.Ytmeinebfdljndaa
