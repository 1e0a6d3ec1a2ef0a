/- TreeBack, walked. -/
import Derived.Test.YtnhajpeijkbbeaaGreatB28
namespace Go.Proofs.YtnhajpeijkbbeaaGreat
open Go.RowKit
set_option maxRecDepth 100000
set_option maxHeartbeats 4000000
set_option linter.unusedVariables false
set_option linter.unusedSimpArgs false
def BackP (w : World) (e : Ending) (w' : World) : Prop := e = .returned (.bool true) /\ Below w.heap.size w w'
theorem back_walk (w : World) (aa : Option Addr) (an ac : Nat) (h1 : ActsAt w w.heap.size aa an) (l1 : an < 4611686018427387904) (uk : Int) (un : ByteArray) (ua : Option Addr) (ual uac : Nat) (ut : ByteArray) (uka : Option Addr) (ukl ukc : Nat) (m : Nat) (t : T m) (htr : TreeAt w 0 w.heap.size m #[.int .i64 uk, .string un, .slice ua ual uac, .string ut, .slice uka ukl ukc] t)
  (k wh : Int) (how : Bool) (n a : Nat) (nm vl : ByteArray) (xk : Int) (xn : ByteArray) (xa : Option Addr) (xal xac : Nat) (xt : ByteArray) (xka : Option Addr) (xkl xkc : Nat) (hn : n < 18446744073709551616) (ha : a < 18446744073709551616) :
  Calls Tryz.prog 5 #[.slice aa an ac, .agg #[.int .i64 uk, .string un, .slice ua ual uac, .string ut, .slice uka ukl ukc], .agg (actv k wh how n a nm vl xk xn xa xal xac xt xka xkl xkc)] w (BackP w) := by
 obtain ⟨w0, hw0⟩ : ∃ w0, w0 = (w.alloc (.cells #[.int .i64 uk, .string un, .slice ua ual uac, .string ut, .slice uka ukl ukc] 46)).alloc (.cells (actv k wh how n a nm vl xk xn xa xal xac xt xka xkl xkc) 48) := ⟨_, rfl⟩
 have hs0 : w0.heap.size = w.heap.size + 2 := by rw [hw0]; simp
 have HB0 : Hid (Below w.heap.size w w0) := by rw [hw0]; exact (below_new' w _).alloc (by simp) _
 have HX0 : Hid (IsCells w0 w.heap.size #[.int .i64 uk, .string un, .slice ua ual uac, .string ut, .slice uka ukl ukc]) := by rw [hw0]; exact (isCells_new w _ _).alloc _
 have HY0 : Hid (IsCells w0 (w.heap.size + 1) (actv k wh how n a nm vl xk xn xa xal xac xt xka xkl xkc)) := by
  have := isCells_new (w.alloc (.cells #[.int .i64 uk, .string un, .slice ua ual uac, .string ut, .slice uka ukl ukc] 46)) (actv k wh how n a nm vl xk xn xa xal xac xt xka xkl xkc) 48
  rw [hw0]
  show IsCells _ _ _
  simpa using this
 have HA : Hid (ActsAt w w.heap.size aa an) := h1
 have HTR : Hid (TreeAt w 0 w.heap.size m #[.int .i64 uk, .string un, .slice ua ual uac, .string ut, .slice uka ukl ukc] t) := htr
 have hP0 : ∀ z, z = w0 -> ∃ ro Q D, Pr w0 ((z.alloc (.cells #[.slice none 0 0, .slice none 0 0, .int .i64 0] 36)).alloc (.cells #[.slice none 0 0, .slice none 0 0] 38)) ro (w.heap.size + 2) Q (w.heap.size + 3) D := by
  rintro z rfl
  have := start_bo z
  rw [hs0] at this
  exact ⟨_, _, _, ⟨(below_new' z _).alloc (by simp) _, this, fun b hb => by
   by_cases e : b = w.heap.size + 2
   ·omega
   ·simp [e] at hb, by omega⟩⟩
 have HP0 : Hid _ := hP0 _ hw0.symm
 clear h1 htr hw0 hP0
 unfold actv at HP0 HY0 ⊢
 go_enter Tryz.func5, Tryz.ntmps5
 go_wp2
 go_loopw [9] (fun iv wr => ∃ i : Nat, i <= an /\ iv = .int .i64 (i : Int) /\ Hid (∃ ro Q D, Pr w0 wr ro (w.heap.size + 2) Q (w.heap.size + 3) D)) (fun iv _ => an - (intOf iv).toNat)
 case atStart => exact ⟨0, Nat.zero_le _, rfl, HP0⟩
 case round =>
  clear HP0
  obtain ⟨i, hi, rfl, HP⟩ := hrel
  obtain ⟨ro, Q, D, hpr⟩ := HP.out
  have HPR : Hid (Pr w0 _ ro (w.heap.size + 2) Q (w.heap.size + 3) D) := hpr
  by_cases hlt : i < an
  ·obtain ⟨b, o, e, hb, k, wh, how, n, a, nm, vl, xk, xn, xa, xal, xac, xt, xka, xkl, xkc, g1, g2, g3, m, t, g4⟩ := (HA.out.below (HB0.out.trans (hpr.bel.mono (by omega)))) i hlt
   subst e
   have hcall := does_any _ ro _ Q _ D hpr.bo k wh how n a nm vl xk xn xa xal xac xt xka xkl xkc g1 g2 m t 0 w.heap.size g4 (by omega) (fun b hb => by have := hpr.lo b hb; omega)
   have c0 := g3 0 (by omega)
   have c1 := g3 1 (by omega)
   have c2 := g3 2 (by omega)
   have c3 := g3 3 (by omega)
   have c4 := g3 4 (by omega)
   have c5 := g3 5 (by omega)
   have c6 := g3 6 (by omega)
   have c7 := g3 7 (by omega)
   have c8 := g3 8 (by omega)
   have c9 := g3 9 (by omega)
   have c10 := g3 10 (by omega)
   have c11 := g3 11 (by omega)
   unfold actv at hcall
   simp only [actv, Nat.add_zero, List.getElem?_toArray, List.getElem?_cons_zero, List.getElem?_cons_succ] at c0 c1 c2 c3 c4 c5 c6 c7 c8 c9 c10 c11
   have hbl : b < _ := Nat.lt_of_lt_of_le hb (Nat.le_trans HB0.out.size hpr.bel.size)
   clear g3 g4 hpr HP
   go_wp2_with fail
   refine hcall.mono ?_
   intro e w2 hd
   obtain ⟨rfl, hd2⟩ := HPR.out.step hd
   have HP2 : Hid (∃ ro Q D, Pr w0 w2 ro (w.heap.size + 2) Q (w.heap.size + 3) D) := hd2
   clear hd hd2 hcall c0 c1 c2 c3 c4 c5 c6 c7 c8 c9 c10 c11
   go_wp2
   go_roundw
   case rel => exact ⟨i + 1, by omega, by go_num, HP2⟩
   case measure => simp [intOf]; omega
  ·have hme := meant_any wr _ _ D hpr.bo.r.view hpr.bo.wf k wh how n a nm vl xk xn xa xal xac xt xka xkl xkc hn ha
   unfold actv at hme
   have HYr : Hid (IsCells wr (w.heap.size + 1) _) := HY0.out.of_block (hpr.bel.block _ (by omega))
   have hcy := HYr.out.cell
   have hly := HYr.out.lt
   have hsr : w.heap.size + 2 <= wr.heap.size := by have := hpr.bel.size; omega
   clear hpr HP HA HY0
   go_upto_region 7 with fail
   go_cut [10] (fun p wx => ∃ (how' : Bool) (n' a' : Nat), n' < 18446744073709551616 /\ a' < 18446744073709551616 /\ ∃ A, p = .pointer (some ⟨A, 0, none⟩) /\ w.heap.size + 2 <= A /\ wr.heap.size <= A /\ Hid (Turn (fun _ => False) wr wx) /\ Hid (IsCells wx A #[.int .i64 k, .int .i64 wh, .bool how', .int .u64 (n' : Int), .int .u64 (a' : Int), .string nm, .string vl, .int .i64 xk, .string xn, .slice xa xal xac, .string xt, .slice xka xkl xkc]))
   case first =>
    go_wp2_with fail
    refine hme.mono ?_
    rintro e w1 ⟨how', n', a', hn', ha', rfl, hb1⟩
    unfold actv
    have HT : Hid (Turn (fun _ => False) wr w1) := (Turn.refl _ _).then hb1 (Nat.le_refl _)
    have hs1 := hb1.size
    clear hme hb1
    go_wp2_with fail
    go_meet
    exact ⟨how', n', a', hn', ha', _, rfl, by omega, hs1, HT.out.alloc _, isCells_new _ _ _⟩
   case rest =>
    obtain ⟨how', n', a', hn', ha', A, rfl, hA1, hA2, HTc, HAc⟩ := hcut
    clear hme HYr hcy hly
    have hsc := HTc.out.size
    have HPc : Hid (Pr w0 wc ro (w.heap.size + 2) Q (w.heap.size + 3) D) := HPR.out.below (HTc.out.below (Nat.le_refl _) (fun _ h => h.elim))
    have HXc : Hid (IsCells wc w.heap.size #[.int .i64 uk, .string un, .slice ua ual uac, .string ut, .slice uka ukl ukc]) := HX0.out.of_block (HPc.out.bel.block _ (by omega))
    have HTRc : Hid (TreeAt wc 0 w.heap.size m #[.int .i64 uk, .string un, .slice ua ual uac, .string ut, .slice uka ukl ukc] t) := HTR.out.of_cells (fun b o _ hb => ((HB0.out.trans (HPc.out.bel.mono (by omega))).cell (p := ⟨b, o, none⟩) hb))
    have hAl := HAc.out.lt
    have hXl := HXc.out.lt
    have HNR : Hid (∀ b, ro b ≠ 0 -> b < wc.heap.size) := fun b hb => PdocLt HPc.out.bo.p b hb
    have HNA : Hid (¬ ro A ≠ 0 /\ ¬ A = w.heap.size + 3 /\ ¬ ro w.heap.size ≠ 0) := by
     refine ⟨fun h => ?_, fun e => ?_, fun h => ?_⟩
     ·have := PdocLt HPR.out.bo.p A h
      omega
     ·have := HPR.out.bo.r.rbl
      omega
     ·have := HPR.out.lo _ h
      omega
    obtain ⟨E, hE⟩ : ∃ E, E = (insD D wh a' m t).1 := ⟨_, rfl⟩
    obtain ⟨hN, hhN⟩ : ∃ x, x = (insD D wh a' m t).2 := ⟨_, rfl⟩
    obtain ⟨z, hz⟩ : ∃ z, z = insE D wh a' m t := ⟨_, rfl⟩
    have HWE : Hid (WF E) := by rw [hE]; exact HPR.out.bo.wf.insD wh a' m t
    have HC16 : Hid (∀ w2 v, TreeR w2 (Fw w2 wc.heap.size) m v t -> Below wc.heap.size wc w2 -> Calls Tryz.prog 16 #[.pointer (some ⟨w.heap.size + 2, 0, none⟩), .int .i64 wh, .int .u64 (a' : Int), .agg v] w2 (InsP w2 ro (w.heap.size + 2) E hN z)) := fun w2 v h1 h2 => by
     rw [hE, hhN, hz]
     exact pins_any m w2 v t wc.heap.size w2.heap.size ro _ a' wh D (TreeR.to (R' := fun b => wc.heap.size <= b /\ b < w2.heap.size) (fun b hb => ⟨hb.1, hb.2.1⟩) (fun _ _ _ => rfl) h1).toAt (Nat.le_refl _) (fun b hb h => by have := HNR.out b hb; omega) (HPc.out.below h2).bo.p HPR.out.bo.wf ha'
    have HC18 : Hid (∀ w3, TreeAt w3 0 w.heap.size m #[.int .i64 uk, .string un, .slice ua ual uac, .string ut, .slice uka ukl ukc] t -> RDoc w3 Q (w.heap.size + 3) D -> Calls Tryz.prog 18 #[.pointer (some ⟨w.heap.size + 3, 0, none⟩), .int .i64 wh, .int .u64 (a' : Int), .agg #[.int .i64 uk, .string un, .slice ua ual uac, .string ut, .slice uka ukl ukc]] w3 (RInsP w3 Q (w.heap.size + 3) E hN z)) := fun w3 h1 h2 => by
     rw [hE, hhN, hz]
     exact rins_any m w3 _ t 0 w.heap.size Q _ a' wh D h1 (by have := h2.rbl; omega) (by omega) h2 HPR.out.bo.wf ha'
    have HE : Hid (E = (insD D wh a' m t).1 /\ hN = (insD D wh a' m t).2 /\ z = insE D wh a' m t) := ⟨hE, hhN, hz⟩
    have hcopy := copied_own m wc.drew _ t 0 w.heap.size (TreeAt.of_cells (w := wc) (w' := wc.drew) (fun _ _ _ _ => rfl) HTRc.out) (by show _ <= wc.heap.size; omega)
    have hca := HAc.out.cell
    have hcx := HXc.out.cell
    have a1 : wc.drew.cell? ⟨A, 1, none⟩ = some (.int .i64 wh) := hca 1
    have a4 : wc.drew.cell? ⟨A, 4, none⟩ = some (.int .u64 (a' : Int)) := hca 4
    have x0 : wc.drew.cell? ⟨w.heap.size, 0, none⟩ = some (.int .i64 uk) := hcx 0
    have x1 : wc.drew.cell? ⟨w.heap.size, 1, none⟩ = some (.string un) := hcx 1
    have x2 : wc.drew.cell? ⟨w.heap.size, 2, none⟩ = some (.slice ua ual uac) := hcx 2
    have x3 : wc.drew.cell? ⟨w.heap.size, 3, none⟩ = some (.string ut) := hcx 3
    have x4 : wc.drew.cell? ⟨w.heap.size, 4, none⟩ = some (.slice uka ukl ukc) := hcx 4
    have tok0 : True := trivial
    have tok1 : True := trivial
    clear hE hhN hz hca hcx hn' HX0 HTR
    go_upto_region 8 with fail
    go_region_held3 (fun W => W.cell? ⟨A, 1, none⟩ = some (.int .i64 wh) /\ W.cell? ⟨A, 4, none⟩ = some (.int .u64 (a' : Int)) /\ W.cell? ⟨w.heap.size, 0, none⟩ = some (.int .i64 uk) /\ W.cell? ⟨w.heap.size, 1, none⟩ = some (.string un) /\ W.cell? ⟨w.heap.size, 2, none⟩ = some (.slice ua ual uac) /\ W.cell? ⟨w.heap.size, 3, none⟩ = some (.string ut) /\ W.cell? ⟨w.heap.size, 4, none⟩ = some (.slice uka ukl ukc))
     (first | exact ⟨a1, a4, x0, x1, x2, x3, x4⟩ | exact KQ.out | exact KS.out | go_keep)
     (first
      | (go_at_call 17; have _t := tok0; (with_reducible refine hcopy.mono ?_); rintro e w2 ⟨v, rfl, htv, hb2⟩; obtain ⟨kk, nk, ak, alk, ack, tk, kak, klk, kck, rfl⟩ := htv.form; have hb2' : Below wc.heap.size wc w2 := (Below.refl _ _).drew.trans hb2; have hcp := HC16.out w2 _ htv hb2'; have HP2 : Hid (Pr w0 w2 ro (w.heap.size + 2) Q (w.heap.size + 3) D) := HPc.out.below hb2'; have HB2 : Hid (Below wc.heap.size wc w2) := hb2'; have KQ : Hid (w2.cell? ⟨A, 1, none⟩ = some (.int .i64 wh) /\ w2.cell? ⟨A, 4, none⟩ = some (.int .u64 (a' : Int)) /\ w2.cell? ⟨w.heap.size, 0, none⟩ = some (.int .i64 uk) /\ w2.cell? ⟨w.heap.size, 1, none⟩ = some (.string un) /\ w2.cell? ⟨w.heap.size, 2, none⟩ = some (.slice ua ual uac) /\ w2.cell? ⟨w.heap.size, 3, none⟩ = some (.string ut) /\ w2.cell? ⟨w.heap.size, 4, none⟩ = some (.slice uka ukl ukc)) := ⟨(hb2'.cell (p := ⟨A, 1, none⟩) hAl).trans a1, (hb2'.cell (p := ⟨A, 4, none⟩) hAl).trans a4, (hb2'.cell (p := ⟨w.heap.size, 0, none⟩) hXl).trans x0, (hb2'.cell (p := ⟨w.heap.size, 1, none⟩) hXl).trans x1, (hb2'.cell (p := ⟨w.heap.size, 2, none⟩) hXl).trans x2, (hb2'.cell (p := ⟨w.heap.size, 3, none⟩) hXl).trans x3, (hb2'.cell (p := ⟨w.heap.size, 4, none⟩) hXl).trans x4⟩; clear tok0 _t hb2 hb2' htv hcopy)
      | (go_at_call 16; have _t := tok1; (with_reducible refine hcp.mono ?_); rintro e w3 ⟨rfl, ht3, ro3, hp3, hn3⟩; have HT3 : Hid (Turn (fun b => ro b ≠ 0) w2 w3) := ht3; have HP3 : Hid (PDoc w3 ro3 (w.heap.size + 2) E) := hp3; have HN3 : Hid (∀ b, ro3 b ≠ 0 -> ro b ≠ 0 \/ w2.heap.size <= b) := hn3; have hA3 : w3.heap[A]? = w2.heap[A]? := ht3.block A (Nat.lt_of_lt_of_le hAl HB2.out.size) HNA.out.1; have hX3 : w3.heap[w.heap.size]? = w2.heap[w.heap.size]? := ht3.block w.heap.size (Nat.lt_of_lt_of_le hXl HB2.out.size) HNA.out.2.2; have KS : Hid (w3.cell? ⟨A, 1, none⟩ = some (.int .i64 wh) /\ w3.cell? ⟨A, 4, none⟩ = some (.int .u64 (a' : Int)) /\ w3.cell? ⟨w.heap.size, 0, none⟩ = some (.int .i64 uk) /\ w3.cell? ⟨w.heap.size, 1, none⟩ = some (.string un) /\ w3.cell? ⟨w.heap.size, 2, none⟩ = some (.slice ua ual uac) /\ w3.cell? ⟨w.heap.size, 3, none⟩ = some (.string ut) /\ w3.cell? ⟨w.heap.size, 4, none⟩ = some (.slice uka ukl ukc)) := ⟨(World.cell?_of_block (a := ⟨A, 1, none⟩) hA3).trans KQ.out.1, (World.cell?_of_block (a := ⟨A, 4, none⟩) hA3).trans KQ.out.2.1, (World.cell?_of_block (a := ⟨w.heap.size, 0, none⟩) hX3).trans KQ.out.2.2.1, (World.cell?_of_block (a := ⟨w.heap.size, 1, none⟩) hX3).trans KQ.out.2.2.2.1, (World.cell?_of_block (a := ⟨w.heap.size, 2, none⟩) hX3).trans KQ.out.2.2.2.2.1, (World.cell?_of_block (a := ⟨w.heap.size, 3, none⟩) hX3).trans KQ.out.2.2.2.2.2.1, (World.cell?_of_block (a := ⟨w.heap.size, 4, none⟩) hX3).trans KQ.out.2.2.2.2.2.2⟩; clear tok1 _t ht3 hp3 hn3 hcp hA3 hX3))
    have HH : Hid (Bh w2 w3 ro (w.heap.size + 2) Q (w.heap.size + 3) D E ro3) := HP2.out.bo.half HT3.out HP3.out HN3.out
    have hs2 := HB2.out.size
    have hs3 := HT3.out.size
    have HTR3 : Hid (TreeAt w3 0 w.heap.size m #[.int .i64 uk, .string un, .slice ua ual uac, .string ut, .slice uka ukl ukc] t) := HTRc.out.of_cells (fun b o _ hb => (World.cell?_of_block (w := w2) (a := ⟨b, o, none⟩) (HT3.out.block b (by omega) (fun h => by have := HPR.out.lo b h; omega))).trans (HB2.out.cell (p := ⟨b, o, none⟩) (by show b < _; omega)))
    have hcr := HC18.out w3 HTR3.out HH.out.r
    obtain ⟨s1, s4, y0, y1, y2, y3, y4⟩ := KS.out
    have hA3 : A < w3.heap.size := by omega
    have hX3 : w.heap.size < w3.heap.size := by omega
    clear a1 a4 x0 x1 x2 x3 x4 HC16 HC18 HTRc HXc HAc HTc KQ KS
    go_wp2_with fail
    refine hcr.mono ?_
    rintro e w4 ⟨rfl, ht4, hr4⟩
    have HP4 : Hid (Pr w0 w4 ro3 (w.heap.size + 2) (fun b => Q b \/ (w3.heap.size <= b /\ b < w4.heap.size)) (w.heap.size + 3) E) := HP2.out.put HWE.out HT3.out HP3.out HN3.out ht4 hr4
    have hs4 := ht4.size
    have HTR4 : Hid (TreeAt w4 0 w.heap.size m #[.int .i64 uk, .string un, .slice ua ual uac, .string ut, .slice uka ukl ukc] t) := HTR3.out.of_cells (fun b o _ hb => World.cell?_of_block (w := w3) (a := ⟨b, o, none⟩) (ht4.block b (by omega) (fun h => by omega)))
    have hX4 : w4.heap[w.heap.size]? = w3.heap[w.heap.size]? := ht4.block _ hX3 (fun h => by omega)
    have z0 := (World.cell?_of_block (a := ⟨w.heap.size, 0, none⟩) hX4).trans y0
    have z1 := (World.cell?_of_block (a := ⟨w.heap.size, 1, none⟩) hX4).trans y1
    have z2 := (World.cell?_of_block (a := ⟨w.heap.size, 2, none⟩) hX4).trans y2
    have z3 := (World.cell?_of_block (a := ⟨w.heap.size, 3, none⟩) hX4).trans y3
    have z4 := (World.cell?_of_block (a := ⟨w.heap.size, 4, none⟩) hX4).trans y4
    have hX4l : w.heap.size < w4.heap.size := by omega
    clear hcr ht4 hr4 s1 s4 y0 y1 y2 y3 y4 HTR3 HH HT3 HP3 HN3 HP2 HB2 hX4 hA3 HNA HNR HPc
    by_cases hz : z = 0
    ·subst hz
     have hzz : insE D wh a' m t = 0 := HE.out.2.2.symm
     obtain ⟨⟨s, hs⟩, heq⟩ := ins_same HPR.out.bo.wf hzz
     rw [<- HE.out.1, <- HE.out.2.1] at hs heq
     have HS : Hid (sl E hN = some s) := hs
     have HEQ : Hid (EqT 64 m (subT E 63 hN) t) := heq
     have hsub := psub_some w4 _ _ E hN s HP4.out.bo.p.view HWE.out hs
     obtain ⟨hhl, hh0, ix, hai, hsi, hil⟩ := HWE.out.lt hs
     have HAI : Hid (atI E.S hN = some ix /\ E.S[ix]? = some s) := ⟨hai, hsi⟩
     have HN4 : Hid (∀ b, ro3 b ≠ 0 -> b < w4.heap.size) := PdocLt HP4.out.bo.p
     clear hs heq hzz HE hai hsi hil
     go_wp2_with fail
     refine hsub.mono ?_
     rintro e w5 ⟨v, rfl, htv, hb5⟩
     obtain ⟨kk, nk, ak, alk, ack, tk, kak, klk, kck, rfl⟩ := htv.form
     have hs5 := hb5.size
     have HP5 : Hid (Pr w0 w5 ro3 (w.heap.size + 2) (fun b => Q b \/ (w3.heap.size <= b /\ b < w4.heap.size)) (w.heap.size + 3) E) := HP4.out.below hb5
     have y0 := (hb5.cell (p := ⟨w.heap.size, 0, none⟩) hX4l).trans z0
     have y1 := (hb5.cell (p := ⟨w.heap.size, 1, none⟩) hX4l).trans z1
     have y2 := (hb5.cell (p := ⟨w.heap.size, 2, none⟩) hX4l).trans z2
     have y3 := (hb5.cell (p := ⟨w.heap.size, 3, none⟩) hX4l).trans z3
     have y4 := (hb5.cell (p := ⟨w.heap.size, 4, none⟩) hX4l).trans z4
     have hX5l : w.heap.size < w5.heap.size := by omega
     have hsm := same_eq 64 m (w5.alloc (.cells #[.int .i64 kk, .string nk, .slice ak alk ack, .string tk, .slice kak klk kck] 46)) (Fw w5 w4.heap.size) (fun b => 0 <= b /\ b < w.heap.size) _ _ (subT E 63 hN) t (htv.to (fun _ h => h) (fun b o hb => (below_new' w5 _).cell (p := ⟨b, o, none⟩) hb.2.1)) ((TreeAt.of_cells (w := w4) (fun b o _ hb => ((below_new' w5 _).cell (p := ⟨b, o, none⟩) (by show b < _; omega)).trans (hb5.cell (p := ⟨b, o, none⟩) (by show b < _; omega))) HTR4.out).toR) HEQ.out (fun b hb => by have := hb.2.1; simp; omega) (fun b hb => by have := hb.2; simp; omega)
     clear z0 z1 z2 z3 z4 htv hb5 hsub HP4 HTR4
     go_wp2_with fail
     refine hsm.mono ?_
     rintro e w6 ⟨rfl, hb6⟩
     have hs6 : w5.heap.size + 1 <= w6.heap.size := by have := hb6.size; simpa using this
     have HP6 : Hid (Pr w0 w6 ro3 (w.heap.size + 2) (fun b => Q b \/ (w3.heap.size <= b /\ b < w4.heap.size)) (w.heap.size + 3) E) := (HP5.out.below (below_new' w5 _)).below hb6
     have himg := pimage_any w6 _ _ E HP6.out.bo.p.view HWE.out
     clear hb6 hsm HP5 y0 y1 y2 y3 y4
     go_wp2_with fail
     refine himg.mono ?_
     rintro e w7 ⟨sa, sc, ra, rc, rfl, -, -, hsl, hhl7, hb7⟩
     have hs7 := hb7.size
     obtain ⟨W7, hW7⟩ : ∃ W7, W7 = w7.alloc (.cells #[.slice sa E.S.length sc, .slice ra E.roots.length rc] 25) := ⟨_, rfl⟩
     have hsW : W7.heap.size = w7.heap.size + 1 := by rw [hW7]; simp
     have HP7 : Hid (Pr w0 W7 ro3 (w.heap.size + 2) (fun b => Q b \/ (w3.heap.size <= b /\ b < w4.heap.size)) (w.heap.size + 3) E) := by rw [hW7]; exact (HP6.out.below hb7).below (below_new' w7 _)
     have HI7 : Hid (IsCells W7 w7.heap.size #[.slice sa E.S.length sc, .slice ra E.roots.length rc] /\ SlotsAt W7 (fun b => w4.heap.size <= b /\ b < W7.heap.size) sa E.S /\ HandsAt W7 (fun b => w4.heap.size <= b /\ b < W7.heap.size) ra E.roots) := by
      have hbW : Below w7.heap.size w7 W7 := by rw [hW7]; exact below_new' w7 _
      refine ⟨by rw [hW7]; exact isCells_new _ _ _, ?_, ?_⟩
      ·exact hsl.to (fun b hb => ⟨by have := hb.1; omega, by have := hb.2.1; omega⟩) (fun b o hb => hbW.cell (p := ⟨b, o, none⟩) hb.2.1)
      ·exact hhl7.to (fun b hb => ⟨by have := hb.1; omega, by have := hb.2.1; omega⟩) (fun b o hb => hbW.cell (p := ⟨b, o, none⟩) hb.2.1)
     have hall := pall_some W7 _ _ E hN s HP7.out.bo.p.view HWE.out HS.out
     rw [hW7] at hall
     have HW7 : Hid (W7 = w7.alloc (.cells #[.slice sa E.S.length sc, .slice ra E.roots.length rc] 25)) := hW7
     clear hb7 hsl hhl7 hW7 himg HP6
     go_wp2_with fail
     refine hall.mono ?_
     rw [<- HW7.out]
     rintro e w8 ⟨wa, wcp, rfl, hown8, hb8⟩
     have hs8 := hb8.size
     have HP8 : Hid (Pr w0 w8 ro3 (w.heap.size + 2) (fun b => Q b \/ (w3.heap.size <= b /\ b < w4.heap.size)) (w.heap.size + 3) E) := HP7.out.below hb8
     have HO8 : Hid (HandsAt w8 (fun b => W7.heap.size <= b /\ b < w8.heap.size) wa (allH E hN)) := own_hands hown8
     have HB8 : Hid (Below W7.heap.size W7 w8) := hb8
     have hpar := pparent_some w8 _ _ E hN ix s HP8.out.bo.p.view HWE.out.fits hhl HAI.out.1 HAI.out.2
     clear hall hown8 hb8 HW7 HP7
     go_wp2_with fail
     refine hpar.mono ?_
     rintro e w9 ⟨rfl, hb9⟩
     have hs9 := hb9.size
     have HP9 : Hid (Pr w0 w9 ro3 (w.heap.size + 2) (fun b => Q b \/ (w3.heap.size <= b /\ b < w4.heap.size)) (w.heap.size + 3) E) := HP8.out.below hb9
     have HB9 : Hid (Below w8.heap.size w8 w9) := hb9
     have hrts := proots_any w9 _ _ E HP9.out.bo.p.view (by have := (roots_len HWE.out).1; omega)
     clear hpar hb9 HP8
     go_wp2_with fail
     refine hrts.mono ?_
     rintro e w10 ⟨la0, lc0, rfl, hown10, hb10⟩
     have hs10 := hb10.size
     have HP10 : Hid (Pr w0 w10 ro3 (w.heap.size + 2) (fun b => Q b \/ (w3.heap.size <= b /\ b < w4.heap.size)) (w.heap.size + 3) E) := HP9.out.below hb10
     have HB10 : Hid (Below W7.heap.size W7 w10) := HB8.out.trans ((HB9.out.mono hs8).trans (hb10.mono (by omega)))
     have HBX : Hid (Below w8.heap.size w8 w10) := HB9.out.trans (hb10.mono hs9)
     have HO10 : Hid (HandsAt w10 (fun b => w9.heap.size <= b /\ b < w10.heap.size) la0 E.roots) := own_hands hown10
     clear hrts hown10 hb10 HP9 HB9 HB8
     obtain ⟨p, hp⟩ : ∃ p, p = s.parent := ⟨_, rfl⟩
     rw [<- hp]
     have HPP : Hid (p = s.parent) := hp
     clear hp
     go_upto_if 139 with fail
     go_cut [25] (fun l wx => ∃ la lc, l = .slice la (lst E p).length lc /\ Hid (BkS w0 wx w4.heap.size ro3 (w.heap.size + 2) (fun b => Q b \/ (w3.heap.size <= b /\ b < w4.heap.size)) (w.heap.size + 3) E hN p w7.heap.size wa la))
     case first =>
      by_cases hp0 : p = 0
      ·have hpb : ((p : Int) == 0) = true := by simp [hp0]
       have HK : Hid (BkS w0 w10 w4.heap.size ro3 (w.heap.size + 2) (fun b => Q b \/ (w3.heap.size <= b /\ b < w4.heap.size)) (w.heap.size + 3) E hN p w7.heap.size wa la0) := by
        refine ⟨HP10.out, HN4.out, by omega, ⟨sa, sc, ra, rc, HI7.out.1.of_block (HB10.out.block _ HI7.out.1.lt), HI7.out.2.1.on (Nat.le_refl _) HB10.out, HI7.out.2.2.on (Nat.le_refl _) HB10.out⟩, HO8.out.on (by omega) HBX.out, ?_⟩
        rw [hp0, show lst E 0 = E.roots by simp [lst]]
        exact HO10.out.to (fun b hb => ⟨by have := hb.1; omega, hb.2⟩) (fun _ _ _ => rfl)
       have HL : Hid (lst E p = E.roots) := by rw [hp0]; show lst E 0 = _; simp [lst]
       clear hp0
       go_wp2_with fail
       go_meet
       exact ⟨la0, lc0, by rw [HL.out], HK.out⟩
      ·have hpb : ((p : Int) == 0) = false := by simp; omega
       obtain ⟨q, hq⟩ : ∃ q, sl E p = some q := by
        obtain ⟨lv, hl⟩ := HWE.out.lev
        rcases (dep_par hl HS.out).2 with e | h
        ·exact absurd (HPP.out.trans e) hp0
        ·rw [HPP.out]; exact h
       obtain ⟨hpl, -, ip, hpa, hpi, -⟩ := HWE.out.lt hq
       have hkd := pkids_some w10 _ _ E p ip q HP10.out.bo.p.view HWE.out.fits hpl hpa hpi (by have := (kids_len HWE.out hq).1; omega)
       have HQ : Hid (lst E p = q.kids) := lst_of hq
       clear hp0 hq hpa hpi
       go_wp2_with fail
       refine hkd.mono ?_
       rintro e w11 ⟨la, lc, rfl, hown11, hb11⟩
       have hs11 := hb11.size
       have HK : Hid (BkS w0 w11 w4.heap.size ro3 (w.heap.size + 2) (fun b => Q b \/ (w3.heap.size <= b /\ b < w4.heap.size)) (w.heap.size + 3) E hN p w7.heap.size wa la) := by
        have hbz : Below W7.heap.size W7 w11 := HB10.out.trans (hb11.mono (by omega))
        refine ⟨HP10.out.below hb11, HN4.out, by omega, ⟨sa, sc, ra, rc, HI7.out.1.of_block (hbz.block _ HI7.out.1.lt), HI7.out.2.1.on (Nat.le_refl _) hbz, HI7.out.2.2.on (Nat.le_refl _) hbz⟩, HO8.out.on (by omega) (HBX.out.trans (hb11.mono (by omega))), ?_⟩
        rw [HQ.out]
        exact (own_hands hown11).to (fun b hb => ⟨by have := hb.1; omega, hb.2⟩) (fun _ _ _ => rfl)
       clear hkd hown11 hb11
       go_wp2_with fail
       go_meet
       exact ⟨la, lc, by rw [HQ.out], HK.out⟩
     case rest =>
      obtain ⟨la, lc, rfl, HK⟩ := hcut
      clear HI7 HO8 HO10 HB10 HBX HP10 HN4 HAI HEQ
      obtain ⟨K, -, hK, hKl⟩ := idxH_mem (HWE.out.up hN s HS.out)
      rw [<- HPP.out] at hK hKl
      have hpz : p = 0 \/ ∃ q, sl E p = some q := by
       obtain ⟨lv, hl⟩ := HWE.out.lev
       rw [HPP.out]
       exact (dep_par hl HS.out).2
      have hlen : (lst E p).length <= 4096 := lst_len HWE.out hpz
      have hplt : p < 18446744073709551616 := HWE.out.ltz hpz
      have halen : (allH E hN).length <= 4096 := (kids_len HWE.out HS.out).2
      obtain ⟨E1, hE1⟩ : ∃ E1, E1 = (movD E hN 1 0).1 := ⟨_, rfl⟩
      have HW1 : Hid (WF E1) := by rw [hE1]; exact HWE.out.mov hN 1 0
      have HMA : Hid (movD E hN 1 0 = (E1, 0)) := by
       rw [hE1]
       exact Prod.ext rfl (by rw [mov_away HWE.out HS.out (k := K) (by rw [<- HPP.out]; exact hK)])
      have HM3 : Hid (∀ x, (lst E p)[K + 1]? = some x -> movD E1 hN 3 x = (E, 0)) := fun x hx => by
       rw [hE1]
       exact mov_back HWE.out HS.out (k := K) (by rw [<- HPP.out]; exact hK) (.inl ⟨rfl, by rw [<- HPP.out]; exact hx⟩)
      have HM2 : Hid (¬ K + 1 < (lst E p).length -> movD E1 hN 2 p = (E, 0)) := fun hx => by
       rw [hE1]
       exact mov_back HWE.out HS.out (k := K) (by rw [<- HPP.out]; exact hK) (.inr ⟨rfl, HPP.out, by rw [<- HPP.out]; omega⟩)
      obtain ⟨E', hE'⟩ : ∃ E', E' = (delD E hN).1 := ⟨_, rfl⟩
      have HW' : Hid (WF E') := by rw [hE']; exact HWE.out.del hN
      have HD : Hid (delD E hN = (E', 0)) := by
       rw [hE']
       exact Prod.ext rfl (del_dead HS.out (x := hN) (by rw [allH_step HWE.out HS.out]; simp)).2
      have HDD : Hid (∀ x ∈ allH E hN, sl E' x = none /\ x < 18446744073709551616) := fun x hx => by
       obtain ⟨t, ht⟩ := allH_live HWE.out HS.out x hx
       exact ⟨by rw [hE']; exact (del_dead HS.out hx).1, (HWE.out.lt ht).1⟩
      have HNOD : Hid ((lst E p).Nodup) := HWE.out.nodup p
      have HKX : Hid ((lst E p)[K]? = some hN) := hK
      clear hE1 hE' hK hpz
      go_wp2
      go_loopw [26] (fun iv wr => ∃ j : Nat, j <= K /\ iv = .int .i64 (j : Int) /\ Hid (BkS w0 wr w4.heap.size ro3 (w.heap.size + 2) (fun b => Q b \/ (w3.heap.size <= b /\ b < w4.heap.size)) (w.heap.size + 3) E hN p w7.heap.size wa la)) (fun iv _ => K - (intOf iv).toNat)
      case atStart => exact ⟨0, Nat.zero_le _, rfl, HK⟩
      case round =>
       clear HK
       obtain ⟨j, hj, rfl, HK⟩ := hrel
       by_cases hjK : j < K
       ·obtain ⟨x, hx⟩ : ∃ x, (lst E p)[j]? = some x := ⟨_, List.getElem?_eq_getElem (by omega)⟩
        have hxb : ((x : Int) == (hN : Int)) = false := by
         have : x ≠ hN := fun e => by
          subst e
          have := (List.getElem?_inj (List.getElem?_eq_some_iff.1 hx).1 HNOD.out).1 (hx.trans HKX.out.symm)
          omega
         simp
         omega
        obtain ⟨b, o, rfl, hb, hc⟩ := HK.out.lis j x hx
        have hbl := hb.2
        have hjl : (j : Int) < ((lst E p).length : Int) := by omega
        clear hx hb
        go_wp2
        go_roundw
        case rel => exact ⟨j + 1, by omega, by go_num, HK⟩
        case measure => simp [intOf]; omega
       ·obtain rfl : j = K := by omega
        have hxb : ((hN : Int) == (hN : Int)) = true := by simp
        obtain ⟨b, o, rfl, hb, hc⟩ := HK.out.lis j hN HKX.out
        have hbl := hb.2
        have hjl : (j : Int) < ((lst E p).length : Int) := by omega
        obtain ⟨wL, hwL⟩ : ∃ x, x = wr := ⟨_, rfl⟩
        subst hwL
        clear hb hj hjK
        go_wp2
        go_loopw [27] (fun iv wr => ∃ i : Nat, i <= (allH E hN).length /\ iv = .int .i64 (i : Int) /\ Hid (∃ ro', PE wL ro3 (w.heap.size + 2) E wr ro')) (fun iv _ => (allH E hN).length - (intOf iv).toNat)
        case atStart => exact ⟨0, Nat.zero_le _, rfl, ⟨_, PE.refl HK.out.pr.bo.p (Below.refl _ _)⟩⟩
        case round =>
         clear hc
         obtain ⟨i, hi, rfl, HE3⟩ := hrel
         obtain ⟨ro', hpe⟩ := HE3.out
         have HPE : Hid (PE wL ro3 (w.heap.size + 2) E wr ro') := hpe
         by_cases hlt : i < (allH E hN).length
         ·obtain ⟨x, hx⟩ : ∃ x, (allH E hN)[i]? = some x := ⟨_, List.getElem?_eq_getElem hlt⟩
          obtain ⟨b', o', rfl, hb, hc⟩ := HK.out.hnd hpe HK.out.win i x hx
          have hxm := List.mem_of_getElem? hx
          have hcal : ∀ v : Int, 1 <= v /\ v <= 4 -> Calls Tryz.prog 25 #[.pointer (some ⟨w.heap.size + 2, 0, none⟩), .int .u64 (hN : Int), .int .i64 v, .int .u64 (x : Int)] wr (PPost wr ro' (w.heap.size + 2) E 34) := fun v hv => by
           have := pmov_any wr ro' _ E hN x v hpe.doc HWE.out hhl (HDD.out x hxm).2
           rw [mov_cycle HWE.out HS.out hxm hv] at this
           exact this
          have hbl' : b' < wr.heap.size := Nat.lt_of_lt_of_le hb.2 hpe.turn.size
          clear hx hxm hb hpe HE3
          go_wp2_with fail
          refine (hcal _ (by omega)).mono ?_
          intro e w12 hp
          obtain ⟨rfl, ro12, hpe12⟩ := hp.pe
          have HP12 : Hid (∃ ro', PE wL ro3 (w.heap.size + 2) E w12 ro') := ⟨_, HPE.out.trans hpe12⟩
          clear hp hpe12 hcal hc
          go_wp2
          go_roundw
          case rel => exact ⟨i + 1, by omega, by go_num, HP12⟩
          case measure => simp [intOf]; omega
         ·have hmv : Calls Tryz.prog 25 #[.pointer (some ⟨w.heap.size + 2, 0, none⟩), .int .u64 (hN : Int), .int .i64 1, .int .u64 0] wr (PPost wr ro' (w.heap.size + 2) E1 0) := by
           have := pmov_any wr ro' _ E hN 0 1 hpe.doc HWE.out hhl (by decide)
           rw [HMA.out] at this
           exact this
          clear hpe HE3
          go_wp2_with fail
          refine hmv.mono ?_
          intro e w12 hp
          obtain ⟨rfl, ro12, hpe12⟩ := hp.pe
          have HP12 : Hid (PE wL ro3 (w.heap.size + 2) E1 w12 ro12) := HPE.out.trans hpe12
          clear hp hpe12 hmv
          go_upto_if 185 with fail
          go_cut [28] (fun v wx => v = .int .i64 0 /\ Hid (∃ ro', PE wL ro3 (w.heap.size + 2) E wx ro'))
          case first =>
           by_cases hk1 : j + 1 < (lst E p).length
           ·obtain ⟨x, hx⟩ : ∃ x, (lst E p)[j + 1]? = some x := ⟨_, List.getElem?_eq_getElem hk1⟩
            obtain ⟨b', o', e, hb, hc⟩ := HK.out.hnd HP12.out HK.out.lis (j + 1) x hx
            simp only [Option.some.injEq, Addr.mk.injEq, and_true] at e
            obtain ⟨rfl, rfl⟩ := e
            have hmb : Calls Tryz.prog 25 #[.pointer (some ⟨w.heap.size + 2, 0, none⟩), .int .u64 (hN : Int), .int .i64 3, .int .u64 (x : Int)] w12 (PPost w12 ro12 (w.heap.size + 2) E 0) := by
             obtain ⟨tx, htx⟩ : ∃ tx, sl E x = some tx := by
              obtain ⟨tx, h1, -⟩ := HWE.out.down p (by
               obtain ⟨lv, hl⟩ := HWE.out.lev
               rw [HPP.out]
               exact (dep_par hl HS.out).2) x (List.mem_of_getElem? hx)
              exact ⟨tx, h1⟩
             have := pmov_any w12 ro12 _ E1 hN x 3 HP12.out.doc HW1.out hhl (HWE.out.lt htx).1
             rw [HM3.out x hx] at this
             exact this
            have hbl' : b < w12.heap.size := Nat.lt_of_lt_of_le hb.2 HP12.out.turn.size
            have hjl2 : ((j : Int) + 1) < ((lst E p).length : Int) := by omega
            clear hx hb hk1
            go_wp2_with fail
            refine hmb.mono ?_
            intro e w13 hp
            obtain ⟨rfl, ro13, hpe13⟩ := hp.pe
            have HP13 : Hid (∃ ro', PE wL ro3 (w.heap.size + 2) E w13 ro') := ⟨_, HP12.out.trans hpe13⟩
            clear hp hpe13 hmb hc
            go_wp2_with fail
            go_meet
            exact ⟨rfl, HP13⟩
           ·have hmb : Calls Tryz.prog 25 #[.pointer (some ⟨w.heap.size + 2, 0, none⟩), .int .u64 (hN : Int), .int .i64 2, .int .u64 (p : Int)] w12 (PPost w12 ro12 (w.heap.size + 2) E 0) := by
             have := pmov_any w12 ro12 _ E1 hN p 2 HP12.out.doc HW1.out hhl hplt
             rw [HM2.out hk1] at this
             exact this
            have hjl2 : ¬ ((j : Int) + 1) < ((lst E p).length : Int) := by omega
            clear hk1
            go_wp2_with fail
            refine hmb.mono ?_
            intro e w13 hp
            obtain ⟨rfl, ro13, hpe13⟩ := hp.pe
            have HP13 : Hid (∃ ro', PE wL ro3 (w.heap.size + 2) E w13 ro') := ⟨_, HP12.out.trans hpe13⟩
            clear hp hpe13 hmb
            go_wp2_with fail
            go_meet
            exact ⟨rfl, HP13⟩
          case rest =>
           obtain ⟨rfl, HP13⟩ := hcut
           clear HP12 HMA HM3 HM2 HW1
           obtain ⟨ro13, hpe13⟩ := HP13.out
           have HPd : Hid (PE wL ro3 (w.heap.size + 2) E wc.drew ro13) := hpe13.below (Below.refl _ _).drew
           obtain ⟨sa0, sc0, ra0, rc0, hib, his, hih⟩ := HK.out.img
           have HIB : Hid (∀ (W : World) (ro' : Nat -> Nat) (D' : Dc), PE wL ro3 (w.heap.size + 2) D' W ro' -> W.cell? ⟨w7.heap.size, 0, none⟩ = some (.slice sa0 E.S.length sc0) /\ W.cell? ⟨w7.heap.size, 1, none⟩ = some (.slice ra0 E.roots.length rc0)) := fun W ro' D' h => by
            have := hib.of_block (HK.out.blk h _ HK.out.bx hib.lt)
            exact ⟨this.cell 0, this.cell 1⟩
           have HIM : Hid (∀ (W : World) (ro' : Nat -> Nat) (sa ra : Option Addr) (sc rc : Nat) (R : Nat -> Prop), PE wL ro3 (w.heap.size + 2) E W ro' -> SlotsAt W R sa E.S -> HandsAt W R ra E.roots -> (∀ b, R b -> b < W.heap.size) -> Calls Tryz.prog 26 #[.agg #[.slice sa E.S.length sc, .slice ra E.roots.length rc], .agg #[.slice sa0 E.S.length sc0, .slice ra0 E.roots.length rc0]] W fun e w' => e = .returned (.bool true) /\ Below W.heap.size W w') := fun W ro' sa ra sc rc R h h1 h2 h3 => by
            have hf := HWE.out.fits.len
            have hr := (roots_len HWE.out).1
            refine images_same W R (fun b => w4.heap.size <= b /\ b < wL.heap.size) E sa sa0 ra ra0 sc sc0 rc rc0 h1 (his.to (fun _ h => h) (fun b o hb => World.cell?_of_block (w := wL) (a := ⟨b, o, none⟩) (HK.out.blk h b hb.1 hb.2))) h2 (HK.out.hnd h hih) h3 (fun b hb => Nat.lt_of_lt_of_le hb.2 h.turn.size) (by omega) (by omega) (fun s hs => ?_)
            obtain ⟨i, hi⟩ := List.getElem?_of_mem hs
            have := HWE.out.caps hi
            omega
           have HDL : Hid (∀ (W : World) (ro' : Nat -> Nat), PE wL ro3 (w.heap.size + 2) E W ro' -> Calls Tryz.prog 27 #[.pointer (some ⟨w.heap.size + 2, 0, none⟩), .int .u64 (hN : Int)] W (PPost W ro' (w.heap.size + 2) E' 0)) := fun W ro' h => by
            have := pdel_any W ro' _ E hN h.doc HWE.out hhl
            rw [HD.out] at this
            exact this
           have himg := pimage_any wc.drew _ _ E HPd.out.doc.view HWE.out
           obtain ⟨d0, d1⟩ := HIB.out _ _ _ HPd.out
           have hBl : w7.heap.size < wc.heap.size := Nat.lt_of_lt_of_le hib.lt hpe13.turn.size
           have tok0 : True := trivial
           have tok1 : True := trivial
           have tok2 : True := trivial
           clear hib his hih hpe13 HP13
           go_upto_region 39 with fail
           go_region_held3 (fun W => W.cell? ⟨w7.heap.size, 0, none⟩ = some (.slice sa0 E.S.length sc0) /\ W.cell? ⟨w7.heap.size, 1, none⟩ = some (.slice ra0 E.roots.length rc0))
            (first | exact ⟨d0, d1⟩ | exact KA.out | exact KB.out | exact KC.out | go_keep)
            (first
             | (go_at_call 15; have _t := tok0; (with_reducible refine himg.mono ?_); rintro e w14 ⟨sa, sc, ra, rc, rfl, -, -, hsl, hhd, hb14⟩; have HP14 : Hid (PE wL ro3 (w.heap.size + 2) E w14 ro13) := HPd.out.below hb14; have KA : Hid (w14.cell? ⟨w7.heap.size, 0, none⟩ = some (.slice sa0 E.S.length sc0) /\ w14.cell? ⟨w7.heap.size, 1, none⟩ = some (.slice ra0 E.roots.length rc0)) := HIB.out _ _ _ HP14.out; have hims := HIM.out w14 ro13 sa ra sc rc _ HP14.out hsl hhd (fun b hb => hb.2.1); clear tok0 _t hsl hhd hb14 himg)
             | (go_at_call 26; have _t := tok1; (with_reducible refine hims.mono ?_); rintro e w15 ⟨rfl, hb15⟩; have HP15 : Hid (PE wL ro3 (w.heap.size + 2) E w15 ro13) := HP14.out.below hb15; have KB : Hid (w15.cell? ⟨w7.heap.size, 0, none⟩ = some (.slice sa0 E.S.length sc0) /\ w15.cell? ⟨w7.heap.size, 1, none⟩ = some (.slice ra0 E.roots.length rc0)) := HIB.out _ _ _ HP15.out; have hdl := HDL.out w15 ro13 HP15.out; clear tok1 _t hb15 hims)
             | (go_at_call 27; have _t := tok2; (with_reducible refine hdl.mono ?_); intro e w16 hp; obtain ⟨rfl, ro16, hpe16⟩ := hp.pe; have HP16 : Hid (PE wL ro3 (w.heap.size + 2) E' w16 ro16) := HP15.out.trans hpe16; have KC : Hid (w16.cell? ⟨w7.heap.size, 0, none⟩ = some (.slice sa0 E.S.length sc0) /\ w16.cell? ⟨w7.heap.size, 1, none⟩ = some (.slice ra0 E.roots.length rc0)) := HIB.out _ _ _ HP16.out; clear tok2 _t hp hpe16 hdl))
           clear KA KB KC HIB HIM HDL HPd d0 d1 HP14 HP15
           go_wp2
           go_loopw [29] (fun iv wr => ∃ i : Nat, i <= (allH E hN).length /\ iv = .int .i64 (i : Int) /\ Hid (∃ ro', PE wL ro3 (w.heap.size + 2) E' wr ro')) (fun iv _ => (allH E hN).length - (intOf iv).toNat)
           case atStart => exact ⟨0, Nat.zero_le _, rfl, ⟨_, HP16.out⟩⟩
           case round =>
            clear HP16
            obtain ⟨i, hi, rfl, HE4⟩ := hrel
            obtain ⟨ro', hpe⟩ := HE4.out
            have HPF : Hid (PE wL ro3 (w.heap.size + 2) E' wr ro') := hpe
            by_cases hlt : i < (allH E hN).length
            ·obtain ⟨x, hx⟩ : ∃ x, (allH E hN)[i]? = some x := ⟨_, List.getElem?_eq_getElem hlt⟩
             obtain ⟨b', o', rfl, hb, hc⟩ := HK.out.hnd hpe HK.out.win i x hx
             have hxd := HDD.out x (List.mem_of_getElem? hx)
             have hgt := pget_none wr _ _ E' x hpe.doc.view HW'.out.fits hxd.2 (sl_none hxd.1)
             have hbl' : b' < wr.heap.size := Nat.lt_of_lt_of_le hb.2 hpe.turn.size
             unfold tv at hgt
             clear hx hxd hb hpe HE4
             go_wp2_with fail
             refine hgt.mono ?_
             rintro e w17 ⟨rfl, hb17⟩
             have HP17 : Hid (∃ ro', PE wL ro3 (w.heap.size + 2) E' (w17.alloc (.cells #[.int .i64 0, .string ⟨#[]⟩, .slice none 0 0, .string ⟨#[]⟩, .slice none 0 0] 46)) ro') := ⟨_, (HPF.out.below hb17).below (below_new' w17 _)⟩
             clear hb17 hgt hc
             go_wp2
             go_roundw
             case rel => exact ⟨i + 1, by omega, by go_num, HP17⟩
             case measure => simp [intOf]; omega
            ·have hdl := rdel_any wr _ _ E hN (HK.out.rd hpe) HWE.out hhl
             rw [HD.out] at hdl
             clear hpe HE4
             go_wp2_with fail
             refine hdl.mono ?_
             rintro e w18 ⟨rfl, ht18, hr18⟩
             have HP18 : Hid (Pr w0 w18 ro' (w.heap.size + 2) _ (w.heap.size + 3) E') := HK.out.pr.put HW'.out HPF.out.turn HPF.out.doc HPF.out.from' ht18 hr18
             have ht9 := tells_any w18 _ _ _ _ _ HP18.out.bo
             clear ht18 hr18 hdl
             go_wp2_with fail
             refine ht9.mono ?_
             rintro e w19 ⟨rfl, hb19⟩
             have HB19 : Hid (Below w.heap.size w w19) := HB0.out.trans ((HP18.out.bel.mono (by omega)).trans (hb19.mono (by have := HP18.out.bel.size; omega)))
             clear hb19 ht9
             go_wp2
             go_ret
             exact ⟨rfl, HB19.out⟩
    ·have hzb : (z == 0) = false := by simp [hz]
     obtain rfl : hN = 0 := by
      rw [HE.out.2.1]
      unfold insD
      rw [if_neg (by rw [<- HE.out.2.2]; exact hz)]
     clear hz z0 z1 z2 z3 z4 HTR4 HE HWE
     have hone : Calls Tryz.prog 16 #[.pointer (some ⟨w4.heap.size, 0, none⟩), .int .i64 2, .int .u64 0, .agg #[.int .i64 2, .string ⟨#[]⟩, .slice none 0 0, .string ⟨#[]⟩, .slice none 0 0]] (w4.alloc (.cells #[.slice none 0 0, .slice none 0 0, .int .i64 0] 36)) (fun e w' => e = .returned (.tuple #[.int .u64 4294967297, .int .i64 0]) /\ Below w4.heap.size w4 w') := by
      refine Calls.mono (pins_any 1 (w4.alloc (.cells #[.slice none 0 0, .slice none 0 0, .int .i64 0] 36)) _ txT 0 0 (fun b => if b = w4.heap.size then 1 else 0) w4.heap.size 0 2 D0 (txT_at _ _ _) (Nat.zero_le _) (fun b _ h => by omega) (pdoc_new w4) wf_D0 (by decide)) ?_
      rintro e w' ⟨rfl, ht, -⟩
      rw [tx_ins.1, tx_ins.2]
      refine ⟨rfl, (below_new' w4 _).trans (ht.below (by simp) (fun b hb => ?_))⟩
      by_cases e : b = w4.heap.size
      ·omega
      ·simp [e] at hb
     go_wp2_with fail
     refine hone.mono ?_
     rintro e w5 ⟨rfl, hb5⟩
     have HP5 : Hid (Pr w0 w5 ro3 (w.heap.size + 2) (fun b => Q b \/ (w3.heap.size <= b /\ b < w4.heap.size)) (w.heap.size + 3) E) := HP4.out.below hb5
     have ht5 := tells_any w5 _ _ _ _ _ HP5.out.bo
     clear hb5 hone HP4
     go_wp2_with fail
     refine ht5.mono ?_
     rintro e w6 ⟨rfl, hb6⟩
     have HB6 : Hid (Below w.heap.size w w6) := HB0.out.trans ((HP5.out.bel.mono (by omega)).trans (hb6.mono (by have := HP5.out.bel.size; omega)))
     clear hb6 ht5
     go_wp2
     go_ret
     exact ⟨rfl, HB6.out⟩
end Go.Proofs.YtnhajpeijkbbeaaGreat
