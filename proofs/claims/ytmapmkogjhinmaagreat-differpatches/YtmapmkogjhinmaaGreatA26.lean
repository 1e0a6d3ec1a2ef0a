/- What both Patches answer, in one form; trees in memory of their own are trees in memory. -/
import Derived.Test.YtmapmkogjhinmaaGreatA25
import Derived.Test.YtmapmkogjhinmaaGreatA12
import Derived.Test.YtmapmkogjhinmaaGreatA19
import Derived.Test.YtmapmkogjhinmaaGreatA07
import Derived.Deep.RegionLaw
import Derived.Deep.DeepCutAuto
import Derived.Test.YtmapmkogjhinmaaGreatA22
namespace Go.Proofs.YtmapmkogjhinmaaGreat
open Go.RowKit
set_option maxRecDepth 100000
set_option maxHeartbeats 4000000
set_option linter.unusedVariables false
set_option linter.unusedSimpArgs false
theorem TreeS.toR {w : World} : ∀ {n : Nat} {R : Nat -> Prop} {v : Array Value} {t : T n}, TreeS w n R v t -> TreeR w R n v t
 | 0, _, _, _, h => h.elim
 | n + 1, R, v, t, h => by
  obtain ⟨a, ac, ka, kc, xs, Rf, rfl, l1, l2, o4, o5, f6, f7, f8, f9⟩ := h
  obtain ⟨r1, -, r3⟩ := attrs_row o4 rfl
  obtain ⟨s1, s2, s3⟩ := row_cell o5
  obtain ⟨g1, g2, Rk, g3, g4, g5⟩ := f6
  refine ⟨a, ac, ka, kc, rfl, by unfold maxA; omega, by unfold maxK; omega, r3, s1, r1.to (fun b hb => (f8 b hb.1).1) (fun _ _ _ => rfl), fun i k hk => ?_⟩
  obtain ⟨u, u1, u2, u3⟩ := g3 i k hk
  have hlt := (List.getElem?_eq_some_iff.1 hk).1
  have hj : ∀ j, j < 5 -> ∃ g, ka = some ⟨g, 0, none⟩ /\ w.cell? ⟨g, i * 5 + j, none⟩ = u[j]? := fun j hj => by
   have hu := u2 j hj
   rw [Array.getElem?_eq_getElem (by omega)] at hu
   obtain ⟨g, e1, e2, e3, e4⟩ := s3 _ _ hu
   exact ⟨g, e1, by rw [e4, Array.getElem?_eq_getElem (by omega)]⟩
  obtain ⟨g, rfl, _⟩ := hj 0 (by omega)
  refine ⟨g, 0, u, rfl, (f9 g rfl).1, u1, fun j hj' => ?_, (TreeS.toR u3).to (fun b hb => f7 b (g4 i b hlt hb)) (fun _ _ _ => rfl)⟩
  obtain ⟨g', e1, e4⟩ := hj j hj'
  cases e1
  rw [Nat.zero_add, e4]
theorem ForS.toR {w : World} {n base : Nat} {R : Nat -> Prop} {xs : List Value} {L : List (T n)} {a : Option Addr} {c : Nat} (h : ForS (TreeS w n) R xs L) (ho : w.ownsRow base 35 5 (.slice a L.length c) L.length xs) : ForR w (fun b => R b \/ (Value.slice a L.length c).ownBlock = some b) n a L := by
 obtain ⟨g1, g2, Rk, g3, g4, g5⟩ := h
 obtain ⟨s1, s2, s3⟩ := row_cell ho
 intro i k hk
 obtain ⟨u, u1, u2, u3⟩ := g3 i k hk
 have hlt := (List.getElem?_eq_some_iff.1 hk).1
 have hj : ∀ j, j < 5 -> ∃ g, a = some ⟨g, 0, none⟩ /\ w.cell? ⟨g, i * 5 + j, none⟩ = u[j]? := fun j hj => by
  have hu := u2 j hj
  rw [Array.getElem?_eq_getElem (by omega)] at hu
  obtain ⟨g, e1, e2, e3, e4⟩ := s3 _ _ hu
  exact ⟨g, e1, by rw [e4, Array.getElem?_eq_getElem (by omega)]⟩
 obtain ⟨g, rfl, _⟩ := hj 0 (by omega)
 refine ⟨g, 0, u, rfl, .inr rfl, u1, fun j hj' => ?_, (TreeS.toR u3).to (fun b hb => .inl (g4 i b hlt hb)) (fun _ _ _ => rfl)⟩
 obtain ⟨g', e1, e4⟩ := hj j hj'
 cases e1
 rw [Nat.zero_add, e4]
theorem KidsAt.toF {w : World} {lo hi n : Nat} {a : Option Addr} {L : List (T n)} (h : KidsAt w lo hi n a L) : ForR w (fun b => lo <= b /\ b < hi) n a L := by
 intro i k hk
 obtain ⟨b, o, u, g1, g2, g3, g4, g5, g6⟩ := h i k hk
 exact ⟨b, o, u, g1, ⟨g2, g3⟩, g4, g5, g6.toR⟩
def ansF {n : Nat} (L : List (T n)) (l : List OpP) : List (T 64) := if resE L l = none then outF L l else []
def ansK {n : Nat} (L : List (T n)) (l : List OpP) : Nat := match resE L l with | some p => p.1 | none => 0
def ansZ {n : Nat} (L : List (T n)) (l : List OpP) : Int := match resE L l with | some p => p.2 | none => 0
theorem ans_len {n : Nat} (L : List (T n)) (l : List OpP) : (ansF L l).length <= 4096 := by
 unfold ansF
 split
 ·unfold outF
  rw [List.length_map]
  exact (roots_len ((wf_doc L L.length).st l l.length)).1
 ·simp
theorem PatP.all {n : Nat} {w : World} {L : List (T n)} {l : List OpP} {e : Ending} {w' : World} (h : PatP w L l e w') : Below w.heap.size w w' /\ ∃ (a : Option Addr) (cap : Nat) (xs : List Value) (R : Nat -> Prop), e = .returned (.tuple #[.slice a (ansF L l).length cap, .int .i64 (ansK L l : Int), .int .i64 (ansZ L l)]) /\
  w'.ownsRow w.heap.size 35 5 (.slice a (ansF L l).length cap) (ansF L l).length xs /\ ForS (TreeS w' 64) R xs (ansF L l) /\ ∀ b, R b -> w.heap.size <= b /\ b < w'.heap.size /\ (Value.slice a (ansF L l).length cap).ownBlock ≠ some b := by
 obtain ⟨hb, ⟨k, z, h1, h2⟩ | ⟨h1, a, cap, xs, R, h2, h3, h4, h5⟩⟩ := h
 ·refine ⟨hb, none, 0, [], fun _ => False, ?_, ?_, ?_, fun b hb => hb.elim⟩
  ·simp [ansF, ansK, ansZ, h1, h2]
  ·simp only [ansF, h1]
   exact own_nil _ _ _ _
  ·simp only [ansF, h1]
   exact ForS.nil _ _
 ·refine ⟨hb, a, cap, xs, R, ?_, ?_, ?_, ?_⟩
  ·simp [ansF, ansK, ansZ, h1, h2]
  ·simpa only [ansF, h1, if_true] using h3
  ·simpa only [ansF, h1, if_true] using h4
  ·simpa only [ansF, h1, if_true] using h5
theorem RpaP.all {n : Nat} {w : World} {L : List (T n)} {l : List OpP} {e : Ending} {w' : World} (h : RpaP w L l e w') : Below w.heap.size w w' /\ ∃ (a : Option Addr) (cap : Nat) (R : Nat -> Prop), e = .returned (.tuple #[.slice a (ansF L l).length cap, .int .i64 (ansK L l : Int), .int .i64 (ansZ L l)]) /\
  ForR w' R 64 a (ansF L l) /\ ∀ b, R b -> b < w'.heap.size := by
 obtain ⟨hb, ⟨k, z, h1, h2⟩ | ⟨h1, a, cap, R, h2, h3, h4⟩⟩ := h
 ·refine ⟨hb, none, 0, fun _ => False, ?_, ?_, fun b hb => hb.elim⟩
  ·simp [ansF, ansK, ansZ, h1, h2]
  ·simp only [ansF, h1]
   intro i k hk
   simp at hk
 ·refine ⟨hb, a, cap, R, ?_, ?_, h4⟩
  ·simp [ansF, ansK, ansZ, h1, h2]
  ·simpa only [ansF, h1, if_true] using h3
theorem OpsAt.of_cells {w w' : World} {lo hi : Nat} {a : Option Addr} {l : List OpP} (h : OpsAt w lo hi a l) (hc : ∀ b o, lo <= b -> b < hi -> w'.cell? ⟨b, o, none⟩ = w.cell? ⟨b, o, none⟩) : OpsAt w' lo hi a l := by
 intro i x hx
 obtain ⟨b, o, h1, h2, h3, h4, h5, tk, tn, aa, al, ac, tt, ka, kl, kc, h6, h7⟩ := h i x hx
 exact ⟨b, o, h1, h2, h3, h4, h5, tk, tn, aa, al, ac, tt, ka, kl, kc, fun j hj => (hc _ _ h2 h3).trans (h6 j hj), h7.of_cells hc⟩
theorem OpsAt.turn {w w' : World} {lo hi : Nat} {a : Option Addr} {l : List OpP} {A : Nat -> Prop} (h : OpsAt w lo hi a l) (ht : Turn A w w') (hs : hi <= w.heap.size) (hA : ∀ k, lo <= k -> k < hi -> ¬ A k) : OpsAt w' lo hi a l :=
 h.of_cells (fun b o hb1 hb2 => World.cell?_of_block (w := w) (a := ⟨b, o, none⟩) (ht.block b (by omega) (hA b hb1 hb2)))
theorem OpsAt.mono {w : World} {lo hi lo' hi' : Nat} {a : Option Addr} {l : List OpP} (h : OpsAt w lo hi a l) (h1 : lo' <= lo) (h2 : hi <= hi') : OpsAt w lo' hi' a l := by
 intro i x hx
 obtain ⟨b, o, g1, g2, g3, h4, h5, tk, tn, aa, al, ac, tt, ka, kl, kc, h6, h7⟩ := h i x hx
 exact ⟨b, o, g1, by omega, by omega, h4, h5, tk, tn, aa, al, ac, tt, ka, kl, kc, h6, h7.mono h1 h2⟩
def CpyAll (n : Nat) : Prop := ∀ (w : World) (lo : Nat) (ka : Option Addr) (L : List (T n)) (cap : Nat), KidsAt w lo w.heap.size n ka L -> L.length <= maxK ->
 Calls Tryz.prog 4 #[.slice ka L.length cap] w fun e w' => ∃ a' cap', e = .returned (.slice a' L.length cap') /\ KidsAt w' w.heap.size w'.heap.size n a' L /\ L.length <= cap' /\ Below w.heap.size w w'
theorem KidsAt.mono {w : World} {lo hi lo' hi' n : Nat} {ka : Option Addr} {L : List (T n)} (h : KidsAt w lo hi n ka L) (h1 : lo' <= lo) (h2 : hi <= hi') : KidsAt w lo' hi' n ka L := fun i k hk => by
 obtain ⟨b, o, u, g1, g2, g3, g4, g5, g6⟩ := h i k hk
 exact ⟨b, o, u, g1, by omega, by omega, g4, g5, g6.mono h1 h2⟩
theorem tree_copied {wr w3 w4 w5 w6 : World} {m : Nat} {k : T (m + 1)} {a1 a5 : Option Addr} {cap1 cap5 : Nat} {v2 v4 : Value} (hown : w3.ownsRow (wr.heap.size + 1) 52 2 (.slice a1 k.attrs.length cap1) k.attrs.length (attrCells k.attrs)) (hw4 : w4 = w3.setCell ⟨wr.heap.size, 2, none⟩ v2)
  (hk : KidsAt w5 w4.heap.size w5.heap.size m a5 k.kids) (hb : Below w4.heap.size w4 w5) (hw6 : w6 = w5.setCell ⟨wr.heap.size, 4, none⟩ v4) (hs : wr.heap.size + 1 <= w3.heap.size) (hal : k.attrs.length <= maxA) (hkl : k.kids.length <= maxK) (hc5 : k.kids.length <= cap5) :
  TreeAt w6 wr.heap.size w6.heap.size (m + 1) #[.int .i64 k.kind, .string k.name, .slice a1 k.attrs.length cap1, .string k.text, .slice a5 k.kids.length cap5] k := by
 have hs4 : w4.heap.size = w3.heap.size := by rw [hw4]; simp [World.setCell]
 have hs6 : w6.heap.size = w5.heap.size := by rw [hw6]; simp [World.setCell]
 have hs5 := hb.size
 have f4 : ∀ b o, b ≠ wr.heap.size -> w4.cell? ⟨b, o, none⟩ = w3.cell? ⟨b, o, none⟩ := fun b o h => by rw [hw4]; exact World.cell?_of_block (w := w3) (a := ⟨b, o, none⟩) (Below.heap_setCell _ _ _ _ h)
 have f6 : ∀ b o, b ≠ wr.heap.size -> w6.cell? ⟨b, o, none⟩ = w5.cell? ⟨b, o, none⟩ := fun b o h => by rw [hw6]; exact World.cell?_of_block (w := w5) (a := ⟨b, o, none⟩) (Below.heap_setCell _ _ _ _ h)
 obtain ⟨h1, h2, h3⟩ := attrs_row hown rfl
 refine ⟨a1, cap1, a5, cap5, rfl, hal, hkl, h3, hc5, (h1.to (R' := fun b => wr.heap.size <= b /\ b < w6.heap.size) (fun b hb' => ⟨by omega, by omega⟩) (fun b o hb' => ?_)).toAt, ?_⟩
 ·rw [f6 b o (by omega), hb.cell (p := ⟨b, o, none⟩) (by show b < _; omega), f4 b o (by omega)]
 ·exact (KidsAt.of_cells hk (fun b o hb1 hb2 => f6 b o (by omega))).mono (by omega) (by omega)
theorem cpy_n (n : Nat) (ih : ∀ m, n = m + 1 -> CpyAll m) : CpyAll n := by
 intro w lo ka L cap hk hl
 have HK : Hid (KidsAt w lo w.heap.size n ka L) := hk
 have HIH : Hid (∀ m, n = m + 1 -> CpyAll m) := ih
 unfold maxK at hl
 clear hk ih
 have tok1 : True := trivial
 obtain ⟨iT, hiT0, hiT1, hiT2, hiT3⟩ := info25.parts
 go_enter Tryz.func4, Tryz.ntmps4
 go_wp2_with (at_make; have _t := tok1; refine wpList_make_own _ rfl _ _ 22 rfl w.heap.size 35 iT _ 5 Tryz.underlying22 hiT0 hiT1 hiT2 .i64 .i64 _ (L.length + 2) rfl rfl (by first | rfl | simp | omega) (by rw [hiT3]; omega) (by unfold maxLen; omega) (Nat.le_refl _) ?_; intro w1 hown1 hg1; have HST : Hid (OutSt w w1 n ([] : List (T n)) 0 (some ⟨w.heap.size, 0, none⟩) (L.length + 2) []) := OutSt.made hown1 ((Below.refl _ w).grown hg1 (Nat.le_refl _) (fun k hk => by cases hk)); clear hown1 hg1 tok1 _t hiT0 hiT1 hiT2 hiT3)
 go_loopw [3, 4] (fun lv v wr => ∃ (i : Nat) (la : Option Addr) (lcap : Nat) (xs : List Value), i <= L.length /\ v = .int .i64 (i : Int) /\ lv = .slice la i lcap /\ Hid (OutSt w wr n (L.take i) i la lcap xs)) (fun _ v _ => L.length - (intOf v).toNat)
 case atStart => exact ⟨0, _, _, _, Nat.zero_le _, rfl, rfl, HST⟩
 case round =>
  obtain ⟨i, la, lcap, xs, hi, rfl, rfl, hst⟩ := hrel
  clear HST
  have hbs := hst.out.bel.size
  by_cases hlt : i < L.length
  ·have t1 : (i : Int) < (L.length : Int) := by omega
   have t0 : (0 : Int) <= (i : Int) := by omega
   obtain ⟨k, hk⟩ : ∃ k, L[i]? = some k := ⟨_, List.getElem?_eq_getElem hlt⟩
   obtain ⟨b, o, kk, nm, aa, al, ac, tx, kA, kl, kc, rfl, -, hbl, c0, c1, c2, c3, c4, hT⟩ := (HK.out.after hst.out.bel).get hk
   obtain ⟨m, rfl⟩ : ∃ m, n = m + 1 := by
    cases n with
    | zero => exact hT.elim
    | succ m => exact ⟨m, rfl⟩
   obtain ⟨aa', ac', kA', kc', he, hal, hkl, hac, hkc, hat, hkd⟩ := id hT
   simp only [tv, Array.mk.injEq, List.cons.injEq, Value.int.injEq, Value.string.injEq, Value.slice.injEq, true_and, and_true] at he
   obtain ⟨rfl, rfl, ⟨rfl, rfl, rfl⟩, rfl, rfl, rfl, rfl⟩ := he
   unfold maxA at hal
   have hkl2 : k.kids.length <= 1599289640401 := hkl
   obtain ⟨wA, hwA⟩ : ∃ wA, wA = wr.alloc (.cells #[.int .i64 k.kind, .string k.name, .slice aa k.attrs.length ac, .string k.text, .slice kA k.kids.length kc] 35) := ⟨_, rfl⟩
   have hsA : wA.heap.size = wr.heap.size + 1 := by rw [hwA]; simp
   have hbA : Below wr.heap.size wr wA := by rw [hwA]; exact (Below.refl _ _).alloc (Nat.le_refl _) _
   have hbox : IsCells wA wr.heap.size #[.int .i64 k.kind, .string k.name, .slice aa k.attrs.length ac, .string k.text, .slice kA k.kids.length kc] := by rw [hwA]; exact isCells_new wr _ 35
   have HWA : Hid (wA = wr.alloc (.cells #[.int .i64 k.kind, .string k.name, .slice aa k.attrs.length ac, .string k.text, .slice kA k.kids.length kc] 35)) := hwA
   have HSA : Hid (wA.heap.size = wr.heap.size + 1) := hsA
   have HBA : Hid (Below wr.heap.size wr wA) := hbA
   have HBX : Hid (IsCells wA wr.heap.size #[.int .i64 k.kind, .string k.name, .slice aa k.attrs.length ac, .string k.text, .slice kA k.kids.length kc]) := hbox
   have HAT : Hid (AttrsAt wr lo wr.heap.size aa k.attrs) := hat
   have HKD : Hid (KidsAt wr lo wr.heap.size m kA k.kids) := hkd
   have HTK : Hid (L.take (i + 1) = L.take i ++ [k]) := take_more hk
   have d0 : wA.cell? ⟨wr.heap.size, 0, none⟩ = some (.int .i64 k.kind) := hbox.cell 0
   have d1 : wA.cell? ⟨wr.heap.size, 1, none⟩ = some (.string k.name) := hbox.cell 1
   have d2 : wA.cell? ⟨wr.heap.size, 2, none⟩ = some (.slice aa k.attrs.length ac) := hbox.cell 2
   have d3 : wA.cell? ⟨wr.heap.size, 3, none⟩ = some (.string k.text) := hbox.cell 3
   have d4 : wA.cell? ⟨wr.heap.size, 4, none⟩ = some (.slice kA k.kids.length kc) := hbox.cell 4
   have df := hbox.frozen
   clear hwA hsA hbA hbox hat hkd hk hT
   go_upto_region 6 with fail
   rw [<- HWA.out]
   clear HWA c0 c1 c2 c3 c4
   have HN : Hid (∀ W, Below wr.heap.size wr W -> ∀ j u, (attrCells k.attrs)[j]? = some u -> ∃ ad, aa = some ad /\ W.cell? (ad.add j) = some u) := fun W hW => (HAT.out.of_cells (fun b o _ hb => hW.cell (p := ⟨b, o, none⟩) hb)).news
   have hal1 : (k.attrs.length : Int) <= 4398046511104 := by omega
   have hwr : IntKind.i64.wrap ((k.attrs.length : Int) + 1) = (k.attrs.length : Int) + 1 := by rw [IntKind.wrap_i64]; omega
   obtain ⟨iA, hiA0, hiA1, hiA2, hiA3⟩ := info40.parts
   obtain ⟨w2, hmk, hown2, hg2⟩ := run_make_own (P := Tryz.prog) wA.drew (wr.heap.size + 1) 33 52 iA _ 2 Tryz.underlying33 hiA0 hiA1 hiA2 .i64 .i64 (k.attrs.length + 1) (by rw [hiA3]; omega) (by unfold maxLen; omega) (by have := HSA.out; simp; omega)
   have hdz : wA.drew.heap.size = wr.heap.size + 1 := HSA.out
   rw [show ((k.attrs.length + 1 : Nat) : Int) = (k.attrs.length : Int) + 1 from by omega, hdz] at hmk
   rw [hdz] at hown2
   have HO2 : Hid (w2.ownsRow (wr.heap.size + 1) 52 2 (.slice (some ⟨wr.heap.size + 1, 0, none⟩) 0 (k.attrs.length + 1)) 0 []) := hown2
   have HB2 : Hid (Below wr.heap.size wr w2) := (HBA.out.drew).grown hg2 (by omega) (fun k hk => by cases hk)
   have HX2 : Hid (IsCells w2 wr.heap.size #[.int .i64 k.kind, .string k.name, .slice aa k.attrs.length ac, .string k.text, .slice kA k.kids.length kc]) := HBX.out.of_block (hg2.block _ (by omega) (fun e => by cases e))
   have hc2 : w2.cell? ⟨wr.heap.size, 2, none⟩ = some (.slice aa k.attrs.length ac) := HX2.out.cell 2
   have HS2 : Hid (wr.heap.size + 1 <= w2.heap.size) := by have := hg2.size; rw [hdz] at this; exact this
   clear hown2 hg2 hiA0 hiA1 hiA2 hiA3 hdz
   have tok3 : True := trivial
   clear d0 d1 d3 d4
   go_region_law (first
     | (have _t := tok3; refine step_app (by rfl) _ _ (by rfl) Tryz.underlying33 info40 rfl (by decide) (wr.heap.size + 1) _ 0 [] (by rfl) HO2.out aa k.attrs.length ac (attrCells k.attrs) (by rfl) (attrCells_length _) (HN.out w2 HB2.out) (attrCells_one _) (by unfold maxLen; omega) (by omega) HS2.out ?_; intro v3 w3 hown3 hg3 _ hat3; obtain ⟨va3, vc3, hv3⟩ := own_slice hown3; subst hv3; rw [Nat.zero_add, List.nil_append] at hown3; rw [Nat.zero_add]; have HO3 : Hid (w3.ownsRow (wr.heap.size + 1) 52 2 (.slice va3 k.attrs.length vc3) k.attrs.length (attrCells k.attrs)) := hown3; have HB3 : Hid (Below wr.heap.size wr w3) := HB2.out.grown hg3 (by have := HS2.out; omega) (fun j hj => by have := (own_block_lt HO2.out j hj).1; omega); have HX3 : Hid (IsCells w3 wr.heap.size #[.int .i64 k.kind, .string k.name, .slice aa k.attrs.length ac, .string k.text, .slice kA k.kids.length kc]) := HX2.out.of_block (hg3.block _ (by have := HS2.out; omega) (fun e => by have := (own_block_lt HO2.out _ e.symm).1; omega)); have HS3 : Hid (wr.heap.size + 1 <= w3.heap.size) := Nat.le_trans HS2.out hg3.size; have hc3 : w3.cell? ⟨wr.heap.size, 2, none⟩ = some (.slice aa k.attrs.length ac) := HX3.out.cell 2; have hf3 : w3.frozen? ⟨wr.heap.size, 2, none⟩ = false := HX3.out.frozen 2; clear hown3 hg3 hat3 tok3 _t))
   all_goals
    obtain ⟨w4, hw4⟩ : ∃ w4, w4 = w3.setCell ⟨wr.heap.size, 2, none⟩ (.slice va3 k.attrs.length vc3) := ⟨_, rfl⟩
    have HB4 : Hid (Below wr.heap.size wr w4) := by rw [hw4]; exact HB3.out.setCell (p := ⟨wr.heap.size, 2, none⟩) (Nat.le_refl _) _
    have hx4 : IsCells w4 wr.heap.size #[.int .i64 k.kind, .string k.name, .slice va3 k.attrs.length vc3, .string k.text, .slice kA k.kids.length kc] := by rw [hw4]; exact HX3.out.set 2 _
    have hs4 : wr.heap.size < w4.heap.size := hx4.lt
    have e4 : w4.cell? ⟨wr.heap.size, 4, none⟩ = some (.slice kA k.kids.length kc) := hx4.cell 4
    have hcall := HIH.out m rfl w4 lo kA k.kids kc (HKD.out.after HB4.out) hkl
    have HW4 : Hid (w4 = w3.setCell ⟨wr.heap.size, 2, none⟩ (.slice va3 k.attrs.length vc3)) := hw4
    have HX4 : Hid (IsCells w4 wr.heap.size #[.int .i64 k.kind, .string k.name, .slice va3 k.attrs.length vc3, .string k.text, .slice kA k.kids.length kc]) := hx4
    rw [<- hw4]
    clear hw4 hx4 hmk hc2 hc3 hf3 d2 df
    go_wp2_with fail
    refine hcall.mono ?_
    rintro e w5 ⟨a5, cap5, rfl, hk5, hc5, hb5⟩
    have hx5 : IsCells w5 wr.heap.size #[.int .i64 k.kind, .string k.name, .slice va3 k.attrs.length vc3, .string k.text, .slice kA k.kids.length kc] := HX4.out.of_block (hb5.block _ hs4)
    have g4 : w5.cell? ⟨wr.heap.size, 4, none⟩ = some (.slice kA k.kids.length kc) := hx5.cell 4
    have gf : w5.frozen? ⟨wr.heap.size, 4, none⟩ = false := hx5.frozen 4
    obtain ⟨w6, hw6⟩ : ∃ w6, w6 = w5.setCell ⟨wr.heap.size, 4, none⟩ (.slice a5 k.kids.length cap5) := ⟨_, rfl⟩
    have hx6 : IsCells w6 wr.heap.size #[.int .i64 k.kind, .string k.name, .slice va3 k.attrs.length vc3, .string k.text, .slice a5 k.kids.length cap5] := by rw [hw6]; exact hx5.set 4 _
    have HB6 : Hid (Below wr.heap.size wr w6) := by rw [hw6]; exact (HB4.out.trans (hb5.mono (Nat.le_of_lt hs4))).setCell (p := ⟨wr.heap.size, 4, none⟩) (Nat.le_refl _) _
    have HTR : Hid (TreeAt w6 wr.heap.size w6.heap.size (m + 1) #[.int .i64 k.kind, .string k.name, .slice va3 k.attrs.length vc3, .string k.text, .slice a5 k.kids.length cap5] k) := tree_copied HO3.out HW4.out hk5 hb5 hw6 HS3.out hal hkl hc5
    have q0 : w6.cell? ⟨wr.heap.size, 0, none⟩ = some (.int .i64 k.kind) := hx6.cell 0
    have q1 : w6.cell? ⟨wr.heap.size, 1, none⟩ = some (.string k.name) := hx6.cell 1
    have q2 : w6.cell? ⟨wr.heap.size, 2, none⟩ = some (.slice va3 k.attrs.length vc3) := hx6.cell 2
    have q3 : w6.cell? ⟨wr.heap.size, 3, none⟩ = some (.string k.text) := hx6.cell 3
    have q4 : w6.cell? ⟨wr.heap.size, 4, none⟩ = some (.slice a5 k.kids.length cap5) := hx6.cell 4
    have HW6 : Hid (w6 = w5.setCell ⟨wr.heap.size, 4, none⟩ (.slice a5 k.kids.length cap5)) := hw6
    have hs6 := HB6.out.size
    clear hw6 hx6 hx5 hk5 hc5 hb5 hcall e4 HX4 HW4 HB4
    go_upto_region 8 with fail
    rw [<- HW6.out]
    clear HW6 g4 gf
    have tok4 : True := trivial
    go_wp2_with (at_builtin; have _t := tok4; refine wpList_app rfl _ _ rfl Tryz.underlying22 info25 rfl (by decide) w.heap.size (.slice la i lcap) i xs rfl (own_of_block hst.out.own (fun j hj => (Below.heap_alloc _ _ _ (by have := (own_block_lt hst.out.own j hj).2; omega)).trans (HB6.out.block j (own_block_lt hst.out.own j hj).2))) (some ⟨w6.heap.size, 0, none⟩) 1 1 [.int .i64 k.kind, .string k.name, .slice va3 k.attrs.length vc3, .string k.text, .slice a5 k.kids.length cap5] rfl rfl (news_new w6 #[.int .i64 k.kind, .string k.name, .slice va3 k.attrs.length vc3, .string k.text, .slice a5 k.kids.length cap5] 35) (tree_one _ _ _ _ _ _ _ _ _) (by unfold maxLen; omega) (by omega) (by simp; omega) ?_; intro v7 w7 hown7 hg7 _ hat7; clear tok4 _t; obtain ⟨la', lcap', hv7⟩ := own_slice hown7; subst hv7; have HST7 : Hid (OutSt w w7 (m + 1) (L.take i ++ [k]) (i + 1) la' lcap' (xs ++ [.int .i64 k.kind, .string k.name, .slice va3 k.attrs.length vc3, .string k.text, .slice a5 k.kids.length cap5])) := hst.out.step HTR.out HB6.out hown7 hg7 (by simpa using hat7); clear hown7 hg7 hat7 HTR HB6 hst)
    go_roundw
    case rel => exact ⟨i + 1, la', lcap', _, by omega, by go_num, rfl, by rw [HTK.out]; exact HST7⟩
    case measure => simp [intOf]; omega
  ·have hie : i = L.length := by omega
   subst hie
   clear hlt
   have hd := hst.out.done
   rw [List.take_length] at hd
   go_wp2
   go_ret
   exact ⟨la, lcap, rfl, hd.1, hd.2, hst.out.bel⟩
theorem cpy_any : ∀ n, CpyAll n
 | 0 => cpy_n 0 (fun m h => by cases h)
 | n + 1 => cpy_n (n + 1) (fun m h => by cases h; exact cpy_any n)
end Go.Proofs.YtmapmkogjhinmaaGreat
/- Blocks that may be stored into. -/
namespace Go.Proofs.YtmapmkogjhinmaaGreat
open Go.RowKit
set_option maxRecDepth 100000
set_option maxHeartbeats 4000000
set_option linter.unusedVariables false
set_option linter.unusedSimpArgs false
def Wr (w : World) (b : Nat) : Prop := ∃ cs, IsCells w b cs
theorem Wr.of_block {w w' : World} {b : Nat} (h : Wr w b) (hb : w'.heap[b]? = w.heap[b]?) : Wr w' b := by
 obtain ⟨cs, h⟩ := h
 exact ⟨cs, h.of_block hb⟩
theorem Wr.setCell {w : World} {b : Nat} (h : Wr w b) (X o : Nat) (v : Value) : Wr (w.setCell ⟨X, o, none⟩ v) b := by
 obtain ⟨cs, h⟩ := h
 by_cases e : b = X
 ·subst e
  exact ⟨_, h.set o v⟩
 ·exact ⟨cs, h.other e v⟩
theorem Wr.frozen {w : World} {b : Nat} (h : Wr w b) (o : Nat) : w.frozen? ⟨b, o, none⟩ = false := by
 obtain ⟨cs, h⟩ := h
 exact h.frozen o
theorem own_wr {w : World} {base : Nat} {e : TypeId} {size : Nat} {v : Value} {n : Nat} {xs : List Value} (h : w.ownsRow base e size v n xs) {g : Nat} (hg : v.ownBlock = some g) : Wr w g := by
 rcases h.2 with ⟨rfl, rfl⟩ | ⟨g', cap, cur, rfl, _, hh, _⟩
 ·cases hg
 ·simp only [Value.ownBlock, Option.some.injEq] at hg
  subst hg
  exact ⟨cur, e, hh⟩
def Fw (w : World) (H b : Nat) : Prop := H <= b /\ b < w.heap.size /\ Wr w b
theorem Fw.to {w w' : World} {H H' b : Nat} (h : Fw w H b) (hH : H' <= b) (hb : w'.heap[b]? = w.heap[b]?) (hs : w.heap.size <= w'.heap.size) : Fw w' H' b := ⟨hH, Nat.lt_of_lt_of_le h.2.1 hs, h.2.2.of_block hb⟩
theorem Fw.below {w w' : World} {H b B : Nat} (h : Fw w H b) (hb : Below B w w') (hB : w.heap.size <= B) : Fw w' H b := h.to h.1 (hb.block b (Nat.lt_of_lt_of_le h.2.1 hB)) hb.size
theorem Fw.low {w : World} {H H' b : Nat} (h : Fw w H b) (hH : H' <= H) : Fw w H' b := ⟨Nat.le_trans hH h.1, h.2⟩
theorem attrs_own {w : World} {base : Nat} {e : TypeId} {a : Option Addr} {n cap : Nat} {l : List (ByteArray × ByteArray)} {xs : List Value} (h : w.ownsRow base e 2 (.slice a n cap) n xs) (hx : xs = attrCells l) : AttrsR w (fun b => (Value.slice a n cap).ownBlock = some b /\ Fw w base b) a l /\ n = l.length /\ n <= cap := by
 obtain ⟨h1, h2, h3⟩ := attrs_row h hx
 exact ⟨h1.to (fun b hb => ⟨hb.1, hb.2.1, hb.2.2, own_wr h hb.1⟩) (fun _ _ _ => rfl), h2, h3⟩
def CowP (w : World) (n : Nat) (t : T n) (e : Ending) (w' : World) : Prop :=
 ∃ v, e = .returned (.agg v) /\ TreeR w' (Fw w' w.heap.size) n v t /\ Below w.heap.size w w'
def CowAll (n : Nat) : Prop := ∀ (w : World) (v : Array Value) (t : T n) (lo hi : Nat), TreeAt w lo hi n v t -> hi <= w.heap.size -> Calls Tryz.prog 11 #[.agg v] w (CowP w n t)
structure CowSt (w wr : World) (n : Nat) (t : T (n + 1)) (a1 : Option Addr) (cap1 : Nat) (ka : Option Addr) (kc : Nat) (i : Nat) (la : Option Addr) (lcap : Nat) (xs : List Value) : Prop where
 box : IsCells wr w.heap.size #[.int .i64 t.kind, .string t.name, .slice a1 t.attrs.length cap1, .string t.text, .slice ka t.kids.length kc]
 res : IsCells wr (w.heap.size + 1) #[.int .i64 0, .string ⟨#[]⟩, .slice none 0 0, .string ⟨#[]⟩, .slice none 0 0]
 attrs : AttrsR wr (fun b => Fw wr (w.heap.size + 2) b /\ (Value.slice la i lcap).ownBlock ≠ some b) a1 t.attrs
 own : wr.ownsRow (w.heap.size + 2) 35 5 (.slice la i lcap) i xs
 kids : CopiesAt wr (fun b => Fw wr (w.heap.size + 2) b /\ (Value.slice la i lcap).ownBlock ≠ some b) n xs (t.kids.take i)
 bel : Below w.heap.size w wr
theorem CowSt.step {w wr w2 w3 : World} {n : Nat} {t : T (n + 1)} {a1 : Option Addr} {cap1 : Nat} {ka : Option Addr} {kc i : Nat} {la : Option Addr} {lcap : Nat} {xs : List Value} (h : CowSt w wr n t a1 cap1 ka kc i la lcap xs) {k : T n} (hk : t.kids[i]? = some k)
  {u : Array Value} (hu : TreeR w2 (Fw w2 wr.heap.size) n u k) (hb : Below wr.heap.size wr w2) {o : Obj} {la' : Option Addr} {lcap' : Nat} (hown : w3.ownsRow (w.heap.size + 2) 35 5 (.slice la' (i + 1) lcap') (i + 1) (xs ++ u.toList))
  (hg : (w2.alloc o).grownBy w3 (Value.slice la i lcap).ownBlock) (hat : (Value.slice la' (i + 1) lcap').ownBlock = (Value.slice la i lcap).ownBlock \/ (Value.slice la' (i + 1) lcap').ownBlock = some (w2.heap.size + 1)) :
  CowSt w w3 n t a1 cap1 ka kc (i + 1) la' lcap' (xs ++ u.toList) := by
 have hs := hb.size
 have hs3 : w2.heap.size + 1 <= w3.heap.size := by have := hg.size; simpa using this
 have hbl := h.bel.size
 have hox := own_block_lt h.own
 have hbx := h.box.lt
 have hrx := h.res.lt
 have far : ∀ b, b < w2.heap.size -> (Value.slice la i lcap).ownBlock ≠ some b -> w3.heap[b]? = w2.heap[b]? := fun b hb1 hb2 =>
  (hg.block b (by simp; omega) (fun e => hb2 e.symm)).trans (Below.heap_alloc _ _ _ hb1)
 have far2 : ∀ b, b < wr.heap.size -> (Value.slice la i lcap).ownBlock ≠ some b -> w3.heap[b]? = wr.heap[b]? := fun b hb1 hb2 => (far b (by omega) hb2).trans (hb.block b hb1)
 have hnew : ∀ b, b < w2.heap.size -> (Value.slice la i lcap).ownBlock ≠ some b -> (Value.slice la' (i + 1) lcap').ownBlock ≠ some b := fun b h1 h2 e => by
  rcases hat with hat | hat
  ·rw [hat] at e; exact h2 e
  ·rw [hat] at e; simp only [Option.some.injEq] at e; omega
 refine ⟨h.box.of_block (far2 _ hbx (fun e => by have := hox _ e; omega)), h.res.of_block (far2 _ hrx (fun e => by have := hox _ e; omega)), h.attrs.to (fun b hb' => ⟨hb'.1.to hb'.1.1 (far2 b hb'.1.2.1 hb'.2) (by omega), hnew b (by have := hb'.1.2.1; omega) hb'.2⟩) (fun b o hb' => World.cell?_of_block (w := wr) (a := ⟨b, o, none⟩) (far2 b hb'.1.2.1 hb'.2)), hown, ?_, ?_⟩
 ·rw [take_more hk]
  refine CopiesAt.snoc (h.kids.to (fun b hb' => ⟨hb'.1.to hb'.1.1 (far2 b hb'.1.2.1 hb'.2) (by omega), hnew b (by have := hb'.1.2.1; omega) hb'.2⟩) (fun b o hb' => World.cell?_of_block (w := wr) (a := ⟨b, o, none⟩) (far2 b hb'.1.2.1 hb'.2))) ?_
  have hne : ∀ b, wr.heap.size <= b -> (Value.slice la i lcap).ownBlock ≠ some b := fun b h1 e => by have := hox _ e; omega
  exact hu.to (fun b hb' => ⟨hb'.to (by have := hb'.1; omega) (far b hb'.2.1 (hne b hb'.1)) (by omega), hnew b hb'.2.1 (hne b hb'.1)⟩) (fun b o hb' => World.cell?_of_block (w := w2) (a := ⟨b, o, none⟩) (far b hb'.2.1 (hne b hb'.1)))
 ·exact (h.bel.trans (hb.mono hbl)).trans ⟨hg.os, hg.tape, hg.output, by omega, fun k hk => far k (by omega) (fun e => by have := hox _ e; omega)⟩
theorem CowSt.start {w w1 : World} {n : Nat} {t : T (n + 1)} {a : Option Addr} {ac : Nat} {a1 : Option Addr} {cap1 : Nat} {ka : Option Addr} {kc : Nat} (hbx : IsCells w1 w.heap.size #[.int .i64 t.kind, .string t.name, .slice a t.attrs.length ac, .string t.text, .slice ka t.kids.length kc])
  (hrs : IsCells w1 (w.heap.size + 1) #[.int .i64 0, .string ⟨#[]⟩, .slice none 0 0, .string ⟨#[]⟩, .slice none 0 0]) (hat : AttrsR w1 (Fw w1 (w.heap.size + 2)) a1 t.attrs) (hb : Below w.heap.size w w1) :
  CowSt w ((w1.setCell ⟨w.heap.size, 2, none⟩ (.slice a1 t.attrs.length cap1)).alloc (.cells #[] 35)) n t a1 cap1 ka kc 0 (some ⟨w1.heap.size, 0, none⟩) 0 [] := by
 have hs : (w1.setCell ⟨w.heap.size, 2, none⟩ (.slice a1 t.attrs.length cap1)).heap.size = w1.heap.size := by simp [World.setCell]
 have hrl := hrs.lt
 have same : ∀ b, b < w1.heap.size -> b ≠ w.heap.size -> ((w1.setCell ⟨w.heap.size, 2, none⟩ (.slice a1 t.attrs.length cap1)).alloc (.cells #[] 35)).heap[b]? = w1.heap[b]? := fun b h1 h2 => (Below.heap_alloc _ _ _ (by rw [hs]; exact h1)).trans (Below.heap_setCell _ _ _ _ h2)
 have cellsame : ∀ b o, b < w1.heap.size -> b ≠ w.heap.size -> ((w1.setCell ⟨w.heap.size, 2, none⟩ (.slice a1 t.attrs.length cap1)).alloc (.cells #[] 35)).cell? ⟨b, o, none⟩ = w1.cell? ⟨b, o, none⟩ := fun b o h1 h2 =>
  World.cell?_of_block (w := w1) (a := ⟨b, o, none⟩) ((Below.heap_alloc _ _ _ (by rw [hs]; exact h1)).trans (Below.heap_setCell _ _ _ _ h2))
 refine ⟨(hbx.set 2 _).alloc _, (hrs.other (by simp) _).alloc _, hat.to (fun b hb' => ⟨hb'.to hb'.1 (same b hb'.2.1 (by have := hb'.1; omega)) (by simp [World.setCell]), by have := hb'.2.1; simp [Value.ownBlock]; omega⟩) (fun b o hb' => cellsame b o hb'.2.1 (by have := hb'.1; omega)), ?_, CopiesAt.nil _ _ _, ?_⟩
 ·have := own_new (w1.setCell ⟨w.heap.size, 2, none⟩ (.slice a1 t.attrs.length cap1)) 35 5
  rw [hs] at this
  exact own_base this (fun k hk => by simp only [Value.ownBlock, Option.some.injEq] at hk; omega)
 ·exact (hb.setCell (p := ⟨w.heap.size, 2, none⟩) (Nat.le_refl _) _).alloc (by rw [hs]; exact hb.size) _
theorem CowSt.done {w wr w' : World} {n : Nat} {t : T (n + 1)} {a1 : Option Addr} {cap1 : Nat} {ka : Option Addr} {kc : Nat} {la : Option Addr} {lcap : Nat} {xs : List Value} (h : CowSt w wr n t a1 cap1 ka kc t.kids.length la lcap xs) (ha : t.attrs.length <= maxA) (hk : t.kids.length <= maxK) (hc : t.attrs.length <= cap1)
  (ht : Turn (fun b => b = w.heap.size \/ b = w.heap.size + 1) wr w') : TreeR w' (Fw w' w.heap.size) (n + 1) #[.int .i64 t.kind, .string t.name, .slice a1 t.attrs.length cap1, .string t.text, .slice la t.kids.length lcap] t /\ Below w.heap.size w w' := by
 have hs := ht.size
 have hbs := h.bel.size
 have hcell : ∀ b o, w.heap.size + 2 <= b -> b < wr.heap.size -> w'.cell? ⟨b, o, none⟩ = wr.cell? ⟨b, o, none⟩ := fun b o h1 h2 => World.cell?_of_block (w := wr) (a := ⟨b, o, none⟩) (ht.block b h2 (by omega))
 obtain ⟨hlc, hxl, hrow⟩ := row_cell h.own
 refine ⟨⟨a1, cap1, la, lcap, rfl, ha, hk, hc, hlc, (h.attrs.to (R' := Fw w' w.heap.size) (fun b hb => (hb.1.to hb.1.1 (ht.block b hb.1.2.1 (by have := hb.1.1; omega)) hs).low (by omega)) (fun b o hb => hcell b o hb.1.1 hb.1.2.1)), fun i k hk => ?_⟩, h.bel.trans (ht.below hbs (fun k hk => by omega))⟩
 obtain ⟨_, _, hkids⟩ := h.kids
 obtain ⟨u, h1, h2, h3⟩ := hkids i k (by rw [List.take_length]; exact hk)
 have hj : ∀ j, j < 5 -> ∃ g, la = some ⟨g, 0, none⟩ /\ w.heap.size + 2 <= g /\ g < wr.heap.size /\ wr.cell? ⟨g, i * 5 + j, none⟩ = u[j]? := fun j hj => by
  have hu := h2 j hj
  rw [Array.getElem?_eq_getElem (by omega)] at hu
  obtain ⟨g, e1, e2, e3, e4⟩ := hrow _ _ hu
  exact ⟨g, e1, e2, e3, by rw [e4, Array.getElem?_eq_getElem (by omega)]⟩
 obtain ⟨g, rfl, hg1, hg2, _⟩ := hj 0 (by omega)
 have hwr : Fw w' w.heap.size g := ⟨by omega, by omega, (own_wr h.own rfl).of_block (ht.block g hg2 (by omega))⟩
 refine ⟨g, 0, u, rfl, hwr, h1, fun j hj' => ?_, h3.to (R' := Fw w' w.heap.size) (fun b hb => (hb.1.to hb.1.1 (ht.block b hb.1.2.1 (by have := hb.1.1; omega)) hs).low (by omega)) (fun b o hb => hcell b o hb.1.1 hb.1.2.1)⟩
 obtain ⟨g', e1, _, _, e4⟩ := hj j hj'
 cases e1
 rw [Nat.zero_add, hcell g _ hg1 hg2, e4]
theorem copied_own : ∀ (n : Nat), CowAll n
 | 0 => fun _ _ _ _ _ h => h.elim
 | n + 1 => by
  intro w v t lo hi h hsz
  have ih := copied_own n
  obtain ⟨a, ac, ka, kc, rfl, hal, hkl, hac, hkc, hat, hkt⟩ := id h
  unfold tv at h ⊢
  unfold maxA at hal
  unfold maxK at hkl
  obtain ⟨W1, hW1⟩ : ∃ W1, W1 = ((w.alloc (.cells #[.int .i64 t.kind, .string t.name, .slice a t.attrs.length ac, .string t.text, .slice ka t.kids.length kc] 35)).alloc (.cells #[.int .i64 0, .string ⟨#[]⟩, .slice none 0 0, .string ⟨#[]⟩, .slice none 0 0] 35)).alloc (.cells #[] 52) := ⟨_, rfl⟩
  have hs1 : W1.heap.size = w.heap.size + 3 := by rw [hW1]; simp
  have hbel1 : Below w.heap.size w W1 := by rw [hW1]; exact (((below_new' w _).alloc (by simp) _).alloc (by simp; omega) _)
  have hbox : IsCells W1 w.heap.size #[.int .i64 t.kind, .string t.name, .slice a t.attrs.length ac, .string t.text, .slice ka t.kids.length kc] := by rw [hW1]; exact ((isCells_new w _ 35).alloc _).alloc _
  have hres : IsCells W1 (w.heap.size + 1) #[.int .i64 0, .string ⟨#[]⟩, .slice none 0 0, .string ⟨#[]⟩, .slice none 0 0] := by
   rw [hW1]
   have := isCells_new (w.alloc (.cells #[.int .i64 t.kind, .string t.name, .slice a t.attrs.length ac, .string t.text, .slice ka t.kids.length kc] 35)) #[.int .i64 0, .string ⟨#[]⟩, .slice none 0 0, .string ⟨#[]⟩, .slice none 0 0] 35
   simp only [World.alloc, Array.size_push] at this ⊢
   exact IsCells.alloc this _
  have hown : W1.ownsRow (w.heap.size + 2) 52 2 (.slice (some ⟨w.heap.size + 1 + 1, 0, none⟩) 0 0) 0 [] := by
   rw [hW1]
   have := own_new ((w.alloc (.cells #[.int .i64 t.kind, .string t.name, .slice a t.attrs.length ac, .string t.text, .slice ka t.kids.length kc] 35)).alloc (.cells #[.int .i64 0, .string ⟨#[]⟩, .slice none 0 0, .string ⟨#[]⟩, .slice none 0 0] 35)) 52 2
   simpa using this
  have HS1 : Hid (W1.heap.size = w.heap.size + 3) := hs1
  have HW1 : Hid (W1 = ((w.alloc (.cells #[.int .i64 t.kind, .string t.name, .slice a t.attrs.length ac, .string t.text, .slice ka t.kids.length kc] 35)).alloc (.cells #[.int .i64 0, .string ⟨#[]⟩, .slice none 0 0, .string ⟨#[]⟩, .slice none 0 0] 35)).alloc (.cells #[] 52)) := hW1
  have HB1 : Hid (Below w.heap.size w W1) := hbel1
  have HBX : Hid (IsCells W1 w.heap.size #[.int .i64 t.kind, .string t.name, .slice a t.attrs.length ac, .string t.text, .slice ka t.kids.length kc]) := hbox
  have HRS : Hid (IsCells W1 (w.heap.size + 1) #[.int .i64 0, .string ⟨#[]⟩, .slice none 0 0, .string ⟨#[]⟩, .slice none 0 0]) := hres
  have HOW : Hid (W1.ownsRow (w.heap.size + 2) 52 2 (.slice (some ⟨w.heap.size + 1 + 1, 0, none⟩) 0 0) 0 []) := hown
  have HNW : Hid (∀ j u, (attrCells t.attrs)[j]? = some u -> ∃ ad, a = some ad /\ W1.cell? (ad.add j) = some u) := (hat.below hbel1 hsz).news
  have HKT : Hid (KidsAt w lo hi n ka t.kids) := hkt
  clear hat hkt h hs1 hbel1 hbox hres hown hW1
  have tok1 : True := trivial
  go_enter Tryz.func11, Tryz.ntmps11
  go_wp2_with (at_builtin; have _t := tok1; refine wpList_app rfl _ _ rfl Tryz.underlying33 info40 rfl (by decide) (w.heap.size + 2) (.slice (some ⟨w.heap.size + 1 + 1, 0, none⟩) 0 0) 0 [] rfl (HW1.out ▸ HOW.out) a t.attrs.length ac (attrCells t.attrs) rfl (attrCells_length _) (HW1.out ▸ HNW.out) (attrCells_one _) (by unfold maxLen; omega) (by omega) (by simp) ?_; rw [<- HW1.out]; intro v1 w1 hown1 hg1 _ hat1; clear tok1 _t; obtain ⟨a1, cap1, hv1⟩ := own_slice hown1; subst hv1; rw [Nat.zero_add, List.nil_append] at hown1; rw [Nat.zero_add] at hat1; rw [Nat.zero_add]; have hbx1 := HBX.out.of_block (hg1.block _ (by have := HS1.out; omega) (fun e => by simp only [Value.ownBlock, Option.some.injEq] at e; omega)); have hrs1 := HRS.out.of_block (hg1.block _ (by have := HS1.out; omega) (fun e => by simp only [Value.ownBlock, Option.some.injEq] at e; omega)); have hc0 := hbx1.cell; have hf0 := hbx1.frozen; have HCP : Hid (t.attrs.length <= cap1) := (attrs_row hown1 rfl).2.2; have HST : Hid (CowSt w ((w1.setCell ⟨w.heap.size, 2, none⟩ (.slice a1 t.attrs.length cap1)).alloc (.cells #[] 35)) n t a1 cap1 ka kc 0 (some ⟨w1.heap.size, 0, none⟩) 0 []) := CowSt.start hbx1 hrs1 ((attrs_own hown1 rfl).1.to (fun b hb => hb.2) (fun _ _ _ => rfl)) (HB1.out.grown hg1 (by have := HS1.out; omega) (fun k hk => by simp only [Value.ownBlock, Option.some.injEq] at hk; omega)); clear hbx1 hrs1 hat1 HOW HNW hown1 hg1 HW1 HS1 HB1 HBX HRS)
  go_loopw [3, 4] (fun lv v wr => ∃ (i : Nat) (la : Option Addr) (lcap : Nat) (xs : List Value), i <= t.kids.length /\ v = .int .i64 (i : Int) /\ lv = .slice la i lcap /\ Hid (CowSt w wr n t a1 cap1 ka kc i la lcap xs)) (fun _ v _ => t.kids.length - (intOf v).toNat)
  case atStart => exact ⟨0, _, _, _, Nat.zero_le _, rfl, rfl, HST⟩
  case round =>
   obtain ⟨i, la, lcap, xs, hi', rfl, rfl, hst⟩ := hrel
   have hc := hst.out.box.cell
   have hf := hst.out.box.frozen
   have hr := hst.out.res.cell
   have hrf := hst.out.res.frozen
   have hbs := hst.out.bel.size
   have hrl := hst.out.res.lt
   clear hc0 hf0 HST
   by_cases hlt : i < t.kids.length
   ·obtain ⟨k, hk⟩ : ∃ k, t.kids[i]? = some k := ⟨_, List.getElem?_eq_getElem hlt⟩
    have hkt' := HKT.out.below hst.out.bel hsz
    obtain ⟨b, o, kk, nm, a', al', ac', tx, ka2, kl2, kc2, rfl, hb1, hb2, c0, c1, c2, c3, c4, htr⟩ := hkt'.get hk
    have hbr : b < wr.heap.size := by omega
    have HTR : Hid (TreeAt wr lo hi n #[.int .i64 kk, .string nm, .slice a' al' ac', .string tx, .slice ka2 kl2 kc2] k) := htr
    have HK : Hid (t.kids[i]? = some k) := hk
    clear HKT hkt' hk htr
    go_wp2_with fail
    refine (ih wr _ k lo hi HTR.out (by omega)).mono ?_
    rintro e w2 ⟨u, rfl, htu, hbu⟩
    obtain ⟨hcb, hfb⟩ := bcell hbu
    have hs2 := hbu.size
    obtain ⟨kk', nm', a'', al'', ac'', tx', ka3, kl3, kc3, rfl⟩ := htu.form
    have HTU : Hid (TreeR w2 (Fw w2 wr.heap.size) n #[.int .i64 kk', .string nm', .slice a'' al'' ac'', .string tx', .slice ka3 kl3 kc3] k) := htu
    have HBU : Hid (Below wr.heap.size wr w2) := hbu
    clear htu hbu c0 c1 c2 c3 c4 HTR
    have tok2 : True := trivial
    go_wp2_with (at_builtin; have _t := tok2; refine wpList_app rfl _ _ rfl Tryz.underlying22 info25 rfl (by decide) (w.heap.size + 2) (.slice la i lcap) i xs rfl (own_of_block hst.out.own (fun k hk => (Below.heap_alloc _ _ _ (by have := (own_block_lt hst.out.own k hk).2; omega)).trans (HBU.out.block k (own_block_lt hst.out.own k hk).2))) (some ⟨w2.heap.size, 0, none⟩) 1 1 [.int .i64 kk', .string nm', .slice a'' al'' ac'', .string tx', .slice ka3 kl3 kc3] rfl rfl (news_new w2 #[.int .i64 kk', .string nm', .slice a'' al'' ac'', .string tx', .slice ka3 kl3 kc3] 35) (tree_one _ _ _ _ _ _ _ _ _) (by unfold maxLen; omega) (by omega) (by simp; omega) ?_; intro v3 w3 hown3 hg3 _ hat3; clear tok2 _t; obtain ⟨la', lcap', hv3⟩ := own_slice hown3; subst hv3; have HST3 : Hid (CowSt w w3 n t a1 cap1 _ kc (i + 1) la' lcap' (xs ++ [.int .i64 kk', .string nm', .slice a'' al'' ac'', .string tx', .slice ka3 kl3 kc3])) := hst.out.step HK.out HTU.out HBU.out hown3 hg3 (by simpa using hat3); clear hown3 hg3 hat3 HTU HBU HK hst)
    go_roundw
    case rel => exact ⟨i + 1, la', lcap', _, by omega, by go_num, rfl, HST3⟩
    case measure => simp [intOf]; omega
   ·have hie : i = t.kids.length := by omega
    subst hie
    clear HKT ih hlt
    go_wp2
    have hcp1 : t.attrs.length <= cap1 := HCP.out
    refine bodyPost_ret (v := .agg #[.int .i64 t.kind, .string t.name, .slice a1 t.attrs.length cap1, .string t.text, .slice la t.kids.length lcap]) (by simp [results, Tryz.results11, go_sem, hr]) rfl ⟨_, rfl, ?_⟩
    exact hst.out.done (by unfold maxA; omega) (by unfold maxK; omega) hcp1 (((((((Turn.refl _ wr).setCell (p := ⟨w.heap.size, 4, none⟩) (.inl rfl) _).setCell (p := ⟨w.heap.size + 1, 0, none⟩) (.inr rfl) _).setCell (p := ⟨w.heap.size + 1, 1, none⟩) (.inr rfl) _).setCell (p := ⟨w.heap.size + 1, 2, none⟩) (.inr rfl) _).setCell (p := ⟨w.heap.size + 1, 3, none⟩) (.inr rfl) _).setCell (p := ⟨w.heap.size + 1, 4, none⟩) (.inr rfl) _)
theorem infoO : InfoOf Tryz.prog 37 (.agg #[.int .i64 0, .int .u64 0, .int .u64 0, .int .i64 0, .string ⟨#[]⟩, .string ⟨#[]⟩, .int .i64 0, .string ⟨#[]⟩, .slice none 0 0, .string ⟨#[]⟩, .slice none 0 0]) 11 152 := by unfold InfoOf; kernel_rfl
theorem opv_one (k : Int) (nd sp : Nat) (wh : Int) (nm vl : ByteArray) (tk : Int) (tn : ByteArray) (aa : Option Addr) (al ac : Nat) (tt : ByteArray) (ka : Option Addr) (kl kc : Nat) : ∀ u ∈ (opv k nd sp wh nm vl tk tn aa al ac tt ka kl kc).toList, u.oneCell' = true := by
 intro u hu
 simp only [opv, List.mem_cons, List.not_mem_nil, or_false] at hu
 rcases hu with rfl | rfl | rfl | rfl | rfl | rfl | rfl | rfl | rfl | rfl | rfl <;> rfl
def CopsAt (w : World) (R : Nat -> Prop) (xs : List Value) (l : List OpP) : Prop :=
 xs.length = l.length * 11 /\ ∀ i x, l[i]? = some x -> x.node < 18446744073709551616 /\ x.spot < 18446744073709551616 /\ ∃ tk tn aa al ac tt ka kl kc, (∀ j, j < 11 -> xs[i * 11 + j]? = (opv x.kind x.node x.spot x.wh x.name x.value tk tn aa al ac tt ka kl kc)[j]?) /\ TreeR w R x.lev #[.int .i64 tk, .string tn, .slice aa al ac, .string tt, .slice ka kl kc] x.tree
theorem CopsAt.to {w w' : World} {R R' : Nat -> Prop} {xs : List Value} {l : List OpP} (h : CopsAt w R xs l) (hR : ∀ b, R b -> R' b) (hc : ∀ b o, R b -> w'.cell? ⟨b, o, none⟩ = w.cell? ⟨b, o, none⟩) : CopsAt w' R' xs l :=
 ⟨h.1, fun i x hx => by
  obtain ⟨h2, h3, tk, tn, aa, al, ac, tt, ka, kl, kc, h4, h5⟩ := h.2 i x hx
  exact ⟨h2, h3, tk, tn, aa, al, ac, tt, ka, kl, kc, h4, h5.to hR hc⟩⟩
theorem CopsAt.snoc {w : World} {R : Nat -> Prop} {xs : List Value} {l : List OpP} (h : CopsAt w R xs l) {x : OpP} {tk : Int} {tn : ByteArray} {aa : Option Addr} {al ac : Nat} {tt : ByteArray} {ka : Option Addr} {kl kc : Nat} (hn : x.node < 18446744073709551616) (hs : x.spot < 18446744073709551616)
  (ht : TreeR w R x.lev #[.int .i64 tk, .string tn, .slice aa al ac, .string tt, .slice ka kl kc] x.tree) : CopsAt w R (xs ++ (opv x.kind x.node x.spot x.wh x.name x.value tk tn aa al ac tt ka kl kc).toList) (l ++ [x]) := by
 refine ⟨by simp [h.1, opv]; omega, fun i q hq => ?_⟩
 rcases Nat.lt_or_ge i l.length with hi | hi
 ·rw [List.getElem?_append_left hi] at hq
  obtain ⟨h2, h3, tk', tn', aa', al', ac', tt', ka', kl', kc', h4, h5⟩ := h.2 i q hq
  refine ⟨h2, h3, tk', tn', aa', al', ac', tt', ka', kl', kc', fun j hj => ?_, h5⟩
  rw [List.getElem?_append_left (by rw [h.1]; omega)]
  exact h4 j hj
 ·have hie : i = l.length := by
   have := (List.getElem?_eq_some_iff.1 hq).1
   simp at this
   omega
  subst hie
  rw [List.getElem?_append_right (Nat.le_refl _)] at hq
  simp at hq
  subst hq
  refine ⟨hn, hs, tk, tn, aa, al, ac, tt, ka, kl, kc, fun j hj => ?_, ht⟩
  rw [List.getElem?_append_right (by rw [h.1]; omega), h.1]
  simp
structure OpsSt (w wr : World) (l : List OpP) (i : Nat) (la : Option Addr) (lcap : Nat) (xs : List Value) : Prop where
 own : wr.ownsRow w.heap.size 37 11 (.slice la i lcap) i xs
 kids : CopsAt wr (fun b => w.heap.size <= b /\ b < wr.heap.size /\ (Value.slice la i lcap).ownBlock ≠ some b) xs (l.take i)
 bel : Below w.heap.size w wr
theorem OpsSt.step {w wr w2 w3 : World} {l : List OpP} {i : Nat} {la : Option Addr} {lcap : Nat} {xs : List Value} (h : OpsSt w wr l i la lcap xs) {x : OpP} (hx : l[i]? = some x) (hn : x.node < 18446744073709551616) (hs : x.spot < 18446744073709551616)
  {tk : Int} {tn : ByteArray} {aa : Option Addr} {al ac : Nat} {tt : ByteArray} {ka : Option Addr} {kl kc : Nat} (hu : TreeR w2 (fun b => wr.heap.size <= b /\ b < w2.heap.size) x.lev #[.int .i64 tk, .string tn, .slice aa al ac, .string tt, .slice ka kl kc] x.tree) (hb : Below wr.heap.size wr w2) {o : Obj} {la' : Option Addr} {lcap' : Nat}
  (hown : w3.ownsRow w.heap.size 37 11 (.slice la' (i + 1) lcap') (i + 1) (xs ++ (opv x.kind x.node x.spot x.wh x.name x.value tk tn aa al ac tt ka kl kc).toList))
  (hg : (w2.alloc o).grownBy w3 (Value.slice la i lcap).ownBlock) (hat : (Value.slice la' (i + 1) lcap').ownBlock = (Value.slice la i lcap).ownBlock \/ (Value.slice la' (i + 1) lcap').ownBlock = some (w2.heap.size + 1)) :
  OpsSt w w3 l (i + 1) la' lcap' (xs ++ (opv x.kind x.node x.spot x.wh x.name x.value tk tn aa al ac tt ka kl kc).toList) := by
 have hsz := hb.size
 have hs3 : w2.heap.size + 1 <= w3.heap.size := by have := hg.size; simpa using this
 have hbl := h.bel.size
 have hox := own_block_lt h.own
 have far : ∀ b, b < w2.heap.size -> (Value.slice la i lcap).ownBlock ≠ some b -> w3.heap[b]? = w2.heap[b]? := fun b hb1 hb2 =>
  (hg.block b (by simp; omega) (fun e => hb2 e.symm)).trans (Below.heap_alloc _ _ _ hb1)
 have far2 : ∀ b, b < wr.heap.size -> (Value.slice la i lcap).ownBlock ≠ some b -> w3.heap[b]? = wr.heap[b]? := fun b hb1 hb2 => (far b (by omega) hb2).trans (hb.block b hb1)
 have hnew : ∀ b, b < w2.heap.size -> (Value.slice la i lcap).ownBlock ≠ some b -> (Value.slice la' (i + 1) lcap').ownBlock ≠ some b := fun b h1 h2 e => by
  rcases hat with hat | hat
  ·rw [hat] at e; exact h2 e
  ·rw [hat] at e; simp only [Option.some.injEq] at e; omega
 have hne : ∀ b, wr.heap.size <= b -> (Value.slice la i lcap).ownBlock ≠ some b := fun b h1 e => by have := hox _ e; omega
 refine ⟨hown, ?_, ?_⟩
 ·rw [take_more hx]
  refine CopsAt.snoc (h.kids.to (fun b hb' => ⟨hb'.1, by omega, hnew b (by omega) hb'.2.2⟩) (fun b o hb' => World.cell?_of_block (w := wr) (a := ⟨b, o, none⟩) (far2 b hb'.2.1 hb'.2.2))) hn hs ?_
  exact hu.to (fun b hb' => ⟨by omega, by omega, hnew b hb'.2 (hne b hb'.1)⟩) (fun b o hb' => World.cell?_of_block (w := w2) (a := ⟨b, o, none⟩) (far b hb'.2 (hne b hb'.1)))
 ·exact (h.bel.trans (hb.mono hbl)).trans ⟨hg.os, hg.tape, hg.output, by omega, fun k hk => far k (by omega) (fun e => by have := hox _ e; omega)⟩
theorem OpsSt.done {w wr : World} {l : List OpP} {la : Option Addr} {lcap : Nat} {xs : List Value} (h : OpsSt w wr l l.length la lcap xs) : OpsAt wr w.heap.size wr.heap.size la l /\ l.length <= lcap := by
 obtain ⟨hlc, hxl, hrow⟩ := row_cell h.own
 refine ⟨fun i x hx => ?_, hlc⟩
 obtain ⟨_, hk⟩ := h.kids
 obtain ⟨h2, h3, tk, tn, aa, al, ac, tt, ka, kl, kc, h4, h5⟩ := hk i x (by rw [List.take_length]; exact hx)
 have hj : ∀ j u, (opv x.kind x.node x.spot x.wh x.name x.value tk tn aa al ac tt ka kl kc)[j]? = some u -> j < 11 -> ∃ g, la = some ⟨g, 0, none⟩ /\ w.heap.size <= g /\ g < wr.heap.size /\ wr.cell? ⟨g, i * 11 + j, none⟩ = some u := fun j u hu hj => by
  rw [<- h4 j hj] at hu
  exact hrow _ _ hu
 obtain ⟨g, rfl, hg1, hg2, _⟩ := hj 0 _ rfl (by omega)
 refine ⟨g, 0, rfl, hg1, hg2, h2, h3, tk, tn, aa, al, ac, tt, ka, kl, kc, fun j hj' => ?_, (h5.to (R' := fun b => w.heap.size <= b /\ b < wr.heap.size) (fun b hb => ⟨hb.1, hb.2.1⟩) (fun _ _ _ => rfl)).toAt⟩
 have hsz : j < (opv x.kind x.node x.spot x.wh x.name x.value tk tn aa al ac tt ka kl kc).size := by simp [opv]; omega
 obtain ⟨g', e1, _, _, e4⟩ := hj j _ (Array.getElem?_eq_getElem hsz) hj'
 cases e1
 rw [Nat.zero_add, e4, Array.getElem?_eq_getElem hsz]
def OpsP (w : World) (l : List OpP) (e : Ending) (w' : World) : Prop :=
 ∃ la lc, e = .returned (.slice la l.length lc) /\ OpsAt w' w.heap.size w'.heap.size la l /\ l.length <= lc /\ Below w.heap.size w w'
theorem ops_any (w : World) (lo : Nat) (a : Option Addr) (l : List OpP) (c : Nat) (ho : OpsAt w lo w.heap.size a l) (hl : l.length <= 925904528653) :
  Calls Tryz.prog 5 #[.slice a l.length c] w (OpsP w l) := by
 have HO : Hid (OpsAt w lo w.heap.size a l) := ho
 clear ho
 have tok1 : True := trivial
 obtain ⟨iT, hiT0, hiT1, hiT2, hiT3⟩ := infoO.parts
 go_enter Tryz.func5, Tryz.ntmps5
 go_wp2_with (at_make; have _t := tok1; refine wpList_make_own _ rfl _ _ 23 rfl w.heap.size 37 iT _ 11 Tryz.underlying23 hiT0 hiT1 hiT2 .i64 .i64 _ (l.length + 1) rfl rfl (by first | rfl | simp | omega) (by rw [hiT3]; omega) (by unfold maxLen; omega) (Nat.le_refl _) ?_; intro w1 hown1 hg1; have HST : Hid (OpsSt w w1 l 0 (some ⟨w.heap.size, 0, none⟩) (l.length + 1) []) := ⟨hown1, ⟨rfl, fun i x h => by simp at h⟩, (Below.refl _ w).grown hg1 (Nat.le_refl _) (fun k hk => by cases hk)⟩; clear hown1 hg1 tok1 _t hiT0 hiT1 hiT2 hiT3)
 go_loopw [3, 4] (fun lv v wr => ∃ (i : Nat) (la : Option Addr) (lcap : Nat) (xs : List Value), i <= l.length /\ v = .int .i64 (i : Int) /\ lv = .slice la i lcap /\ Hid (OpsSt w wr l i la lcap xs)) (fun _ v _ => l.length - (intOf v).toNat)
 case atStart => exact ⟨0, _, _, _, Nat.zero_le _, rfl, rfl, HST⟩
 case round =>
  obtain ⟨i, la, lcap, xs, hi, rfl, rfl, hst⟩ := hrel
  clear HST
  have hbs := hst.out.bel.size
  by_cases hlt : i < l.length
  ·obtain ⟨x, hx⟩ : ∃ x, l[i]? = some x := ⟨_, List.getElem?_eq_getElem hlt⟩
   obtain ⟨b, o, tk, tn, aa, al, ac, tt, ka, kl, kc, rfl, hlb, hbh, hxn, hxs, c0, c1, c2, c3, c4, c5, c6, c7, c8, c9, c10, htr⟩ := (HO.out.below hst.out.bel (Nat.le_refl _)).get hx
   have tl : (i : Int) < (l.length : Int) := by omega
   have t0 : (0 : Int) <= (i : Int) := by omega
   have hbr : b < wr.heap.size := by omega
   have hcal := copied_own x.lev (wr.alloc (.cells (opv x.kind x.node x.spot x.wh x.name x.value tk tn aa al ac tt ka kl kc) 37)) _ x.tree lo w.heap.size (htr.below (below_new' wr _) hbs) (by simp; omega)
   have HB0 : Hid (Below wr.heap.size wr (wr.alloc (.cells (opv x.kind x.node x.spot x.wh x.name x.value tk tn aa al ac tt ka kl kc) 37))) := below_new' wr _
   have hs0 : (wr.alloc (.cells (opv x.kind x.node x.spot x.wh x.name x.value tk tn aa al ac tt ka kl kc) 37)).heap.size = wr.heap.size + 1 := by simp
   have HBX : Hid (IsCells (wr.alloc (.cells (opv x.kind x.node x.spot x.wh x.name x.value tk tn aa al ac tt ka kl kc) 37)) wr.heap.size (opv x.kind x.node x.spot x.wh x.name x.value tk tn aa al ac tt ka kl kc)) := isCells_new wr _ 37
   have HX : Hid (l[i]? = some x) := hx
   unfold opv at hcal HB0 hs0 HBX
   clear htr hx
   go_wp2_with fail
   refine hcal.mono ?_
   rintro e w5 ⟨v, rfl, htv, hb5⟩
   obtain ⟨tk2, tn2, aa2, al2, ac2, tt2, ka2, kl2, kc2, rfl⟩ := htv.form
   have hs5 : wr.heap.size + 1 <= w5.heap.size := by have := hb5.size; omega
   have hx5 : IsCells w5 wr.heap.size _ := HBX.out.of_block (hb5.block _ (by omega))
   have g6 := hx5.cell 6
   have g7 := hx5.cell 7
   have g8 := hx5.cell 8
   have g9 := hx5.cell 9
   have g10 := hx5.cell 10
   have gf := hx5.frozen
   obtain ⟨w6, hw6⟩ : ∃ w6, w6 = ((((w5.setCell ⟨wr.heap.size, 6, none⟩ (.int .i64 tk2)).setCell ⟨wr.heap.size, 7, none⟩ (.string tn2)).setCell ⟨wr.heap.size, 8, none⟩ (.slice aa2 al2 ac2)).setCell ⟨wr.heap.size, 9, none⟩ (.string tt2)).setCell ⟨wr.heap.size, 10, none⟩ (.slice ka2 kl2 kc2) := ⟨_, rfl⟩
   have hx6 : IsCells w6 wr.heap.size #[.int .i64 x.kind, .int .u64 (x.node : Int), .int .u64 (x.spot : Int), .int .i64 x.wh, .string x.name, .string x.value, .int .i64 tk2, .string tn2, .slice aa2 al2 ac2, .string tt2, .slice ka2 kl2 kc2] := by
    rw [hw6]
    exact ((((hx5.set 6 _).set 7 _).set 8 _).set 9 _).set 10 _
   have ht6 : Turn (fun b => b = wr.heap.size) w5 w6 := by
    rw [hw6]
    exact (((((Turn.refl (fun b => b = wr.heap.size) w5).setCell (A := fun b => b = wr.heap.size) (p := ⟨wr.heap.size, 6, none⟩) rfl _).setCell (A := fun b => b = wr.heap.size) (p := ⟨wr.heap.size, 7, none⟩) rfl _).setCell (A := fun b => b = wr.heap.size) (p := ⟨wr.heap.size, 8, none⟩) rfl _).setCell (A := fun b => b = wr.heap.size) (p := ⟨wr.heap.size, 9, none⟩) rfl _).setCell (A := fun b => b = wr.heap.size) (p := ⟨wr.heap.size, 10, none⟩) rfl _
   have hz6 : w6.heap.size = w5.heap.size := by rw [hw6]; simp [World.setCell]
   have HB6 : Hid (Below wr.heap.size wr w6) := (HB0.out.trans (hb5.mono (by omega))).trans (ht6.below (by omega) (fun k hk => by omega))
   have HTR : Hid (TreeR w6 (fun b => wr.heap.size <= b /\ b < w6.heap.size) x.lev #[.int .i64 tk2, .string tn2, .slice aa2 al2 ac2, .string tt2, .slice ka2 kl2 kc2] x.tree) := htv.to (fun b hb => ⟨by have := hb.1; omega, by have := hb.2.1; omega⟩) (fun b o hb => World.cell?_of_block (w := w5) (a := ⟨b, o, none⟩) (ht6.block b hb.2.1 (by have := hb.1; omega)))
   have HW6 : Hid (w6 = ((((w5.setCell ⟨wr.heap.size, 6, none⟩ (.int .i64 tk2)).setCell ⟨wr.heap.size, 7, none⟩ (.string tn2)).setCell ⟨wr.heap.size, 8, none⟩ (.slice aa2 al2 ac2)).setCell ⟨wr.heap.size, 9, none⟩ (.string tt2)).setCell ⟨wr.heap.size, 10, none⟩ (.slice ka2 kl2 kc2)) := hw6
   have q0 : w6.cell? ⟨wr.heap.size, 0, none⟩ = some (.int .i64 x.kind) := hx6.cell 0
   have q1 : w6.cell? ⟨wr.heap.size, 1, none⟩ = some (.int .u64 (x.node : Int)) := hx6.cell 1
   have q2 : w6.cell? ⟨wr.heap.size, 2, none⟩ = some (.int .u64 (x.spot : Int)) := hx6.cell 2
   have q3 : w6.cell? ⟨wr.heap.size, 3, none⟩ = some (.int .i64 x.wh) := hx6.cell 3
   have q4 : w6.cell? ⟨wr.heap.size, 4, none⟩ = some (.string x.name) := hx6.cell 4
   have q5 : w6.cell? ⟨wr.heap.size, 5, none⟩ = some (.string x.value) := hx6.cell 5
   have q6 : w6.cell? ⟨wr.heap.size, 6, none⟩ = some (.int .i64 tk2) := hx6.cell 6
   have q7 : w6.cell? ⟨wr.heap.size, 7, none⟩ = some (.string tn2) := hx6.cell 7
   have q8 : w6.cell? ⟨wr.heap.size, 8, none⟩ = some (.slice aa2 al2 ac2) := hx6.cell 8
   have q9 : w6.cell? ⟨wr.heap.size, 9, none⟩ = some (.string tt2) := hx6.cell 9
   have q10 : w6.cell? ⟨wr.heap.size, 10, none⟩ = some (.slice ka2 kl2 kc2) := hx6.cell 10
   have hs6 := HB6.out.size
   clear hz6 hw6 hx6 hx5 htv hb5 hcal ht6 HB0 HBX c0 c1 c2 c3 c4 c5 c6 c7 c8 c9 c10
   go_upto_region 7 with fail
   rw [<- HW6.out]
   clear HW6 g6 g7 g8 g9 g10 gf
   have tok4 : True := trivial
   go_wp2_with (at_builtin; have _t := tok4; refine wpList_app rfl _ _ rfl Tryz.underlying23 infoO rfl (by decide) w.heap.size (.slice la i lcap) i xs rfl (own_of_block hst.out.own (fun j hj => (Below.heap_alloc _ _ _ (by have := (own_block_lt hst.out.own j hj).2; omega)).trans (HB6.out.block j (own_block_lt hst.out.own j hj).2))) (some ⟨w6.heap.size, 0, none⟩) 1 1 (opv x.kind x.node x.spot x.wh x.name x.value tk2 tn2 aa2 al2 ac2 tt2 ka2 kl2 kc2).toList rfl rfl (news_new w6 (opv x.kind x.node x.spot x.wh x.name x.value tk2 tn2 aa2 al2 ac2 tt2 ka2 kl2 kc2) 37) (opv_one _ _ _ _ _ _ _ _ _ _ _ _ _ _ _) (by unfold maxLen; omega) (by omega) (by simp; omega) ?_; intro v7 w7 hown7 hg7 _ hat7; clear tok4 _t; obtain ⟨la', lcap', hv7⟩ := own_slice hown7; subst hv7; have HST7 : Hid (OpsSt w w7 l (i + 1) la' lcap' (xs ++ (opv x.kind x.node x.spot x.wh x.name x.value tk2 tn2 aa2 al2 ac2 tt2 ka2 kl2 kc2).toList)) := hst.out.step HX.out hxn hxs HTR.out HB6.out hown7 hg7 (by simpa using hat7); clear hown7 hg7 hat7 HTR HB6 hst)
   go_roundw
   case rel => exact ⟨i + 1, la', lcap', _, by omega, by go_num, rfl, HST7⟩
   case measure => simp [intOf]; omega
  ·have hie : i = l.length := by omega
   subst hie
   clear hlt
   have hd := hst.out.done
   go_wp2
   go_ret
   exact ⟨la, lcap, rfl, hd.1, hd.2, hst.out.bel⟩
end Go.Proofs.YtmapmkogjhinmaaGreat
