/- Insert of the document: too many nodes; a tree put in. -/
import Derived.Test.YtjkgjckkglfokaaGreatU20
import Derived.Deep.RegionHeld3
import Derived.Laws.OwnMore
import Derived.Deep.DeepCutAuto
import Derived.Test.YtjkgjckkglfokaaGreatU04
import Derived.Test.YtjkgjckkglfokaaGreatU05
import Derived.Test.YtjkgjckkglfokaaGreatU01
namespace Go.Proofs.YtjkgjckkglfokaaGreat.Gr
open Go.RowKit
set_option linter.unusedVariables false
set_option linter.unusedSimpArgs false
set_option maxRecDepth 100000
set_option maxHeartbeats 2000000
theorem rins_many (n : Nat) (w : World) (v : Array Value) (t : T n) (lo hi : Nat) (Q : Nat -> Prop) (rb a : Nat) (wh : Int) (D : Dc) (h : TreeAt w lo hi n v t) (hsz : hi <= w.heap.size) (hrb : hi <= rb) (hd : RDoc w Q rb D) (hw : WF D) (hal : a < 18446744073709551616) (hpl : isPlaceB wh a = true) (hcz : (chk n t 1 0).2 = 0) (hpz : (placeE D wh a).2 = 0) (hdp : (ups D (placeE D wh a).1).length + htT n t <= 64) (hmn : 4096 < cnt takenB D.S + ndT n t) :
  Calls Tryz.prog 37 #[.pointer (some ⟨rb, 0, none⟩), .int .i64 wh, .int .u64 (a : Int), .agg v] w (RInsP w Q rb D 0 33) := by
 have hv := hd.view
 have HD : Hid (RDoc w Q rb D) := hd
 obtain ⟨tk, nm, aa, al, ac, tx, ka, kl, kc, rfl⟩ := h.form
 have HBX : Hid (Below w.heap.size w (w.alloc (.cells #[.int .i64 tk, .string nm, .slice aa al ac, .string tx, .slice ka kl kc] 31))) := below_new' w _
 have HBC : Hid (IsCells (w.alloc (.cells #[.int .i64 tk, .string nm, .slice aa al ac, .string tx, .slice ka kl kc] 31)) w.heap.size #[.int .i64 tk, .string nm, .slice aa al ac, .string tx, .slice ka kl kc]) := isCells_new w _ _
 have hvx : View (w.alloc (.cells #[.int .i64 tk, .string nm, .slice aa al ac, .string tx, .slice ka kl kc] 31)) _ rb D := hv.below (below_new' w _)
 have hpc := rplace_any (w.alloc (.cells #[.int .i64 tk, .string nm, .slice aa al ac, .string tx, .slice ka kl kc] 31)) _ rb D wh a hvx hw hal hpl
 have hck := fun W (hb : Below w.heap.size w W) => rCheck_any n W _ t lo hi (h.below hb hsz) (Nat.le_trans hsz hb.size)
 have hz1 : ((placeE D wh a).2 == 1) = false := by rcases placeE_err D wh a with e | e | e <;> rw [e] <;> decide
 obtain ⟨o1, o2, o3⟩ := chk_ok n t 1 0 (by omega) (by omega) (by omega) hcz
 have hn4 : ndT n t <= 4096 := by
  have := chk_le n t 1 0 (by omega)
  omega
 have hpp := (placeE_live hw hpz).1
 obtain ⟨lv, hlv0⟩ := hw.lev
 have hul : (ups D (placeE D wh a).1).length <= 64 := by rw [ups_length hlv0 hpp]; exact dep_le hlv0 hpp
 have hme := fun W (hb : Below w.heap.size w W) => rsizeT_any n W _ t lo hi (h.below hb hsz) (Nat.le_trans hsz hb.size) o1 hn4 (by omega)
 have hle := fun W (hb : Below w.heap.size w W) => rlevel_any W _ rb D (placeE D wh a).1 (hv.below hb) hw hpp
 rw [hcz] at hck
 rw [hpz] at hpc hz1
 have htk := fun W (hb : Below w.heap.size w W) => rtaken_any W _ rb D (hv.below hb) hw.fits
 have hcl : cnt takenB D.S <= 4096 := Nat.le_trans (List.length_filter_le _ _) hw.fits.len
 generalize (ups D (placeE D wh a).1).length = ul at *
 generalize (placeE D wh a).1 = p at *
 generalize htT n t = ht at *
 generalize ndT n t = nd at *
 generalize cnt takenB D.S = ct at *
 have hdb : ¬ (64 : Int) < (ul : Int) - 1 + 1 + (ht : Int) := by omega
 have hmb : (4096 : Int) < (ct : Int) + (nd : Int) := by omega
 clear hd hv hvx h hw hpl hcz hpz o1 o2 hlv0 hpp
 go_enter Tryz.func37, Tryz.ntmps37
 go_wp2_with fail
 refine (hpc).mono ?_
 rintro e w1 ⟨rfl, hb⟩
 have HB1 : Hid (Below w.heap.size w w1) := HBX.out.trans (hb.mono HBX.out.size)
 have HC1 : Hid (IsCells w1 w.heap.size #[.int .i64 tk, .string nm, .slice aa al ac, .string tx, .slice ka kl kc]) := HBC.out.of_block (hb.block w.heap.size HBC.out.lt)
 clear hb
 have hck1 := hck w1 HB1.out
 clear hck hpc
 have hx0 := HC1.out.cell 0
 have hx1 := HC1.out.cell 1
 have hx2 := HC1.out.cell 2
 have hx3 := HC1.out.cell 3
 have hx4 := HC1.out.cell 4
 simp at hx0 hx1 hx2 hx3 hx4
 go_wp2_with fail
 refine (hck1).mono ?_
 rintro e w2 ⟨rfl, hb⟩
 have HB2 : Hid (Below w.heap.size w w2) := HB1.out.trans (hb.mono HB1.out.size)
 have HC2 : Hid (IsCells w2 w.heap.size #[.int .i64 tk, .string nm, .slice aa al ac, .string tx, .slice ka kl kc]) := HC1.out.of_block (hb.block w.heap.size HC1.out.lt)
 clear hb
 clear hck1
 clear hx0 hx1 hx2 hx3 hx4
 have hx0 := HC2.out.cell 0
 have hx1 := HC2.out.cell 1
 have hx2 := HC2.out.cell 2
 have hx3 := HC2.out.cell 3
 have hx4 := HC2.out.cell 4
 simp at hx0 hx1 hx2 hx3 hx4
 have hme2 := hme w2 HB2.out
 clear hme
 go_wp2_with fail
 refine (hme2).mono ?_
 rintro e w3 ⟨rfl, hb⟩
 have HB3 : Hid (Below w.heap.size w w3) := HB2.out.trans (hb.mono HB2.out.size)
 have HC3 : Hid (IsCells w3 w.heap.size #[.int .i64 tk, .string nm, .slice aa al ac, .string tx, .slice ka kl kc]) := HC2.out.of_block (hb.block w.heap.size HC2.out.lt)
 clear hb
 clear hme2
 clear hx0 hx1 hx2 hx3 hx4
 have hle3 := hle w3 HB3.out
 clear hle
 go_wp2_with fail
 refine (hle3).mono ?_
 rintro e w4 ⟨rfl, hb⟩
 have HB4 : Hid (Below w.heap.size w w4) := HB3.out.trans (hb.mono HB3.out.size)
 have HC4 : Hid (IsCells w4 w.heap.size #[.int .i64 tk, .string nm, .slice aa al ac, .string tx, .slice ka kl kc]) := HC3.out.of_block (hb.block w.heap.size HC3.out.lt)
 clear hb
 clear hle3
 have htk4 := htk w4 HB4.out
 clear htk
 go_wp2_with fail
 refine htk4.mono ?_
 rintro e w5 ⟨rfl, rfl⟩
 clear htk4
 go_wp2
 go_ret2
 exact rinsp_same HD.out HB4.out
theorem rins_ok (n : Nat) (w : World) (v : Array Value) (t : T n) (lo hi : Nat) (Q : Nat -> Prop) (rb a : Nat) (wh : Int) (D : Dc) (h : TreeAt w lo hi n v t) (hsz : hi <= w.heap.size) (hrb : hi <= rb) (hd : RDoc w Q rb D) (hw : WF D) (hal : a < 18446744073709551616) (hpl : isPlaceB wh a = true) (hcz : (chk n t 1 0).2 = 0) (hpz : (placeE D wh a).2 = 0) (hdp : (ups D (placeE D wh a).1).length + htT n t <= 64) (hmn : cnt takenB D.S + ndT n t <= 4096) :
  Calls Tryz.prog 37 #[.pointer (some ⟨rb, 0, none⟩), .int .i64 wh, .int .u64 (a : Int), .agg v] w (RInsP w Q rb (putD (growD n t (placeE D wh a).1 D).1 (growD n t (placeE D wh a).1 D).2 (placeE D wh a).1 wh a) (growD n t (placeE D wh a).1 D).2 0) := by
 have hv := hd.view
 have HD : Hid (RDoc w Q rb D) := hd
 obtain ⟨tk, nm, aa, al, ac, tx, ka, kl, kc, rfl⟩ := h.form
 have HBX : Hid (Below w.heap.size w (w.alloc (.cells #[.int .i64 tk, .string nm, .slice aa al ac, .string tx, .slice ka kl kc] 31))) := below_new' w _
 have HBC : Hid (IsCells (w.alloc (.cells #[.int .i64 tk, .string nm, .slice aa al ac, .string tx, .slice ka kl kc] 31)) w.heap.size #[.int .i64 tk, .string nm, .slice aa al ac, .string tx, .slice ka kl kc]) := isCells_new w _ _
 have hvx : View (w.alloc (.cells #[.int .i64 tk, .string nm, .slice aa al ac, .string tx, .slice ka kl kc] 31)) _ rb D := hv.below (below_new' w _)
 have hpc := rplace_any (w.alloc (.cells #[.int .i64 tk, .string nm, .slice aa al ac, .string tx, .slice ka kl kc] 31)) _ rb D wh a hvx hw hal hpl
 have hck := fun W (hb : Below w.heap.size w W) => rCheck_any n W _ t lo hi (h.below hb hsz) (Nat.le_trans hsz hb.size)
 have hz1 : ((placeE D wh a).2 == 1) = false := by rcases placeE_err D wh a with e | e | e <;> rw [e] <;> decide
 obtain ⟨o1, o2, o3⟩ := chk_ok n t 1 0 (by omega) (by omega) (by omega) hcz
 have hn4 : ndT n t <= 4096 := by
  have := chk_le n t 1 0 (by omega)
  omega
 have hpp := (placeE_live hw hpz).1
 obtain ⟨lv, hlv0⟩ := hw.lev
 have hul : (ups D (placeE D wh a).1).length <= 64 := by rw [ups_length hlv0 hpp]; exact dep_le hlv0 hpp
 have hme := fun W (hb : Below w.heap.size w W) => rsizeT_any n W _ t lo hi (h.below hb hsz) (Nat.le_trans hsz hb.size) o1 hn4 (by omega)
 have hle := fun W (hb : Below w.heap.size w W) => rlevel_any W _ rb D (placeE D wh a).1 (hv.below hb) hw hpp
 rw [hcz] at hck
 rw [hpz] at hpc hz1
 have htk := fun W (hb : Below w.heap.size w W) => rtaken_any W _ rb D (hv.below hb) hw.fits
 have hz : insE D wh a n t = 0 := by
  unfold insE
  rw [if_neg (by simp [hpl]), if_neg (by simp [hcz]), if_neg (by simp [hpz]), if_neg (by omega), if_neg (by omega)]
 obtain ⟨f1, f2, f3, f4⟩ := place_facts hw hpz hpl
 obtain ⟨N, hgn, sn, k1, k2⟩ := ins_grown hw hz
 have hpN : (placeE D wh a).1 ∉ N := hgn.notin hpp
 have hlE : lst (growD n t (placeE D wh a).1 D).1 (placeE D wh a).1 = lst D (placeE D wh a).1 := hgn.lst_old hpN
 have hppE : (placeE D wh a).1 = 0 \/ ∃ s, sl (growD n t (placeE D wh a).1 D).1 (placeE D wh a).1 = some s := hpp.imp id (fun ⟨s, hs⟩ => ⟨s, by rw [hgn.old _ hpN]; exact hs⟩)
 have hpl64 := hw.ltz hpp
 obtain ⟨iN, haN, hiN, -, hhN⟩ := sl_live k1
 have hnl : (growD n t (placeE D wh a).1 D).2 < 18446744073709551616 := by
  have h1 := hgn.sane.fits.gen iN sn hiN
  have h2 := (List.getElem?_eq_some_iff.1 hiN).1
  have h3 := hgn.sane.fits.len
  rw [hhN]
  unfold hnd
  omega
 have HPUT : Hid (∀ W base Q g cap ra rcap L, RdS W base Q rb (growD n t (placeE D wh a).1 D).1 g cap ra rcap L -> Calls Tryz.prog 76 #[.pointer (some ⟨rb, 0, none⟩), .int .u64 ((growD n t (placeE D wh a).1 D).2 : Int), .int .u64 ((placeE D wh a).1 : Int), .int .i64 wh, .int .u64 (a : Int)] W (OutP W base Q rb (putD (growD n t (placeE D wh a).1 D).1 (growD n t (placeE D wh a).1 D).2 (placeE D wh a).1 wh a) g cap)) := fun W base Q g cap ra rcap L hW =>
  rput_any W base Q rb _ g cap ra rcap L _ _ a iN wh hW hgn.sane.fits hppE hpl64 hnl (by rw [hlE]; exact lst_len hw hpp) haN (by
   rcases f4 with h | h | ⟨h1, h2⟩
   ·exact .inl h
   ·exact .inr (.inl h)
   ·exact .inr (.inr ⟨h1, by rw [hlE]; exact h2⟩))
 have HMK : Hid (∀ W base Q g cap ra rcap L, Below w.heap.size w W \/ True -> (∀ b o, lo <= b -> b < hi -> W.cell? ⟨b, o, none⟩ = w.cell? ⟨b, o, none⟩) -> hi <= W.heap.size -> RdS W base Q rb D g cap ra rcap L -> Calls Tryz.prog 75 #[.pointer (some ⟨rb, 0, none⟩), .agg #[.int .i64 tk, .string nm, .slice aa al ac, .string tx, .slice ka kl kc], .int .u64 ((placeE D wh a).1 : Int)] W (MakeP W base (fun _ => Q) rb g ra rcap D L (growD n t (placeE D wh a).1 D).1 (growD n t (placeE D wh a).1 D).2)) := fun W base Q g cap ra rcap L _ hc hs hW =>
  make_any n W _ t lo hi _ base _ rb D g cap ra rcap L (h.of_cells hc) hs hrb hW.toM hw.sane (by omega) hpp hpl64 o1
 have hcl : cnt takenB D.S <= 4096 := Nat.le_trans (List.length_filter_le _ _) hw.fits.len
 have hlen := hw.fits.len
 generalize (growD n t (placeE D wh a).1 D).1 = E at *
 generalize (growD n t (placeE D wh a).1 D).2 = H at *
 generalize (ups D (placeE D wh a).1).length = ul at *
 generalize (placeE D wh a).1 = p at *
 generalize htT n t = ht at *
 generalize ndT n t = nd at *
 generalize cnt takenB D.S = ct at *
 have hdb : ¬ (64 : Int) < (ul : Int) - 1 + 1 + (ht : Int) := by omega
 have hmb : ¬ (4096 : Int) < (ct : Int) + (nd : Int) := by omega
 have hrbl := hd.rbl
 clear hd hv hvx h hw hpl hcz hpz o1 o2 hlv0 hpp hz f1 f2 f3 f4 hgn k1 k2 hpN hlE hppE haN hiN hhN
 go_enter Tryz.func37, Tryz.ntmps37
 go_wp2_with fail
 refine (hpc).mono ?_
 rintro e w1 ⟨rfl, hb⟩
 have HB1 : Hid (Below w.heap.size w w1) := HBX.out.trans (hb.mono HBX.out.size)
 have HC1 : Hid (IsCells w1 w.heap.size #[.int .i64 tk, .string nm, .slice aa al ac, .string tx, .slice ka kl kc]) := HBC.out.of_block (hb.block w.heap.size HBC.out.lt)
 clear hb
 have hck1 := hck w1 HB1.out
 clear hck hpc
 have hx0 := HC1.out.cell 0
 have hx1 := HC1.out.cell 1
 have hx2 := HC1.out.cell 2
 have hx3 := HC1.out.cell 3
 have hx4 := HC1.out.cell 4
 simp at hx0 hx1 hx2 hx3 hx4
 go_wp2_with fail
 refine (hck1).mono ?_
 rintro e w2 ⟨rfl, hb⟩
 have HB2 : Hid (Below w.heap.size w w2) := HB1.out.trans (hb.mono HB1.out.size)
 have HC2 : Hid (IsCells w2 w.heap.size #[.int .i64 tk, .string nm, .slice aa al ac, .string tx, .slice ka kl kc]) := HC1.out.of_block (hb.block w.heap.size HC1.out.lt)
 clear hb
 clear hck1
 clear hx0 hx1 hx2 hx3 hx4
 have hx0 := HC2.out.cell 0
 have hx1 := HC2.out.cell 1
 have hx2 := HC2.out.cell 2
 have hx3 := HC2.out.cell 3
 have hx4 := HC2.out.cell 4
 simp at hx0 hx1 hx2 hx3 hx4
 have hme2 := hme w2 HB2.out
 clear hme
 go_wp2_with fail
 refine (hme2).mono ?_
 rintro e w3 ⟨rfl, hb⟩
 have HB3 : Hid (Below w.heap.size w w3) := HB2.out.trans (hb.mono HB2.out.size)
 have HC3 : Hid (IsCells w3 w.heap.size #[.int .i64 tk, .string nm, .slice aa al ac, .string tx, .slice ka kl kc]) := HC2.out.of_block (hb.block w.heap.size HC2.out.lt)
 clear hb
 clear hme2
 clear hx0 hx1 hx2 hx3 hx4
 have hle3 := hle w3 HB3.out
 clear hle
 go_wp2_with fail
 refine (hle3).mono ?_
 rintro e w4 ⟨rfl, hb⟩
 have HB4 : Hid (Below w.heap.size w w4) := HB3.out.trans (hb.mono HB3.out.size)
 have HC4 : Hid (IsCells w4 w.heap.size #[.int .i64 tk, .string nm, .slice aa al ac, .string tx, .slice ka kl kc]) := HC3.out.of_block (hb.block w.heap.size HC3.out.lt)
 clear hb
 clear hle3
 have htk4 := htk w4 HB4.out
 clear htk
 go_wp2_with fail
 refine htk4.mono ?_
 rintro e w5 ⟨rfl, rfl⟩
 clear htk4
 have hdd := HD.out.below HB4.out
 obtain ⟨sa, scap, ra, rcap, hh1, hsc, hrc, hsl, hra⟩ := id hdd.head
 obtain ⟨L, hL, hv, hnews⟩ := hsl.row
 have hz0 : w5.cell? ⟨rb, 0, none⟩ = some (.slice sa D.S.length scap) := by rw [hh1.cell]; rfl
 have HDD : Hid (RDoc w5 Q rb D) := hdd
 have HH : Hid (IsCells w5 rb #[.slice sa D.S.length scap, .slice ra D.roots.length rcap]) := hh1
 have HRA : Hid (HandsAt w5 Q ra D.roots) := hra
 have HV : Hid (∀ (i : Nat) (s : Sl) (p : Value × Value), D.S[i]? = some s -> L[i]? = some p -> SlotVals w5 Q s p) := hv
 have HL : Hid (L.length = D.S.length) := hL
 have HN : Hid (∀ j u, (rowOf D.S L)[j]? = some u -> ∃ ad, sa = some ad /\ (w5.alloc (.cells #[] 100)).cell? (ad.add j) = some u) := fun j u hu => by
  obtain ⟨ad, e1, e2⟩ := hnews j u hu
  refine ⟨ad, e1, ?_⟩
  rw [World.cell?_of_block (w := w5) (Below.heap_alloc _ _ _ (World.block_lt_of_cell? w5 _ e2))]
  exact e2
 clear hdd hh1 hra hv hL hnews hsl
 have hs5 := HB4.out.size
 have hrb1 : rb < w5.heap.size := by omega
 have hwl5 : w.heap.size < w5.heap.size := HC4.out.lt
 have hnr : ¬ w.heap.size = rb := by omega
 have hnr2 : ¬ rb = w.heap.size := by omega
 have tok : True := trivial
 go_wp2_with (at_builtin; have _t := tok; refine wpList_app rfl _ _ rfl Tryz.underlying22 info75 rfl (by decide) w5.heap.size (.slice (some ⟨w5.heap.size, 0, none⟩) 0 0) 0 [] rfl (own_new w5 100 8) sa D.S.length scap (rowOf D.S L) rfl (rowOf_len HL.out) HN.out (rows_vals HV.out) (by unfold maxLen; omega) (by omega) (by simp) ?_; intro v1 w7 hown1 hg1 hnil1 hat1; clear tok _t; rw [Nat.zero_add, List.nil_append] at hown1; have hb7 : Below w5.heap.size w5 w7 := ((below_new' w5 _).grown hg1 (by simp) (fun k hk => by simp only [Value.ownBlock, Option.some.injEq] at hk; omega)); obtain ⟨g, cap2, hv1, hrds, htn, hhd⟩ := HDD.out.copied HH.out hrc HRA.out HL.out HV.out (below_new' w5 _) (fun k hk => by simp only [Value.ownBlock, Option.some.injEq] at hk; omega) (by simp) hown1 hg1 hnil1; subst hv1; have hc0 := hhd.cell; have hf0 := hhd.frozen; have HRS : Hid (RdS (w7.setCell ⟨rb, 0, none⟩ (.slice (some ⟨g, 0, none⟩) D.S.length cap2)) w5.heap.size Q rb D g cap2 ra rcap L) := hrds; have HT : Hid (Turn (fun b => b = rb) w5 (w7.setCell ⟨rb, 0, none⟩ (.slice (some ⟨g, 0, none⟩) D.S.length cap2))) := htn; have hgb := hrds.gb; have HC7 : Hid (IsCells w7 w.heap.size #[.int .i64 tk, .string nm, .slice aa al ac, .string tx, .slice ka kl kc]) := (HC4.out.of_block (hb7.block _ hwl5)); have hx0 := HC7.out.cell 0; have hx1 := HC7.out.cell 1; have hx2 := HC7.out.cell 2; have hx3 := HC7.out.cell 3; have hx4 := HC7.out.cell 4; simp at hx0 hx1 hx2 hx3 hx4; have hw7l : w.heap.size < w7.heap.size := HC7.out.lt; have hrw7 : rb < w7.heap.size := Nat.lt_of_lt_of_le hrb1 hb7.size; clear hrds htn hown1 hg1 hnil1 hat1 hhd hb7)
 have hmk := HMK.out _ _ _ _ _ _ _ _ (.inr trivial) (fun b o h1 h2 => by
  have e1 : (w7.setCell ⟨rb, 0, none⟩ (.slice (some ⟨g, 0, none⟩) D.S.length cap2)).cell? ⟨b, o, none⟩ = w5.cell? ⟨b, o, none⟩ := World.cell?_of_block (w := w5) (a := ⟨b, o, none⟩) (HT.out.block b (by omega) (by omega))
  exact e1.trans (HB4.out.cell (p := ⟨b, o, none⟩) (show b < w.heap.size by omega))) (by have := HT.out.size; omega) HRS.out
 refine hmk.mono ?_
 rintro e w8 ⟨rfl, Q8, g8, L8, hm8⟩
 obtain ⟨cap8, hd8⟩ := hm8.doc
 have hput := HPUT.out _ _ _ _ _ _ _ _ hd8.toS
 have hsT := HT.out.size
 have hs8 := hm8.turn.size
 have HT8 : Hid (Turn (fun b => b = rb) w5 w8) := ((HT.out.mono (B := fun b => b = rb \/ b = g) (fun _ _ h => .inl h)).trans hm8.turn).mono (fun b hb h => by
  rcases h with h | h
  ·exact h
  ·omega)
 have HQ8 : Hid (∀ b, (∃ k, Q8 k b) -> Q b \/ w.heap.size <= b) := fun b ⟨k, hb⟩ => by
  rcases hm8.from' k b hb with h | h
  ·exact .inl h
  ·exact .inr (by omega)
 have hg8 : w5.heap.size <= g8 := by
  rcases hm8.gn with e | e
  ·omega
  ·omega
 clear hmk hm8 hd8 HMK HPUT HRS HT hc0 hf0 HN HL HV HRA HH HDD hz0 hrc hsc hx0 hx1 hx2 hx3 hx4
 go_wp2_with fail
 refine hput.mono ?_
 rintro e w9 ⟨rfl, ⟨Q9, ra9, rcap9, L9, hr9, hq9⟩, ht9⟩
 have HT9 : Hid (Turn (fun b => b = rb) w5 w9) := ((HT8.out.mono (B := fun b => b = rb \/ b = g8) (fun _ _ h => .inl h)).trans ht9).mono (fun b hb h => by
  rcases h with h | h
  ·exact h
  ·omega)
 have HQ9 : Hid (∀ b, Q9 b -> Q b \/ w.heap.size <= b) := fun b hb => by
  rcases hq9 b hb with h | h
  ·exact HQ8.out b h
  ·exact .inr (by omega)
 have HR9 : Hid (RdS w9 w5.heap.size Q9 rb (putD E H p wh a) g8 _ ra9 rcap9 L9) := hr9
 clear hr9 hq9 ht9 hput
 go_wp2
 go_ret2
 exact ⟨rfl, (HR9.out.close (z := 0) HB4.out HT9.out HQ9.out HD.out.lt HD.out.nrb hrbl).2⟩
theorem rins_any (n : Nat) (w : World) (v : Array Value) (t : T n) (lo hi : Nat) (Q : Nat -> Prop) (rb a : Nat) (wh : Int) (D : Dc) (h : TreeAt w lo hi n v t) (hsz : hi <= w.heap.size) (hrb : hi <= rb) (hd : RDoc w Q rb D) (hw : WF D) (hal : a < 18446744073709551616) :
  Calls Tryz.prog 37 #[.pointer (some ⟨rb, 0, none⟩), .int .i64 wh, .int .u64 (a : Int), .agg v] w (RInsP w Q rb (insD D wh a n t).1 (insD D wh a n t).2 (insE D wh a n t)) := by
 have hbad : insE D wh a n t ≠ 0 -> insD D wh a n t = (D, 0) := fun h => by unfold insD; rw [if_neg h]
 cases hpl : isPlaceB wh a with
 | false =>
  have e : insE D wh a n t = 1 := by unfold insE; rw [if_pos hpl]
  rw [hbad (by rw [e]; decide), e]
  exact rins_arg n w v t lo hi Q rb a wh D h hsz hrb hd hw hal hpl
 | true =>
  by_cases hcz : (chk n t 1 0).2 = 0
  ·by_cases hpz : (placeE D wh a).2 = 0
   ·by_cases hdp : 64 < (ups D (placeE D wh a).1).length + htT n t
    ·have e : insE D wh a n t = 32 := by unfold insE; rw [if_neg (by simp [hpl]), if_neg (by simp [hcz]), if_neg (by simp [hpz]), if_pos hdp]
     rw [hbad (by rw [e]; decide), e]
     exact rins_deep n w v t lo hi Q rb a wh D h hsz hrb hd hw hal hpl hcz hpz hdp
    ·by_cases hmn : 4096 < cnt takenB D.S + ndT n t
     ·have e : insE D wh a n t = 33 := by unfold insE; rw [if_neg (by simp [hpl]), if_neg (by simp [hcz]), if_neg (by simp [hpz]), if_neg hdp, if_pos hmn]
      rw [hbad (by rw [e]; decide), e]
      exact rins_many n w v t lo hi Q rb a wh D h hsz hrb hd hw hal hpl hcz hpz (by omega) hmn
     ·have e : insE D wh a n t = 0 := by unfold insE; rw [if_neg (by simp [hpl]), if_neg (by simp [hcz]), if_neg (by simp [hpz]), if_neg hdp, if_neg hmn]
      have ei : insD D wh a n t = (putD (growD n t (placeE D wh a).1 D).1 (growD n t (placeE D wh a).1 D).2 (placeE D wh a).1 wh a, (growD n t (placeE D wh a).1 D).2) := by unfold insD; rw [if_pos e]
      rw [ei, e]
      exact rins_ok n w v t lo hi Q rb a wh D h hsz hrb hd hw hal hpl hcz hpz (by omega) (by omega)
   ·have e : insE D wh a n t = (placeE D wh a).2 := by unfold insE; rw [if_neg (by simp [hpl]), if_neg (by simp [hcz]), if_pos hpz]
    rw [hbad (by rw [e]; exact hpz), e]
    exact rins_place n w v t lo hi Q rb a wh D h hsz hrb hd hw hal hpl hcz hpz
  ·have e : insE D wh a n t = (chk n t 1 0).2 := by unfold insE; rw [if_neg (by simp [hpl]), if_pos hcz]
   rw [hbad (by rw [e]; exact hcz), e]
   exact rins_check n w v t lo hi Q rb a wh D h hsz hrb hd hw hal hpl hcz
end Go.Proofs.YtjkgjckkglfokaaGreat.Gr
/- Copy of the document. -/
namespace Go.Proofs.YtjkgjckkglfokaaGreat.Gr
open Go.RowKit
set_option linter.unusedVariables false
set_option linter.unusedSimpArgs false
end Go.Proofs.YtjkgjckkglfokaaGreat.Gr
/- Blocks that may be stored into. -/
namespace Go.Proofs.YtjkgjckkglfokaaGreat.Gr
open Go.RowKit
set_option linter.unusedVariables false
set_option linter.unusedSimpArgs false
def Wr (w : World) (b : Nat) : Prop := ∃ cs, IsCells w b cs
theorem Wr.of_block {w w' : World} {b : Nat} (h : Wr w b) (hb : w'.heap[b]? = w.heap[b]?) : Wr w' b := by
 obtain ⟨cs, h⟩ := h
 exact ⟨cs, h.of_block hb⟩
theorem Wr.setCell {w : World} {b : Nat} (h : Wr w b) (X o : Nat) (v : Value) : Wr (w.setCell ⟨X, o, none⟩ v) b := by
 obtain ⟨cs, h⟩ := h
 by_cases e : b = X
 ·subst e
  exact ⟨_, h.set o v⟩
 ·exact ⟨cs, h.other e v⟩
theorem Wr.frozen {w : World} {b : Nat} (h : Wr w b) (o : Nat) : w.frozen? ⟨b, o, none⟩ = false := by
 obtain ⟨cs, h⟩ := h
 exact h.frozen o
theorem own_wr {w : World} {base : Nat} {e : TypeId} {size : Nat} {v : Value} {n : Nat} {xs : List Value} (h : w.ownsRow base e size v n xs) {g : Nat} (hg : v.ownBlock = some g) : Wr w g := by
 rcases h.2 with ⟨rfl, rfl⟩ | ⟨g', cap, cur, rfl, _, hh, _⟩
 ·cases hg
 ·simp only [Value.ownBlock, Option.some.injEq] at hg
  subst hg
  exact ⟨cur, e, hh⟩
def Fw (w : World) (H b : Nat) : Prop := H <= b /\ b < w.heap.size /\ Wr w b
theorem Fw.to {w w' : World} {H H' b : Nat} (h : Fw w H b) (hH : H' <= b) (hb : w'.heap[b]? = w.heap[b]?) (hs : w.heap.size <= w'.heap.size) : Fw w' H' b := ⟨hH, Nat.lt_of_lt_of_le h.2.1 hs, h.2.2.of_block hb⟩
theorem Fw.low {w : World} {H H' b : Nat} (h : Fw w H b) (hH : H' <= H) : Fw w H' b := ⟨Nat.le_trans hH h.1, h.2⟩
theorem attrs_own {w : World} {base : Nat} {e : TypeId} {a : Option Addr} {n cap : Nat} {l : List (ByteArray × ByteArray)} {xs : List Value} (h : w.ownsRow base e 2 (.slice a n cap) n xs) (hx : xs = attrCells l) : AttrsR w (fun b => (Value.slice a n cap).ownBlock = some b /\ Fw w base b) a l /\ n = l.length /\ n <= cap := by
 obtain ⟨h1, h2, h3⟩ := attrs_row h hx
 exact ⟨h1.to (fun b hb => ⟨hb.1, hb.2.1, hb.2.2, own_wr h hb.1⟩) (fun _ _ _ => rfl), h2, h3⟩
end Go.Proofs.YtjkgjckkglfokaaGreat.Gr
/- A slot as a node without its children, in blocks that may be stored into. -/
namespace Go.Proofs.YtjkgjckkglfokaaGreat.Gr
open Go.RowKit
set_option linter.unusedVariables false
set_option linter.unusedSimpArgs false
end Go.Proofs.YtjkgjckkglfokaaGreat.Gr
/- Nodes in plain, by the program: child by child. -/
namespace Go.Proofs.YtjkgjckkglfokaaGreat.Gr
open Go.RowKit
set_option linter.unusedVariables false
set_option linter.unusedSimpArgs false
end Go.Proofs.YtjkgjckkglfokaaGreat.Gr
/- A node in plain, by the program: plain, Subtree, Forest. -/
namespace Go.Proofs.YtjkgjckkglfokaaGreat.Gr
open Go.RowKit
set_option linter.unusedVariables false
set_option linter.unusedSimpArgs false
end Go.Proofs.YtjkgjckkglfokaaGreat.Gr
/- Slots copied, by the program. -/
namespace Go.Proofs.YtjkgjckkglfokaaGreat.Gr
open Go.RowKit
set_option linter.unusedVariables false
set_option linter.unusedSimpArgs false
end Go.Proofs.YtjkgjckkglfokaaGreat.Gr
/- copySlots of the program. -/
namespace Go.Proofs.YtjkgjckkglfokaaGreat.Gr
open Go.RowKit
set_option linter.unusedVariables false
set_option linter.unusedSimpArgs false
end Go.Proofs.YtjkgjckkglfokaaGreat.Gr
/- Image of the program. -/
namespace Go.Proofs.YtjkgjckkglfokaaGreat.Gr
open Go.RowKit
set_option linter.unusedVariables false
set_option linter.unusedSimpArgs false
end Go.Proofs.YtjkgjckkglfokaaGreat.Gr
/- Slots of an image that is read: what each call says of a slot that a document has. -/
namespace Go.Proofs.YtjkgjckkglfokaaGreat.Gr
open Go.RowKit
set_option linter.unusedVariables false
set_option linter.unusedSimpArgs false
end Go.Proofs.YtjkgjckkglfokaaGreat.Gr
/- The reader of an image: what it holds; find, and the slot at a place. -/
namespace Go.Proofs.YtjkgjckkglfokaaGreat.Gr
open Go.RowKit
set_option linter.unusedVariables false
set_option linter.unusedSimpArgs false
end Go.Proofs.YtjkgjckkglfokaaGreat.Gr
/- The reader goes through the lists of a document's image. -/
namespace Go.Proofs.YtjkgjckkglfokaaGreat.Gr
open Go.RowKit
set_option linter.unusedVariables false
set_option linter.unusedSimpArgs false
def mk (D : Dc) (vs : List Nat) (k : Nat) : Bool := vs.any fun x => atI D.S x == some k
end Go.Proofs.YtjkgjckkglfokaaGreat.Gr
/- copySlots of the program, once more: as Load calls it. -/
namespace Go.Proofs.YtjkgjckkglfokaaGreat.Gr
open Go.RowKit
set_option linter.unusedVariables false
set_option linter.unusedSimpArgs false
end Go.Proofs.YtjkgjckkglfokaaGreat.Gr
/- All nodes are just the live ones: how many there are. -/
namespace Go.Proofs.YtjkgjckkglfokaaGreat.Gr
open Go.RowKit
set_option linter.unusedVariables false
set_option linter.unusedSimpArgs false
end Go.Proofs.YtjkgjckkglfokaaGreat.Gr
/- Load of the program, of a document's image: the slots laid into the reader. -/
namespace Go.Proofs.YtjkgjckkglfokaaGreat.Gr
open Go.RowKit
set_option linter.unusedVariables false
set_option linter.unusedSimpArgs false
end Go.Proofs.YtjkgjckkglfokaaGreat.Gr
/- Load of the program, of a document's image. -/
namespace Go.Proofs.YtjkgjckkglfokaaGreat.Gr
open Go.RowKit
set_option linter.unusedVariables false
set_option linter.unusedSimpArgs false
end Go.Proofs.YtjkgjckkglfokaaGreat.Gr
/- What is spoilt: cells keep what sort they are of, lists at most become none. -/
namespace Go.Proofs.YtjkgjckkglfokaaGreat.Gr
open Go.RowKit
set_option linter.unusedVariables false
set_option linter.unusedSimpArgs false
def Bt (v x : Value) : Prop :=
 (∃ a b, v = .string a /\ x = .string b) \/ (∃ k a b, v = .int k a /\ x = .int k b) \/ (∃ a b, v = .bool a /\ x = .bool b) \/ (∃ a n c, v = .slice a n c /\ x = .slice none 0 0)
def Wk (v x : Value) : Prop := x = v \/ Bt v x
theorem Bt.next {v x y : Value} (h : Bt v x) (k : Bt v y) : Bt x y := by
 rcases h with ⟨a, b, rfl, rfl⟩ | ⟨q, a, b, rfl, rfl⟩ | ⟨a, b, rfl, rfl⟩ | ⟨a, n, c, rfl, rfl⟩ <;> rcases k with ⟨a', b', e, rfl⟩ | ⟨q', a', b', e, rfl⟩ | ⟨a', b', e, rfl⟩ | ⟨a', n', c', e, rfl⟩ <;> first | cases e | skip
 ·exact .inl ⟨_, _, rfl, rfl⟩
 ·exact .inr (.inl ⟨_, _, _, rfl, rfl⟩)
 ·exact .inr (.inr (.inl ⟨_, _, rfl, rfl⟩))
 ·exact .inr (.inr (.inr ⟨_, _, _, rfl, rfl⟩))
theorem Bt.trans {v x y : Value} (h : Bt v x) (k : Bt x y) : Bt v y := by
 rcases h with ⟨a, b, rfl, rfl⟩ | ⟨q, a, b, rfl, rfl⟩ | ⟨a, b, rfl, rfl⟩ | ⟨a, n, c, rfl, rfl⟩ <;> rcases k with ⟨a', b', e, rfl⟩ | ⟨q', a', b', e, rfl⟩ | ⟨a', b', e, rfl⟩ | ⟨a', n', c', e, rfl⟩ <;> first | cases e | skip
 ·exact .inl ⟨_, _, rfl, rfl⟩
 ·exact .inr (.inl ⟨_, _, _, rfl, rfl⟩)
 ·exact .inr (.inr (.inl ⟨_, _, rfl, rfl⟩))
 ·exact .inr (.inr (.inr ⟨_, _, _, rfl, rfl⟩))
theorem Wk.trans {v x y : Value} (h : Wk v x) (k : Wk x y) : Wk v y := by
 rcases h with rfl | h
 ·exact k
 ·rcases k with rfl | k
  ·exact .inr h
  ·exact .inr (h.trans k)
theorem Wk.bt {v x y : Value} (h : Wk v x) (k : Bt v y) : Bt x y := by
 rcases h with rfl | h
 ·exact k
 ·exact h.next k
theorem Wk.str {a : ByteArray} {x : Value} (h : Wk (.string a) x) : ∃ b, x = .string b := by
 rcases h with rfl | ⟨a, b, e, rfl⟩ | ⟨q, a, b, e, rfl⟩ | ⟨a, b, e, rfl⟩ | ⟨a, n, c, e, rfl⟩ <;> first | cases e | skip
 ·exact ⟨_, rfl⟩
 ·exact ⟨_, rfl⟩
theorem Wk.int {k : IntKind} {a : Int} {x : Value} (h : Wk (.int k a) x) : ∃ b, x = .int k b := by
 rcases h with rfl | ⟨a, b, e, rfl⟩ | ⟨q, a, b, e, rfl⟩ | ⟨a, b, e, rfl⟩ | ⟨a, n, c, e, rfl⟩ <;> first | cases e | skip
 ·exact ⟨_, rfl⟩
 ·exact ⟨_, rfl⟩
theorem Wk.slice {a : Option Addr} {n c : Nat} {x : Value} (h : Wk (.slice a n c) x) : x = .slice a n c \/ x = .slice none 0 0 := by
 rcases h with rfl | ⟨a, b, e, rfl⟩ | ⟨q, a, b, e, rfl⟩ | ⟨a, b, e, rfl⟩ | ⟨a, n, c, e, rfl⟩ <;> first | cases e | skip
 ·exact .inl rfl
 ·exact .inr rfl
structure Sv (R : Nat -> Prop) (w w' : World) : Prop where
 turn : Turn R w w'
 wr : ∀ b, R b -> Wr w b -> Wr w' b
 keep : ∀ b o v, R b -> Wr w b -> w.cell? ⟨b, o, none⟩ = some v -> ∃ v', w'.cell? ⟨b, o, none⟩ = some v' /\ Wk v v'
theorem Sv.refl (R : Nat -> Prop) (w : World) : Sv R w w := ⟨Turn.refl _ _, fun _ _ h => h, fun b o v _ _ h => ⟨v, h, .inl rfl⟩⟩
theorem Sv.trans {R : Nat -> Prop} {a b c : World} (h : Sv R a b) (k : Sv R b c) : Sv R a c := by
 refine ⟨h.turn.trans k.turn, fun b hb hw => k.wr b hb (h.wr b hb hw), fun b o v hb hw hc => ?_⟩
 obtain ⟨v1, h1, h2⟩ := h.keep b o v hb hw hc
 obtain ⟨v2, h3, h4⟩ := k.keep b o v1 hb (h.wr b hb hw) h1
 exact ⟨v2, h3, h2.trans h4⟩
theorem Wr.lt {w : World} {b : Nat} (h : Wr w b) : b < w.heap.size := by obtain ⟨cs, h⟩ := h; exact h.lt
theorem Sv.below {R : Nat -> Prop} {w w' : World} (h : Below w.heap.size w w') : Sv R w w' :=
 ⟨⟨h.os, h.tape, h.output, h.size, fun k hk _ => h.block k hk⟩, fun b _ hw => hw.of_block (h.block b hw.lt), fun b o v _ hw hc => ⟨v, (h.cell (p := ⟨b, o, none⟩) hw.lt).trans hc, .inl rfl⟩⟩
theorem Sv.alloc {R : Nat -> Prop} {a w : World} (h : Sv R a w) (o : Obj) : Sv R a (w.alloc o) := h.trans (Sv.below ((Below.refl _ _).alloc (Nat.le_refl _) _))
theorem Sv.set1 {R : Nat -> Prop} {w : World} {b o : Nat} {v x : Value} (hb : R b) (hw : Wr w b) (hc : w.cell? ⟨b, o, none⟩ = some v) (hx : Bt v x) : Sv R w (w.setCell ⟨b, o, none⟩ x) := by
 refine ⟨(Turn.refl _ _).setCell (p := ⟨b, o, none⟩) hb _, fun b' _ h => h.setCell _ _ _, fun b' o' v' _ hw' hc' => ?_⟩
 obtain ⟨cs, hcs⟩ := hw
 by_cases e : b' = b
 ·subst e
  rw [(hcs.set o x).cell]
  rw [hcs.cell] at hc hc'
  by_cases eo : o' = o
  ·subst eo
   rw [hc] at hc'
   cases hc'
   have hlt := (Array.getElem?_eq_some_iff.1 hc).1
   exact ⟨x, by simp [hlt], .inr hx⟩
  ·exact ⟨v', by rw [Array.getElem?_setIfInBounds_ne (Ne.symm eo)]; exact hc', .inl rfl⟩
 ·obtain ⟨cs', hcs'⟩ := hw'
  exact ⟨v', by rw [(hcs'.other (a := ⟨b, o, none⟩) e x).cell, <- hcs'.cell]; exact hc', .inl rfl⟩
theorem Sv.put {R : Nat -> Prop} {w wr : World} (h : Sv R w wr) {b o : Nat} {v x : Value} (hb : R b) (hw : Wr w b) (hc : w.cell? ⟨b, o, none⟩ = some v) (hx : Bt v x) : Sv R w (wr.setCell ⟨b, o, none⟩ x) := by
 obtain ⟨v', h1, h2⟩ := h.keep b o v hb hw hc
 exact h.trans (Sv.set1 hb (h.wr b hb hw) h1 (h2.bt hx))
theorem Bt.s (a b : ByteArray) : Bt (.string a) (.string b) := .inl ⟨_, _, rfl, rfl⟩
theorem Bt.i (k : IntKind) (a b : Int) : Bt (.int k a) (.int k b) := .inr (.inl ⟨_, _, _, rfl, rfl⟩)
theorem Bt.l (a : Option Addr) (n c : Nat) : Bt (.slice a n c) (.slice none 0 0) := .inr (.inr (.inr ⟨_, _, _, rfl, rfl⟩))
def AW (w : World) (R : Nat -> Prop) (a : Option Addr) (n : Nat) : Prop :=
 ∀ i, i < n -> ∃ b o x y, a = some ⟨b, o, none⟩ /\ R b /\ w.cell? ⟨b, o + i * 2, none⟩ = some (.string x) /\ w.cell? ⟨b, o + i * 2 + 1, none⟩ = some (.string y)
def HW (w : World) (R : Nat -> Prop) (a : Option Addr) (n : Nat) : Prop :=
 ∀ i, i < n -> ∃ b o x, a = some ⟨b, o, none⟩ /\ R b /\ w.cell? ⟨b, o + i, none⟩ = some (.int .u64 x)
def WT (w : World) (R : Nat -> Prop) : Nat -> Array Value -> Prop
 | 0, _ => False
 | n + 1, v => ∃ k nm a al ac tx ka kl kc, v = #[.int .i64 k, .string nm, .slice a al ac, .string tx, .slice ka kl kc] /\ al <= maxA /\ kl <= maxK /\ al <= ac /\ kl <= kc /\ AW w R a al /\
   ∀ i, i < kl -> ∃ (b o : Nat) (u : Array Value), ka = some ⟨b, o, none⟩ /\ R b /\ u.size = 5 /\ (∀ j, j < 5 -> w.cell? ⟨b, o + i * 5 + j, none⟩ = u[j]?) /\ WT w R n u
theorem AttrsR.weak {w : World} {R : Nat -> Prop} {a : Option Addr} {l : List (ByteArray × ByteArray)} (h : AttrsR w R a l) : AW w R a l.length := by
 intro i hi
 obtain ⟨b, o, h1, h2, h3, h4⟩ := h i _ (List.getElem?_eq_getElem hi)
 exact ⟨b, o, _, _, h1, h2, h3, h4⟩
theorem TreeR.weak {w : World} {R : Nat -> Prop} : ∀ {n : Nat} {v : Array Value} {t : T n}, TreeR w R n v t -> WT w R n v
 | 0, _, _, h => h.elim
 | n + 1, v, t, h => by
  obtain ⟨a, ac, ka, kc, h1, h2, h3, h4, h5, h6, h7⟩ := h
  refine ⟨_, _, _, _, _, _, _, _, _, h1, h2, h3, h4, h5, h6.weak, fun i hi => ?_⟩
  obtain ⟨b, o, u, g1, g2, g4, g5, g6⟩ := h7 i _ (List.getElem?_eq_getElem hi)
  exact ⟨b, o, u, g1, g2, g4, g5, TreeR.weak g6⟩
theorem AW.nil (w : World) (R : Nat -> Prop) (a : Option Addr) : AW w R a 0 := fun i hi => by omega
theorem Sv.aw {R : Nat -> Prop} {w w' : World} (s : Sv R w w') (hR : ∀ b, R b -> Wr w b) {a : Option Addr} {n : Nat} (h : AW w R a n) : AW w' R a n := by
 intro i hi
 obtain ⟨b, o, x, y, h1, h2, h3, h4⟩ := h i hi
 obtain ⟨v1, c1, k1⟩ := s.keep _ _ _ h2 (hR b h2) h3
 obtain ⟨v2, c2, k2⟩ := s.keep _ _ _ h2 (hR b h2) h4
 obtain ⟨x', rfl⟩ := k1.str
 obtain ⟨y', rfl⟩ := k2.str
 exact ⟨b, o, _, _, h1, h2, c1, c2⟩
theorem WT.form {w : World} {R : Nat -> Prop} {n : Nat} {v : Array Value} (h : WT w R n v) : ∃ k nm a al ac tx ka kl kc, v = #[.int .i64 k, .string nm, .slice a al ac, .string tx, .slice ka kl kc] := by
 cases n with
 | zero => exact h.elim
 | succ n => obtain ⟨k, nm, a, al, ac, tx, ka, kl, kc, h1, _⟩ := h; exact ⟨_, _, _, _, _, _, _, _, _, h1⟩
theorem WT.less {w : World} {R : Nat -> Prop} {n : Nat} {k : Int} {nm : ByteArray} {a : Option Addr} {al ac : Nat} {tx : ByteArray} {ka : Option Addr} {kl kc : Nat} (h : WT w R n #[.int .i64 k, .string nm, .slice a al ac, .string tx, .slice ka kl kc])
  (k' : Int) (nm' tx' : ByteArray) {a' : Option Addr} {al' ac' : Nat} {ka' : Option Addr} {kl' kc' : Nat} (h1 : Value.slice a' al' ac' = .slice a al ac \/ Value.slice a' al' ac' = .slice none 0 0) (h2 : Value.slice ka' kl' kc' = .slice ka kl kc \/ Value.slice ka' kl' kc' = .slice none 0 0) :
  WT w R n #[.int .i64 k', .string nm', .slice a' al' ac', .string tx', .slice ka' kl' kc'] := by
 cases n with
 | zero => exact h.elim
 | succ n =>
  obtain ⟨k1, nm1, a1, al1, ac1, tx1, ka1, kl1, kc1, e, g1, g2, g3, g4, g5, g6⟩ := h
  simp only [Array.mk.injEq, List.cons.injEq, Value.int.injEq, Value.string.injEq, Value.slice.injEq, true_and, and_true] at e
  obtain ⟨rfl, rfl, ⟨rfl, rfl, rfl⟩, rfl, ⟨rfl, rfl, rfl⟩⟩ := e
  have ha : al' <= maxA /\ al' <= ac' /\ AW w R a' al' := by
   rcases h1 with h1 | h1 <;> cases h1
   ·exact ⟨g1, g3, g5⟩
   ·exact ⟨Nat.zero_le _, Nat.zero_le _, AW.nil _ _ _⟩
  have hk : kl' <= maxK /\ kl' <= kc' /\ ∀ i, i < kl' -> ∃ (b o : Nat) (u : Array Value), ka' = some ⟨b, o, none⟩ /\ R b /\ u.size = 5 /\ (∀ j, j < 5 -> w.cell? ⟨b, o + i * 5 + j, none⟩ = u[j]?) /\ WT w R n u := by
   rcases h2 with h2 | h2 <;> cases h2
   ·exact ⟨g2, g4, g6⟩
   ·exact ⟨Nat.zero_le _, Nat.zero_le _, fun i hi => by omega⟩
  exact ⟨_, _, _, _, _, _, _, _, _, rfl, ha.1, hk.1, ha.2.1, hk.2.1, ha.2.2, hk.2.2⟩
theorem Sv.wt {R : Nat -> Prop} {w w' : World} (s : Sv R w w') (hR : ∀ b, R b -> Wr w b) : ∀ {n : Nat} {v : Array Value}, WT w R n v -> WT w' R n v
 | 0, _, h => h.elim
 | n + 1, v, h => by
  obtain ⟨k, nm, a, al, ac, tx, ka, kl, kc, e, g1, g2, g3, g4, g5, g6⟩ := h
  refine ⟨k, nm, a, al, ac, tx, ka, kl, kc, e, g1, g2, g3, g4, s.aw hR g5, fun i hi => ?_⟩
  obtain ⟨b, o, u, e1, e2, e3, e4, e5⟩ := g6 i hi
  obtain ⟨k2, nm2, a2, al2, ac2, tx2, ka2, kl2, kc2, rfl⟩ := e5.form
  obtain ⟨v0, c0, k0⟩ := s.keep _ _ _ e2 (hR b e2) (e4 0 (by omega))
  obtain ⟨v1, c1, k1⟩ := s.keep _ _ _ e2 (hR b e2) (e4 1 (by omega))
  obtain ⟨v2, c2, k2'⟩ := s.keep _ _ _ e2 (hR b e2) (e4 2 (by omega))
  obtain ⟨v3, c3, k3⟩ := s.keep _ _ _ e2 (hR b e2) (e4 3 (by omega))
  obtain ⟨v4, c4, k4⟩ := s.keep _ _ _ e2 (hR b e2) (e4 4 (by omega))
  obtain ⟨x0, rfl⟩ := k0.int
  obtain ⟨x1, rfl⟩ := k1.str
  obtain ⟨x3, rfl⟩ := k3.str
  have h2 : ∃ a' n' c', v2 = .slice a' n' c' /\ (Value.slice a' n' c' = .slice a2 al2 ac2 \/ Value.slice a' n' c' = .slice none 0 0) := by
   rcases k2'.slice with rfl | rfl
   ·exact ⟨_, _, _, rfl, .inl rfl⟩
   ·exact ⟨_, _, _, rfl, .inr rfl⟩
  have h4 : ∃ a' n' c', v4 = .slice a' n' c' /\ (Value.slice a' n' c' = .slice ka2 kl2 kc2 \/ Value.slice a' n' c' = .slice none 0 0) := by
   rcases k4.slice with rfl | rfl
   ·exact ⟨_, _, _, rfl, .inl rfl⟩
   ·exact ⟨_, _, _, rfl, .inr rfl⟩
  obtain ⟨a', n', c', rfl, h2⟩ := h2
  obtain ⟨a'', n'', c'', rfl, h4⟩ := h4
  refine ⟨b, o, #[.int .i64 x0, .string x1, .slice a' n' c', .string x3, .slice a'' n'' c''], e1, e2, rfl, fun j hj => ?_, (Sv.wt s hR e5).less x0 x1 x3 h2 h4⟩
  rcases j with _ | _ | _ | _ | _ | j
  ·exact c0
  ·exact c1
  ·exact c2
  ·exact c3
  ·exact c4
  ·omega
end Go.Proofs.YtjkgjckkglfokaaGreat.Gr
/- Spoil: a tree is spoilt. -/
namespace Go.Proofs.YtjkgjckkglfokaaGreat.Gr
open Go.RowKit
set_option linter.unusedVariables false
set_option linter.unusedSimpArgs false
set_option maxRecDepth 100000
set_option maxHeartbeats 1000000
def SpP (R : Nat -> Prop) (w : World) (e : Ending) (w' : World) : Prop := e = .returned (.tuple #[]) /\ Sv R w w'
def SpAll (n : Nat) : Prop := ∀ (w : World) (R : Nat -> Prop) (v : Array Value), (∀ b, R b -> Wr w b) -> WT w R n v -> Calls Tryz.prog 38 #[.agg v] w (SpP R w)
theorem Sv.box {R : Nat -> Prop} {a b : World} (h : Sv R a b) {x : Nat} {cs : Array Value} (hx : IsCells a x cs) (hn : ¬ R x) : IsCells b x cs := hx.of_block (h.turn.block x hx.lt hn)
def KW (w : World) (R : Nat -> Prop) (n : Nat) (ka : Option Addr) (kl : Nat) : Prop := ∀ i, i < kl -> ∃ (b o : Nat) (u : Array Value), ka = some ⟨b, o, none⟩ /\ R b /\ u.size = 5 /\ (∀ j, j < 5 -> w.cell? ⟨b, o + i * 5 + j, none⟩ = u[j]?) /\ WT w R n u
theorem Sv.kw {R : Nat -> Prop} {w w' : World} (s : Sv R w w') (hR : ∀ b, R b -> Wr w b) {n : Nat} {ka : Option Addr} {kl : Nat} (h : KW w R n ka kl) (hk : kl <= maxK) : KW w' R n ka kl := by
 have h0 : WT w R (n + 1) #[.int .i64 0, .string ⟨#[]⟩, .slice none 0 0, .string ⟨#[]⟩, .slice ka kl kl] := ⟨_, _, _, _, _, _, _, _, _, rfl, Nat.zero_le _, hk, Nat.zero_le _, Nat.le_refl _, AW.nil _ _ _, h⟩
 obtain ⟨k1, nm1, a1, al1, ac1, tx1, ka1, kl1, kc1, e, g1, g2, g3, g4, g5, g6⟩ := s.wt hR h0
 simp only [Array.mk.injEq, List.cons.injEq, Value.int.injEq, Value.string.injEq, Value.slice.injEq, true_and, and_true] at e
 obtain ⟨rfl, rfl, ⟨rfl, rfl, rfl⟩, rfl, ⟨rfl, rfl, rfl⟩⟩ := e
 exact g6
theorem KW.get {w : World} {R : Nat -> Prop} {n : Nat} {ka : Option Addr} {kl : Nat} (h : KW w R n ka kl) {i : Nat} (hi : i < kl) : ∃ b o kk nm a al ac tx ka' kl' kc, ka = some ⟨b, o, none⟩ /\ R b /\ w.cell? ⟨b, o + i * 5, none⟩ = some (.int .i64 kk) /\ w.cell? ⟨b, o + i * 5 + 1, none⟩ = some (.string nm) /\ w.cell? ⟨b, o + i * 5 + 2, none⟩ = some (.slice a al ac) /\
   w.cell? ⟨b, o + i * 5 + 3, none⟩ = some (.string tx) /\ w.cell? ⟨b, o + i * 5 + 4, none⟩ = some (.slice ka' kl' kc) /\ WT w R n #[.int .i64 kk, .string nm, .slice a al ac, .string tx, .slice ka' kl' kc] := by
 obtain ⟨b, o, u, h1, h2, h4, h5, h6⟩ := h i hi
 obtain ⟨kk, nm, a, al, ac, tx, ka', kl', kc, rfl⟩ := h6.form
 exact ⟨b, o, kk, nm, a, al, ac, tx, ka', kl', kc, h1, h2, h5 0 (by omega), h5 1 (by omega), h5 2 (by omega), h5 3 (by omega), h5 4 (by omega), h6⟩
theorem spoilT_any : ∀ (n : Nat), SpAll n
 | 0 => fun _ _ _ _ h => h.elim
 | n + 1 => by
  intro w R v hR h
  have ih := spoilT_any n
  obtain ⟨k, nm, a, al, ac, tx, ka, kl, kc, rfl, h1, h2, h3, h4, h5, h6⟩ := h
  unfold maxA at h1
  have HIH : Hid (SpAll n) := ih
  have HKM : Hid (kl <= maxK) := h2
  unfold maxK at h2
  have HR : Hid (∀ b, R b -> Wr w b) := hR
  have HA : Hid (AW w R a al) := h5
  have HK : Hid (KW w R n ka kl) := h6
  have HX : Hid (¬ R w.heap.size) := fun hr => by have := (hR _ hr).lt; omega
  have HB0 : Hid (IsCells (w.alloc (.cells #[.int .i64 k, .string nm, .slice a al ac, .string tx, .slice ka kl kc] 31)) w.heap.size #[.int .i64 k, .string nm, .slice a al ac, .string tx, .slice ka kl kc]) := isCells_new _ _ _
  clear hR h5 h6 ih
  go_enter Tryz.func38, Tryz.ntmps38
  go_wp2
  go_loopw [2] (fun iv wr => ∃ i : Nat, i <= al /\ iv = .int .i64 (i : Int) /\ Hid (Sv R w wr) /\ Hid (IsCells wr w.heap.size #[.int .i64 k, .string nm, .slice a al ac, .string tx, .slice ka kl kc])) (fun iv _ => al - (intOf iv).toNat)
  case atStart => exact ⟨0, Nat.zero_le _, rfl, (Sv.refl _ _).alloc _, HB0⟩
  case round =>
   obtain ⟨i, hi, rfl, HS, HB⟩ := hrel
   have hbc := HB.out.cell
   have hbx := HB.out.lt
   by_cases hlt : i < al
   ·obtain ⟨b, o, x, y, ha, hb, hc1, hc2⟩ := HA.out i hlt
    subst ha
    have hwb := HS.out.wr b hb (HR.out b hb)
    have hf := hwb.frozen
    have hbl := hwb.lt
    obtain ⟨v1, hc1', hk1⟩ := HS.out.keep b _ _ hb (HR.out b hb) hc1
    obtain ⟨x', rfl⟩ := hk1.str
    obtain ⟨v2, hc2', hk2⟩ := HS.out.keep b _ _ hb (HR.out b hb) hc2
    obtain ⟨y', rfl⟩ := hk2.str
    have hne : ¬ w.heap.size = b := fun e => HX.out (e ▸ hb)
    have hne' : ¬ b = w.heap.size := fun e => hne e.symm
    have HS2 : Hid (∀ p q, Sv R w ((wr.setCell ⟨b, o + i * 2, none⟩ (.string p)).setCell ⟨b, o + i * 2 + 1, none⟩ (.string q))) := fun p q => (HS.out.put hb (HR.out b hb) hc1 (Bt.s _ _)).put hb (HR.out b hb) hc2 (Bt.s _ _)
    have HB2 : Hid (∀ p q, IsCells ((wr.setCell ⟨b, o + i * 2, none⟩ p).setCell ⟨b, o + i * 2 + 1, none⟩ q) w.heap.size #[.int .i64 k, .string nm, .slice (some ⟨b, o, none⟩) al ac, .string tx, .slice ka kl kc]) := fun p q => (HB.out.other (a := ⟨b, o + i * 2, none⟩) hne p).other (a := ⟨b, o + i * 2 + 1, none⟩) hne q
    clear hk1 hk2 hwb hc1 hc2 HB0
    go_wp2
    go_roundw
    case rel => exact ⟨i + 1, by omega, by go_num, HS2.out _ _, HB2.out _ _⟩
    case measure => simp [intOf]; omega
   ·clear HA
    go_wp2
    go_loopw [3] (fun iv wr => ∃ i : Nat, i <= kl /\ iv = .int .i64 (i : Int) /\ Hid (Sv R w wr) /\ Hid (IsCells wr w.heap.size #[.int .i64 k, .string nm, .slice a al ac, .string tx, .slice ka kl kc])) (fun iv _ => kl - (intOf iv).toNat)
    case atStart => exact ⟨0, Nat.zero_le _, rfl, HS, HB⟩
    case round =>
     clear HS HB hbc hbx HB0
     obtain ⟨i', hi', rfl, HS, HB⟩ := hrel
     have hbc := HB.out.cell
     have hbx := HB.out.lt
     by_cases hlt' : i' < kl
     ·have HKr : Hid (KW _ R n ka kl) := HS.out.kw HR.out HK.out HKM.out
      obtain ⟨b, o, kk, nm', a', al', ac', tx', ka2, kl2, kc2, e, hb, c0, c1, c2, c3, c4, htr⟩ := HKr.out.get hlt'
      subst e
      have HRr : Hid (∀ b, R b -> Wr _ b) := fun b hb => HS.out.wr b hb (HR.out b hb)
      have hcall := HIH.out _ R _ HRr.out htr
      have hwb := HRr.out b hb
      have hf := hwb.frozen
      have hbl := hwb.lt
      have hne : ¬ w.heap.size = b := fun e => HX.out (e ▸ hb)
      have hne' : ¬ b = w.heap.size := fun e => hne e.symm
      have HC : Hid _ := And.intro c0 (And.intro c1 (And.intro c2 (And.intro c3 c4)))
      go_wp2_with fail
      refine hcall.mono ?_
      rintro e w2 ⟨rfl, hs2⟩
      have HS2 : Hid (Sv R _ w2) := hs2
      have hbc2 := (hs2.box HB.out HX.out).cell
      have HB2 : Hid (IsCells w2 _ _) := hs2.box HB.out HX.out
      have hwb2 := hs2.wr b hb hwb
      have hf2 := hwb2.frozen
      have hbl2 := hwb2.lt
      have hbx2 := HB2.out.lt
      obtain ⟨v0, d0, k0⟩ := hs2.keep b _ _ hb hwb c0
      obtain ⟨v1, d1, k1⟩ := hs2.keep b _ _ hb hwb c1
      obtain ⟨v2, d2, k2⟩ := hs2.keep b _ _ hb hwb c2
      obtain ⟨v3, d3, k3⟩ := hs2.keep b _ _ hb hwb c3
      obtain ⟨v4, d4, k4⟩ := hs2.keep b _ _ hb hwb c4
      have HS3 : Hid (∀ p q r, Sv R w (((((w2.setCell ⟨b, o + i' * 5, none⟩ (.int .i64 p)).setCell ⟨b, o + i' * 5 + 1, none⟩ (.string q)).setCell ⟨b, o + i' * 5 + 2, none⟩ (.slice none 0 0)).setCell ⟨b, o + i' * 5 + 3, none⟩ (.string r)).setCell ⟨b, o + i' * 5 + 4, none⟩ (.slice none 0 0))) := fun p q r => HS.out.trans (((((hs2.put hb hwb c0 (Bt.i _ _ _)).put hb hwb c1 (Bt.s _ _)).put hb hwb c2 (Bt.l _ _ _)).put hb hwb c3 (Bt.s _ _)).put hb hwb c4 (Bt.l _ _ _))
      have HB3 : Hid (∀ p q r s t, IsCells (((((w2.setCell ⟨b, o + i' * 5, none⟩ p).setCell ⟨b, o + i' * 5 + 1, none⟩ q).setCell ⟨b, o + i' * 5 + 2, none⟩ r).setCell ⟨b, o + i' * 5 + 3, none⟩ s).setCell ⟨b, o + i' * 5 + 4, none⟩ t) w.heap.size #[.int .i64 k, .string nm, .slice a al ac, .string tx, .slice (some ⟨b, o, none⟩) kl kc]) := fun p q r s t => ((((HB2.out.other (a := ⟨b, o + i' * 5, none⟩) hne p).other (a := ⟨b, o + i' * 5 + 1, none⟩) hne q).other (a := ⟨b, o + i' * 5 + 2, none⟩) hne r).other (a := ⟨b, o + i' * 5 + 3, none⟩) hne s).other (a := ⟨b, o + i' * 5 + 4, none⟩) hne t
      clear hs2 k0 k1 k2 k3 k4 c0 c1 c2 c3 c4 htr HS HB HC hwb hwb2 hf hbl hbc hbx HRr HKr HIH hcall HS2 HB2
      go_wp2
      go_roundw
      case rel => exact ⟨i' + 1, by omega, by go_num, HS3.out _ _ _, HB3.out _ _ _ _ _⟩
      case measure => simp [intOf]; omega
     ·clear HK HIH
      go_wp2
      go_end0
      exact ⟨rfl, HS.out⟩
end Go.Proofs.YtjkgjckkglfokaaGreat.Gr
/- SpoilImage: an image is spoilt. -/
namespace Go.Proofs.YtjkgjckkglfokaaGreat.Gr
open Go.RowKit
set_option linter.unusedVariables false
set_option linter.unusedSimpArgs false
end Go.Proofs.YtjkgjckkglfokaaGreat.Gr
/- Images: two images of one document are told to be the same. -/
namespace Go.Proofs.YtjkgjckkglfokaaGreat.Gr
open Go.RowKit
set_option linter.unusedVariables false
set_option linter.unusedSimpArgs false
end Go.Proofs.YtjkgjckkglfokaaGreat.Gr
/- Meant: what an act means at a document. -/
namespace Go.Proofs.YtjkgjckkglfokaaGreat.Gr
open Go.RowKit
set_option linter.unusedVariables false
set_option linter.unusedSimpArgs false
set_option maxRecDepth 100000
set_option maxHeartbeats 4000000
def actv (k wh : Int) (how : Bool) (n a : Nat) (nm vl : ByteArray) (xk : Int) (xn : ByteArray) (xa : Option Addr) (xal xac : Nat) (xt : ByteArray) (xka : Option Addr) (xkl xkc : Nat) : Array Value :=
 #[.int .i64 k, .int .i64 wh, .bool how, .int .u64 (n : Int), .int .u64 (a : Int), .string nm, .string vl, .int .i64 xk, .string xn, .slice xa xal xac, .string xt, .slice xka xkl xkc]
def MeantP (w : World) (k wh : Int) (nm vl : ByteArray) (xk : Int) (xn : ByteArray) (xa : Option Addr) (xal xac : Nat) (xt : ByteArray) (xka : Option Addr) (xkl xkc : Nat) (e : Ending) (w' : World) : Prop :=
 ∃ how n a, n < 18446744073709551616 /\ a < 18446744073709551616 /\ e = .returned (.agg (actv k wh how n a nm vl xk xn xa xal xac xt xka xkl xkc)) /\ Below w.heap.size w w'
theorem turn12 {A : Nat -> Prop} (w : World) (X : Nat) (h : A X) (v0 v1 v2 v3 v4 v5 v6 v7 v8 v9 v10 v11 : Value) : Turn A w ((((((((((((w.setCell ⟨X, 0, none⟩ v0).setCell ⟨X, 1, none⟩ v1).setCell ⟨X, 2, none⟩ v2).setCell ⟨X, 3, none⟩ v3).setCell ⟨X, 4, none⟩ v4).setCell ⟨X, 5, none⟩ v5).setCell ⟨X, 6, none⟩ v6).setCell ⟨X, 7, none⟩ v7).setCell ⟨X, 8, none⟩ v8).setCell ⟨X, 9, none⟩ v9).setCell ⟨X, 10, none⟩ v10).setCell ⟨X, 11, none⟩ v11) :=
 (((((((((((((Turn.refl A w).setCell (p := ⟨X, 0, none⟩) h v0).setCell (p := ⟨X, 1, none⟩) h v1).setCell (p := ⟨X, 2, none⟩) h v2).setCell (p := ⟨X, 3, none⟩) h v3).setCell (p := ⟨X, 4, none⟩) h v4).setCell (p := ⟨X, 5, none⟩) h v5).setCell (p := ⟨X, 6, none⟩) h v6).setCell (p := ⟨X, 7, none⟩) h v7).setCell (p := ⟨X, 8, none⟩) h v8).setCell (p := ⟨X, 9, none⟩) h v9).setCell (p := ⟨X, 10, none⟩) h v10).setCell (p := ⟨X, 11, none⟩) h v11)
theorem meant_any (w : World) (R : Nat -> Prop) (db : Nat) (D : Dc) (hv : View w R db D) (hw : WF D) (k wh : Int) (how : Bool) (n a : Nat) (nm vl : ByteArray) (xk : Int) (xn : ByteArray) (xa : Option Addr) (xal xac : Nat) (xt : ByteArray) (xka : Option Addr) (xkl xkc : Nat) (hn : n < 18446744073709551616) (ha : a < 18446744073709551616) :
  Calls Tryz.prog 35 #[.pointer (some ⟨db, 0, none⟩), .agg (actv k wh how n a nm vl xk xn xa xal xac xt xka xkl xkc)] w (MeantP w k wh nm vl xk xn xa xal xac xt xka xkl xkc) := by
 unfold actv
 obtain ⟨W1, hW1⟩ : ∃ W1, W1 = (w.alloc (.cells #[.int .i64 k, .int .i64 wh, .bool how, .int .u64 (n : Int), .int .u64 (a : Int), .string nm, .string vl, .int .i64 xk, .string xn, .slice xa xal xac, .string xt, .slice xka xkl xkc] 33)).alloc (.cells #[.int .i64 0, .int .i64 0, .bool false, .int .u64 0, .int .u64 0, .string ⟨#[]⟩, .string ⟨#[]⟩, .int .i64 0, .string ⟨#[]⟩, .slice none 0 0, .string ⟨#[]⟩, .slice none 0 0] 33) := ⟨_, rfl⟩
 have hs1 : W1.heap.size = w.heap.size + 2 := by rw [hW1]; simp
 have hb1 : Below w.heap.size w W1 := by rw [hW1]; exact (below_new' w _).alloc (by simp) _
 have HX1 : Hid (IsCells W1 w.heap.size #[.int .i64 k, .int .i64 wh, .bool how, .int .u64 (n : Int), .int .u64 (a : Int), .string nm, .string vl, .int .i64 xk, .string xn, .slice xa xal xac, .string xt, .slice xka xkl xkc]) := by rw [hW1]; exact (isCells_new w _ _).alloc _
 have HY1 : Hid (IsCells W1 (w.heap.size + 1) #[.int .i64 0, .int .i64 0, .bool false, .int .u64 0, .int .u64 0, .string ⟨#[]⟩, .string ⟨#[]⟩, .int .i64 0, .string ⟨#[]⟩, .slice none 0 0, .string ⟨#[]⟩, .slice none 0 0]) := by
  have := isCells_new (w.alloc (.cells #[.int .i64 k, .int .i64 wh, .bool how, .int .u64 (n : Int), .int .u64 (a : Int), .string nm, .string vl, .int .i64 xk, .string xn, .slice xa xal xac, .string xt, .slice xka xkl xkc] 33)) #[.int .i64 0, .int .i64 0, .bool false, .int .u64 0, .int .u64 0, .string ⟨#[]⟩, .string ⟨#[]⟩, .int .i64 0, .string ⟨#[]⟩, .slice none 0 0, .string ⟨#[]⟩, .slice none 0 0] 33
  rw [hW1]
  simp only [World.alloc, Array.size_push] at this ⊢
  exact this
 have hall := rAll_some W1 R db D 0 (hv.below hb1) hw (.inl rfl)
 rw [hW1] at hall
 have hlen := allA_len hw (h := 0) (.inl rfl)
 have HW1 := hid hW1
 have HB1 := hid hb1
 have HS1 := hid hs1
 clear hs1 hb1 hW1 hv
 go_enter Tryz.func35, Tryz.ntmps35
 go_wp2_with fail
 refine hall.mono ?_
 rw [<- HW1.out]
 rintro e w2 ⟨la, lc, rfl, hown, hb2⟩
 have HYL : Hid (∀ y ∈ allA D 0, y < 18446744073709551616) := fun y hy => by
  obtain ⟨s', hs'⟩ := allR_live hw y (by simpa [allA] using hy)
  exact (hw.lt hs').1
 generalize allA D 0 = ys at *
 have HO := hid hown
 have HX2 := hid (HX1.out.of_block (hb2.block _ HX1.out.lt))
 have HY2 := hid (HY1.out.of_block (hb2.block _ HY1.out.lt))
 have HB2 := hid (HB1.out.trans (hb2.mono HB1.out.size))
 have hc := HX2.out.cell
 have hf := HX2.out.frozen
 have hd := HY2.out.cell
 have hg := HY2.out.frozen
 have hl1 := HX2.out.lt
 have hl2 := HY2.out.lt
 have HTD : Hid (∀ w', Turn (fun b => b = w.heap.size \/ b = w.heap.size + 1) w2 w' -> Below w.heap.size w w') := fun w' ht => HB2.out.trans (ht.below HB2.out.size (fun k hk => by omega))
 clear hall hown hb2 HX1 HY1 HW1
 cases how with
 | false =>
  go_wp2
  refine bodyPost_ret (v := .agg (actv k wh false n a nm vl xk xn xa xal xac xt xka xkl xkc)) (by simp [results, Tryz.results35, go_sem, hd, actv]) rfl ⟨_, _, _, hn, ha, rfl, ?_⟩
  refine HTD.out _ ?_
  exact turn12 _ _ (.inr rfl) _ _ _ _ _ _ _ _ _ _ _ _
 | true =>
  by_cases h0 : ys.length = 0
  ·have hy : ys = [] := List.length_eq_zero_iff.1 h0
   subst hy
   clear h0
   go_wp2
   refine bodyPost_ret (v := .agg (actv k wh false n 0 nm vl xk xn xa xal xac xt xka xkl xkc)) (by simp [results, Tryz.results35, go_sem, hd, actv]) rfl ⟨_, _, _, hn, by omega, rfl, ?_⟩
   refine HTD.out _ ?_
   exact (((Turn.refl _ w2).setCell (p := ⟨w.heap.size, 2, none⟩) (.inl rfl) _).setCell (p := ⟨w.heap.size, 4, none⟩) (.inl rfl) _).trans (turn12 _ _ (.inr rfl) _ _ _ _ _ _ _ _ _ _ _ _)
  ·obtain ⟨-, -, hrow⟩ := row_cell HO.out
   have hpos : 0 < ys.length := by omega
   have hr1 : n % ys.length < ys.length := Nat.mod_lt _ hpos
   obtain ⟨x, hx⟩ : ∃ x, ys[n % ys.length]? = some x := ⟨_, List.getElem?_eq_getElem hr1⟩
   obtain ⟨g, e1, e2, e3, e4⟩ := hrow (n % ys.length) (.int .u64 (x : Int)) (by unfold hvals; rw [List.getElem?_map, hx]; rfl)
   subst e1
   have hg1 : ¬ g = w.heap.size := by have := HS1.out; omega
   have hg2 : ¬ w.heap.size = g := by have := HS1.out; omega
   have hxl : x < 18446744073709551616 := HYL.out x (List.mem_of_getElem? hx)
   have hcast : (a : Int) % ((ys.length : Int) + 1) = ((a % (ys.length + 1) : Nat) : Int) := by
    rw [show ((ys.length : Int) + 1) = ((ys.length + 1 : Nat) : Int) from by simp, <- Int.natCast_emod]
   by_cases ht : a % (ys.length + 1) = ys.length
   ·have hq : ((a : Int) % ((ys.length : Int) + 1) == (ys.length : Int)) = true := by rw [hcast, ht]; simp
    clear hcast ht
    go_wp2
    refine bodyPost_ret (v := .agg (actv k wh false x 0 nm vl xk xn xa xal xac xt xka xkl xkc)) (by simp [results, Tryz.results35, go_sem, hd, actv]) rfl ⟨_, _, _, hxl, by omega, rfl, ?_⟩
    refine HTD.out _ ?_
    exact ((((Turn.refl _ w2).setCell (p := ⟨w.heap.size, 2, none⟩) (.inl rfl) _).setCell (p := ⟨w.heap.size, 3, none⟩) (.inl rfl) _).setCell (p := ⟨w.heap.size, 4, none⟩) (.inl rfl) _).trans (turn12 _ _ (.inr rfl) _ _ _ _ _ _ _ _ _ _ _ _)
   ·have hq : ((a : Int) % ((ys.length : Int) + 1) == (ys.length : Int)) = false := by rw [hcast]; simp; omega
    have hr2 : a % (ys.length + 1) < ys.length := by have := Nat.mod_lt a (show 0 < ys.length + 1 by omega); omega
    obtain ⟨y, hy⟩ : ∃ y, ys[a % (ys.length + 1)]? = some y := ⟨_, List.getElem?_eq_getElem hr2⟩
    obtain ⟨g', e1', e2', e3', e4'⟩ := hrow (a % (ys.length + 1)) (.int .u64 (y : Int)) (by unfold hvals; rw [List.getElem?_map, hy]; rfl)
    cases e1'
    have hyl : y < 18446744073709551616 := HYL.out y (List.mem_of_getElem? hy)
    have hin : (0 : Int) <= (a : Int) % ((ys.length : Int) + 1) /\ (a : Int) % ((ys.length : Int) + 1) < (ys.length : Int) := by rw [hcast]; omega
    have hin1 := hin.1
    have hin2 := hin.2
    clear hcast ht hrow
    go_wp2
    refine bodyPost_ret (v := .agg (actv k wh false x y nm vl xk xn xa xal xac xt xka xkl xkc)) (by simp [results, Tryz.results35, go_sem, hd, actv]) rfl ⟨_, _, _, hxl, hyl, rfl, ?_⟩
    refine HTD.out _ ?_
    exact ((((Turn.refl _ w2).setCell (p := ⟨w.heap.size, 2, none⟩) (.inl rfl) _).setCell (p := ⟨w.heap.size, 3, none⟩) (.inl rfl) _).setCell (p := ⟨w.heap.size, 4, none⟩) (.inl rfl) _).trans (turn12 _ _ (.inr rfl) _ _ _ _ _ _ _ _ _ _ _ _)
end Go.Proofs.YtjkgjckkglfokaaGreat.Gr
