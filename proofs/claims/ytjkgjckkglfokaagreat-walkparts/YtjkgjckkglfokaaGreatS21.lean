/- Insert of the document: too many nodes; a tree put in. -/
import Derived.Test.YtjkgjckkglfokaaGreatS20
import Derived.Deep.RegionHeld3
import Derived.Laws.OwnMore
import Derived.Deep.DeepCutAuto
import Derived.Test.YtjkgjckkglfokaaGreatS04
import Derived.Test.YtjkgjckkglfokaaGreatS05
namespace Go.Proofs.YtjkgjckkglfokaaGreat.Gr
open Go.RowKit
set_option linter.unusedVariables false
set_option linter.unusedSimpArgs false
set_option maxRecDepth 100000
set_option maxHeartbeats 2000000
theorem rins_many (n : Nat) (w : World) (v : Array Value) (t : T n) (lo hi : Nat) (Q : Nat -> Prop) (rb a : Nat) (wh : Int) (D : Dc) (h : TreeAt w lo hi n v t) (hsz : hi <= w.heap.size) (hrb : hi <= rb) (hd : RDoc w Q rb D) (hw : WF D) (hal : a < 18446744073709551616) (hpl : isPlaceB wh a = true) (hcz : (chk n t 1 0).2 = 0) (hpz : (placeE D wh a).2 = 0) (hdp : (ups D (placeE D wh a).1).length + htT n t <= 64) (hmn : 4096 < cnt takenB D.S + ndT n t) :
  Calls Tryz.prog 37 #[.pointer (some ⟨rb, 0, none⟩), .int .i64 wh, .int .u64 (a : Int), .agg v] w (RInsP w Q rb D 0 33) := by
 have hv := hd.view
 have HD : Hid (RDoc w Q rb D) := hd
 obtain ⟨tk, nm, aa, al, ac, tx, ka, kl, kc, rfl⟩ := h.form
 have HBX : Hid (Below w.heap.size w (w.alloc (.cells #[.int .i64 tk, .string nm, .slice aa al ac, .string tx, .slice ka kl kc] 31))) := below_new' w _
 have HBC : Hid (IsCells (w.alloc (.cells #[.int .i64 tk, .string nm, .slice aa al ac, .string tx, .slice ka kl kc] 31)) w.heap.size #[.int .i64 tk, .string nm, .slice aa al ac, .string tx, .slice ka kl kc]) := isCells_new w _ _
 have hvx : View (w.alloc (.cells #[.int .i64 tk, .string nm, .slice aa al ac, .string tx, .slice ka kl kc] 31)) _ rb D := hv.below (below_new' w _)
 have hpc := rplace_any (w.alloc (.cells #[.int .i64 tk, .string nm, .slice aa al ac, .string tx, .slice ka kl kc] 31)) _ rb D wh a hvx hw hal hpl
 have hck := fun W (hb : Below w.heap.size w W) => rCheck_any n W _ t lo hi (h.below hb hsz) (Nat.le_trans hsz hb.size)
 have hz1 : ((placeE D wh a).2 == 1) = false := by rcases placeE_err D wh a with e | e | e <;> rw [e] <;> decide
 obtain ⟨o1, o2, o3⟩ := chk_ok n t 1 0 (by omega) (by omega) (by omega) hcz
 have hn4 : ndT n t <= 4096 := by
  have := chk_le n t 1 0 (by omega)
  omega
 have hpp := (placeE_live hw hpz).1
 obtain ⟨lv, hlv0⟩ := hw.lev
 have hul : (ups D (placeE D wh a).1).length <= 64 := by rw [ups_length hlv0 hpp]; exact dep_le hlv0 hpp
 have hme := fun W (hb : Below w.heap.size w W) => rsizeT_any n W _ t lo hi (h.below hb hsz) (Nat.le_trans hsz hb.size) o1 hn4 (by omega)
 have hle := fun W (hb : Below w.heap.size w W) => rlevel_any W _ rb D (placeE D wh a).1 (hv.below hb) hw hpp
 rw [hcz] at hck
 rw [hpz] at hpc hz1
 have htk := fun W (hb : Below w.heap.size w W) => rtaken_any W _ rb D (hv.below hb) hw.fits
 have hcl : cnt takenB D.S <= 4096 := Nat.le_trans (List.length_filter_le _ _) hw.fits.len
 generalize (ups D (placeE D wh a).1).length = ul at *
 generalize (placeE D wh a).1 = p at *
 generalize htT n t = ht at *
 generalize ndT n t = nd at *
 generalize cnt takenB D.S = ct at *
 have hdb : ¬ (64 : Int) < (ul : Int) - 1 + 1 + (ht : Int) := by omega
 have hmb : (4096 : Int) < (ct : Int) + (nd : Int) := by omega
 clear hd hv hvx h hw hpl hcz hpz o1 o2 hlv0 hpp
 go_enter Tryz.func37, Tryz.ntmps37
 go_wp2_with fail
 refine (hpc).mono ?_
 rintro e w1 ⟨rfl, hb⟩
 have HB1 : Hid (Below w.heap.size w w1) := HBX.out.trans (hb.mono HBX.out.size)
 have HC1 : Hid (IsCells w1 w.heap.size #[.int .i64 tk, .string nm, .slice aa al ac, .string tx, .slice ka kl kc]) := HBC.out.of_block (hb.block w.heap.size HBC.out.lt)
 clear hb
 have hck1 := hck w1 HB1.out
 clear hck hpc
 have hx0 := HC1.out.cell 0
 have hx1 := HC1.out.cell 1
 have hx2 := HC1.out.cell 2
 have hx3 := HC1.out.cell 3
 have hx4 := HC1.out.cell 4
 simp at hx0 hx1 hx2 hx3 hx4
 go_wp2_with fail
 refine (hck1).mono ?_
 rintro e w2 ⟨rfl, hb⟩
 have HB2 : Hid (Below w.heap.size w w2) := HB1.out.trans (hb.mono HB1.out.size)
 have HC2 : Hid (IsCells w2 w.heap.size #[.int .i64 tk, .string nm, .slice aa al ac, .string tx, .slice ka kl kc]) := HC1.out.of_block (hb.block w.heap.size HC1.out.lt)
 clear hb
 clear hck1
 clear hx0 hx1 hx2 hx3 hx4
 have hx0 := HC2.out.cell 0
 have hx1 := HC2.out.cell 1
 have hx2 := HC2.out.cell 2
 have hx3 := HC2.out.cell 3
 have hx4 := HC2.out.cell 4
 simp at hx0 hx1 hx2 hx3 hx4
 have hme2 := hme w2 HB2.out
 clear hme
 go_wp2_with fail
 refine (hme2).mono ?_
 rintro e w3 ⟨rfl, hb⟩
 have HB3 : Hid (Below w.heap.size w w3) := HB2.out.trans (hb.mono HB2.out.size)
 have HC3 : Hid (IsCells w3 w.heap.size #[.int .i64 tk, .string nm, .slice aa al ac, .string tx, .slice ka kl kc]) := HC2.out.of_block (hb.block w.heap.size HC2.out.lt)
 clear hb
 clear hme2
 clear hx0 hx1 hx2 hx3 hx4
 have hle3 := hle w3 HB3.out
 clear hle
 go_wp2_with fail
 refine (hle3).mono ?_
 rintro e w4 ⟨rfl, hb⟩
 have HB4 : Hid (Below w.heap.size w w4) := HB3.out.trans (hb.mono HB3.out.size)
 have HC4 : Hid (IsCells w4 w.heap.size #[.int .i64 tk, .string nm, .slice aa al ac, .string tx, .slice ka kl kc]) := HC3.out.of_block (hb.block w.heap.size HC3.out.lt)
 clear hb
 clear hle3
 have htk4 := htk w4 HB4.out
 clear htk
 go_wp2_with fail
 refine htk4.mono ?_
 rintro e w5 ⟨rfl, rfl⟩
 clear htk4
 go_wp2
 go_ret2
 exact rinsp_same HD.out HB4.out
theorem rins_ok (n : Nat) (w : World) (v : Array Value) (t : T n) (lo hi : Nat) (Q : Nat -> Prop) (rb a : Nat) (wh : Int) (D : Dc) (h : TreeAt w lo hi n v t) (hsz : hi <= w.heap.size) (hrb : hi <= rb) (hd : RDoc w Q rb D) (hw : WF D) (hal : a < 18446744073709551616) (hpl : isPlaceB wh a = true) (hcz : (chk n t 1 0).2 = 0) (hpz : (placeE D wh a).2 = 0) (hdp : (ups D (placeE D wh a).1).length + htT n t <= 64) (hmn : cnt takenB D.S + ndT n t <= 4096) :
  Calls Tryz.prog 37 #[.pointer (some ⟨rb, 0, none⟩), .int .i64 wh, .int .u64 (a : Int), .agg v] w (RInsP w Q rb (putD (growD n t (placeE D wh a).1 D).1 (growD n t (placeE D wh a).1 D).2 (placeE D wh a).1 wh a) (growD n t (placeE D wh a).1 D).2 0) := by
 have hv := hd.view
 have HD : Hid (RDoc w Q rb D) := hd
 obtain ⟨tk, nm, aa, al, ac, tx, ka, kl, kc, rfl⟩ := h.form
 have HBX : Hid (Below w.heap.size w (w.alloc (.cells #[.int .i64 tk, .string nm, .slice aa al ac, .string tx, .slice ka kl kc] 31))) := below_new' w _
 have HBC : Hid (IsCells (w.alloc (.cells #[.int .i64 tk, .string nm, .slice aa al ac, .string tx, .slice ka kl kc] 31)) w.heap.size #[.int .i64 tk, .string nm, .slice aa al ac, .string tx, .slice ka kl kc]) := isCells_new w _ _
 have hvx : View (w.alloc (.cells #[.int .i64 tk, .string nm, .slice aa al ac, .string tx, .slice ka kl kc] 31)) _ rb D := hv.below (below_new' w _)
 have hpc := rplace_any (w.alloc (.cells #[.int .i64 tk, .string nm, .slice aa al ac, .string tx, .slice ka kl kc] 31)) _ rb D wh a hvx hw hal hpl
 have hck := fun W (hb : Below w.heap.size w W) => rCheck_any n W _ t lo hi (h.below hb hsz) (Nat.le_trans hsz hb.size)
 have hz1 : ((placeE D wh a).2 == 1) = false := by rcases placeE_err D wh a with e | e | e <;> rw [e] <;> decide
 obtain ⟨o1, o2, o3⟩ := chk_ok n t 1 0 (by omega) (by omega) (by omega) hcz
 have hn4 : ndT n t <= 4096 := by
  have := chk_le n t 1 0 (by omega)
  omega
 have hpp := (placeE_live hw hpz).1
 obtain ⟨lv, hlv0⟩ := hw.lev
 have hul : (ups D (placeE D wh a).1).length <= 64 := by rw [ups_length hlv0 hpp]; exact dep_le hlv0 hpp
 have hme := fun W (hb : Below w.heap.size w W) => rsizeT_any n W _ t lo hi (h.below hb hsz) (Nat.le_trans hsz hb.size) o1 hn4 (by omega)
 have hle := fun W (hb : Below w.heap.size w W) => rlevel_any W _ rb D (placeE D wh a).1 (hv.below hb) hw hpp
 rw [hcz] at hck
 rw [hpz] at hpc hz1
 have htk := fun W (hb : Below w.heap.size w W) => rtaken_any W _ rb D (hv.below hb) hw.fits
 have hz : insE D wh a n t = 0 := by
  unfold insE
  rw [if_neg (by simp [hpl]), if_neg (by simp [hcz]), if_neg (by simp [hpz]), if_neg (by omega), if_neg (by omega)]
 obtain ⟨f1, f2, f3, f4⟩ := place_facts hw hpz hpl
 obtain ⟨N, hgn, sn, k1, k2⟩ := ins_grown hw hz
 have hpN : (placeE D wh a).1 ∉ N := hgn.notin hpp
 have hlE : lst (growD n t (placeE D wh a).1 D).1 (placeE D wh a).1 = lst D (placeE D wh a).1 := hgn.lst_old hpN
 have hppE : (placeE D wh a).1 = 0 \/ ∃ s, sl (growD n t (placeE D wh a).1 D).1 (placeE D wh a).1 = some s := hpp.imp id (fun ⟨s, hs⟩ => ⟨s, by rw [hgn.old _ hpN]; exact hs⟩)
 have hpl64 := hw.ltz hpp
 obtain ⟨iN, haN, hiN, -, hhN⟩ := sl_live k1
 have hnl : (growD n t (placeE D wh a).1 D).2 < 18446744073709551616 := by
  have h1 := hgn.sane.fits.gen iN sn hiN
  have h2 := (List.getElem?_eq_some_iff.1 hiN).1
  have h3 := hgn.sane.fits.len
  rw [hhN]
  unfold hnd
  omega
 have HPUT : Hid (∀ W base Q g cap ra rcap L, RdS W base Q rb (growD n t (placeE D wh a).1 D).1 g cap ra rcap L -> Calls Tryz.prog 76 #[.pointer (some ⟨rb, 0, none⟩), .int .u64 ((growD n t (placeE D wh a).1 D).2 : Int), .int .u64 ((placeE D wh a).1 : Int), .int .i64 wh, .int .u64 (a : Int)] W (OutP W base Q rb (putD (growD n t (placeE D wh a).1 D).1 (growD n t (placeE D wh a).1 D).2 (placeE D wh a).1 wh a) g cap)) := fun W base Q g cap ra rcap L hW =>
  rput_any W base Q rb _ g cap ra rcap L _ _ a iN wh hW hgn.sane.fits hppE hpl64 hnl (by rw [hlE]; exact lst_len hw hpp) haN (by
   rcases f4 with h | h | ⟨h1, h2⟩
   ·exact .inl h
   ·exact .inr (.inl h)
   ·exact .inr (.inr ⟨h1, by rw [hlE]; exact h2⟩))
 have HMK : Hid (∀ W base Q g cap ra rcap L, Below w.heap.size w W \/ True -> (∀ b o, lo <= b -> b < hi -> W.cell? ⟨b, o, none⟩ = w.cell? ⟨b, o, none⟩) -> hi <= W.heap.size -> RdS W base Q rb D g cap ra rcap L -> Calls Tryz.prog 75 #[.pointer (some ⟨rb, 0, none⟩), .agg #[.int .i64 tk, .string nm, .slice aa al ac, .string tx, .slice ka kl kc], .int .u64 ((placeE D wh a).1 : Int)] W (MakeP W base (fun _ => Q) rb g ra rcap D L (growD n t (placeE D wh a).1 D).1 (growD n t (placeE D wh a).1 D).2)) := fun W base Q g cap ra rcap L _ hc hs hW =>
  make_any n W _ t lo hi _ base _ rb D g cap ra rcap L (h.of_cells hc) hs hrb hW.toM hw.sane (by omega) hpp hpl64 o1
 have hcl : cnt takenB D.S <= 4096 := Nat.le_trans (List.length_filter_le _ _) hw.fits.len
 have hlen := hw.fits.len
 generalize (growD n t (placeE D wh a).1 D).1 = E at *
 generalize (growD n t (placeE D wh a).1 D).2 = H at *
 generalize (ups D (placeE D wh a).1).length = ul at *
 generalize (placeE D wh a).1 = p at *
 generalize htT n t = ht at *
 generalize ndT n t = nd at *
 generalize cnt takenB D.S = ct at *
 have hdb : ¬ (64 : Int) < (ul : Int) - 1 + 1 + (ht : Int) := by omega
 have hmb : ¬ (4096 : Int) < (ct : Int) + (nd : Int) := by omega
 have hrbl := hd.rbl
 clear hd hv hvx h hw hpl hcz hpz o1 o2 hlv0 hpp hz f1 f2 f3 f4 hgn k1 k2 hpN hlE hppE haN hiN hhN
 go_enter Tryz.func37, Tryz.ntmps37
 go_wp2_with fail
 refine (hpc).mono ?_
 rintro e w1 ⟨rfl, hb⟩
 have HB1 : Hid (Below w.heap.size w w1) := HBX.out.trans (hb.mono HBX.out.size)
 have HC1 : Hid (IsCells w1 w.heap.size #[.int .i64 tk, .string nm, .slice aa al ac, .string tx, .slice ka kl kc]) := HBC.out.of_block (hb.block w.heap.size HBC.out.lt)
 clear hb
 have hck1 := hck w1 HB1.out
 clear hck hpc
 have hx0 := HC1.out.cell 0
 have hx1 := HC1.out.cell 1
 have hx2 := HC1.out.cell 2
 have hx3 := HC1.out.cell 3
 have hx4 := HC1.out.cell 4
 simp at hx0 hx1 hx2 hx3 hx4
 go_wp2_with fail
 refine (hck1).mono ?_
 rintro e w2 ⟨rfl, hb⟩
 have HB2 : Hid (Below w.heap.size w w2) := HB1.out.trans (hb.mono HB1.out.size)
 have HC2 : Hid (IsCells w2 w.heap.size #[.int .i64 tk, .string nm, .slice aa al ac, .string tx, .slice ka kl kc]) := HC1.out.of_block (hb.block w.heap.size HC1.out.lt)
 clear hb
 clear hck1
 clear hx0 hx1 hx2 hx3 hx4
 have hx0 := HC2.out.cell 0
 have hx1 := HC2.out.cell 1
 have hx2 := HC2.out.cell 2
 have hx3 := HC2.out.cell 3
 have hx4 := HC2.out.cell 4
 simp at hx0 hx1 hx2 hx3 hx4
 have hme2 := hme w2 HB2.out
 clear hme
 go_wp2_with fail
 refine (hme2).mono ?_
 rintro e w3 ⟨rfl, hb⟩
 have HB3 : Hid (Below w.heap.size w w3) := HB2.out.trans (hb.mono HB2.out.size)
 have HC3 : Hid (IsCells w3 w.heap.size #[.int .i64 tk, .string nm, .slice aa al ac, .string tx, .slice ka kl kc]) := HC2.out.of_block (hb.block w.heap.size HC2.out.lt)
 clear hb
 clear hme2
 clear hx0 hx1 hx2 hx3 hx4
 have hle3 := hle w3 HB3.out
 clear hle
 go_wp2_with fail
 refine (hle3).mono ?_
 rintro e w4 ⟨rfl, hb⟩
 have HB4 : Hid (Below w.heap.size w w4) := HB3.out.trans (hb.mono HB3.out.size)
 have HC4 : Hid (IsCells w4 w.heap.size #[.int .i64 tk, .string nm, .slice aa al ac, .string tx, .slice ka kl kc]) := HC3.out.of_block (hb.block w.heap.size HC3.out.lt)
 clear hb
 clear hle3
 have htk4 := htk w4 HB4.out
 clear htk
 go_wp2_with fail
 refine htk4.mono ?_
 rintro e w5 ⟨rfl, rfl⟩
 clear htk4
 have hdd := HD.out.below HB4.out
 obtain ⟨sa, scap, ra, rcap, hh1, hsc, hrc, hsl, hra⟩ := id hdd.head
 obtain ⟨L, hL, hv, hnews⟩ := hsl.row
 have hz0 : w5.cell? ⟨rb, 0, none⟩ = some (.slice sa D.S.length scap) := by rw [hh1.cell]; rfl
 have HDD : Hid (RDoc w5 Q rb D) := hdd
 have HH : Hid (IsCells w5 rb #[.slice sa D.S.length scap, .slice ra D.roots.length rcap]) := hh1
 have HRA : Hid (HandsAt w5 Q ra D.roots) := hra
 have HV : Hid (∀ (i : Nat) (s : Sl) (p : Value × Value), D.S[i]? = some s -> L[i]? = some p -> SlotVals w5 Q s p) := hv
 have HL : Hid (L.length = D.S.length) := hL
 have HN : Hid (∀ j u, (rowOf D.S L)[j]? = some u -> ∃ ad, sa = some ad /\ (w5.alloc (.cells #[] 100)).cell? (ad.add j) = some u) := fun j u hu => by
  obtain ⟨ad, e1, e2⟩ := hnews j u hu
  refine ⟨ad, e1, ?_⟩
  rw [World.cell?_of_block (w := w5) (Below.heap_alloc _ _ _ (World.block_lt_of_cell? w5 _ e2))]
  exact e2
 clear hdd hh1 hra hv hL hnews hsl
 have hs5 := HB4.out.size
 have hrb1 : rb < w5.heap.size := by omega
 have hwl5 : w.heap.size < w5.heap.size := HC4.out.lt
 have hnr : ¬ w.heap.size = rb := by omega
 have hnr2 : ¬ rb = w.heap.size := by omega
 have tok : True := trivial
 go_wp2_with (at_builtin; have _t := tok; refine wpList_app rfl _ _ rfl Tryz.underlying22 info75 rfl (by decide) w5.heap.size (.slice (some ⟨w5.heap.size, 0, none⟩) 0 0) 0 [] rfl (own_new w5 100 8) sa D.S.length scap (rowOf D.S L) rfl (rowOf_len HL.out) HN.out (rows_vals HV.out) (by unfold maxLen; omega) (by omega) (by simp) ?_; intro v1 w7 hown1 hg1 hnil1 hat1; clear tok _t; rw [Nat.zero_add, List.nil_append] at hown1; have hb7 : Below w5.heap.size w5 w7 := ((below_new' w5 _).grown hg1 (by simp) (fun k hk => by simp only [Value.ownBlock, Option.some.injEq] at hk; omega)); obtain ⟨g, cap2, hv1, hrds, htn, hhd⟩ := HDD.out.copied HH.out hrc HRA.out HL.out HV.out (below_new' w5 _) (fun k hk => by simp only [Value.ownBlock, Option.some.injEq] at hk; omega) (by simp) hown1 hg1 hnil1; subst hv1; have hc0 := hhd.cell; have hf0 := hhd.frozen; have HRS : Hid (RdS (w7.setCell ⟨rb, 0, none⟩ (.slice (some ⟨g, 0, none⟩) D.S.length cap2)) w5.heap.size Q rb D g cap2 ra rcap L) := hrds; have HT : Hid (Turn (fun b => b = rb) w5 (w7.setCell ⟨rb, 0, none⟩ (.slice (some ⟨g, 0, none⟩) D.S.length cap2))) := htn; have hgb := hrds.gb; have HC7 : Hid (IsCells w7 w.heap.size #[.int .i64 tk, .string nm, .slice aa al ac, .string tx, .slice ka kl kc]) := (HC4.out.of_block (hb7.block _ hwl5)); have hx0 := HC7.out.cell 0; have hx1 := HC7.out.cell 1; have hx2 := HC7.out.cell 2; have hx3 := HC7.out.cell 3; have hx4 := HC7.out.cell 4; simp at hx0 hx1 hx2 hx3 hx4; have hw7l : w.heap.size < w7.heap.size := HC7.out.lt; have hrw7 : rb < w7.heap.size := Nat.lt_of_lt_of_le hrb1 hb7.size; clear hrds htn hown1 hg1 hnil1 hat1 hhd hb7)
 have hmk := HMK.out _ _ _ _ _ _ _ _ (.inr trivial) (fun b o h1 h2 => by
  have e1 : (w7.setCell ⟨rb, 0, none⟩ (.slice (some ⟨g, 0, none⟩) D.S.length cap2)).cell? ⟨b, o, none⟩ = w5.cell? ⟨b, o, none⟩ := World.cell?_of_block (w := w5) (a := ⟨b, o, none⟩) (HT.out.block b (by omega) (by omega))
  exact e1.trans (HB4.out.cell (p := ⟨b, o, none⟩) (show b < w.heap.size by omega))) (by have := HT.out.size; omega) HRS.out
 refine hmk.mono ?_
 rintro e w8 ⟨rfl, Q8, g8, L8, hm8⟩
 obtain ⟨cap8, hd8⟩ := hm8.doc
 have hput := HPUT.out _ _ _ _ _ _ _ _ hd8.toS
 have hsT := HT.out.size
 have hs8 := hm8.turn.size
 have HT8 : Hid (Turn (fun b => b = rb) w5 w8) := ((HT.out.mono (B := fun b => b = rb \/ b = g) (fun _ _ h => .inl h)).trans hm8.turn).mono (fun b hb h => by
  rcases h with h | h
  ·exact h
  ·omega)
 have HQ8 : Hid (∀ b, (∃ k, Q8 k b) -> Q b \/ w.heap.size <= b) := fun b ⟨k, hb⟩ => by
  rcases hm8.from' k b hb with h | h
  ·exact .inl h
  ·exact .inr (by omega)
 have hg8 : w5.heap.size <= g8 := by
  rcases hm8.gn with e | e
  ·omega
  ·omega
 clear hmk hm8 hd8 HMK HPUT HRS HT hc0 hf0 HN HL HV HRA HH HDD hz0 hrc hsc hx0 hx1 hx2 hx3 hx4
 go_wp2_with fail
 refine hput.mono ?_
 rintro e w9 ⟨rfl, ⟨Q9, ra9, rcap9, L9, hr9, hq9⟩, ht9⟩
 have HT9 : Hid (Turn (fun b => b = rb) w5 w9) := ((HT8.out.mono (B := fun b => b = rb \/ b = g8) (fun _ _ h => .inl h)).trans ht9).mono (fun b hb h => by
  rcases h with h | h
  ·exact h
  ·omega)
 have HQ9 : Hid (∀ b, Q9 b -> Q b \/ w.heap.size <= b) := fun b hb => by
  rcases hq9 b hb with h | h
  ·exact HQ8.out b h
  ·exact .inr (by omega)
 have HR9 : Hid (RdS w9 w5.heap.size Q9 rb (putD E H p wh a) g8 _ ra9 rcap9 L9) := hr9
 clear hr9 hq9 ht9 hput
 go_wp2
 go_ret2
 exact ⟨rfl, (HR9.out.close (z := 0) HB4.out HT9.out HQ9.out HD.out.lt HD.out.nrb hrbl).2⟩
theorem rins_any (n : Nat) (w : World) (v : Array Value) (t : T n) (lo hi : Nat) (Q : Nat -> Prop) (rb a : Nat) (wh : Int) (D : Dc) (h : TreeAt w lo hi n v t) (hsz : hi <= w.heap.size) (hrb : hi <= rb) (hd : RDoc w Q rb D) (hw : WF D) (hal : a < 18446744073709551616) :
  Calls Tryz.prog 37 #[.pointer (some ⟨rb, 0, none⟩), .int .i64 wh, .int .u64 (a : Int), .agg v] w (RInsP w Q rb (insD D wh a n t).1 (insD D wh a n t).2 (insE D wh a n t)) := by
 have hbad : insE D wh a n t ≠ 0 -> insD D wh a n t = (D, 0) := fun h => by unfold insD; rw [if_neg h]
 cases hpl : isPlaceB wh a with
 | false =>
  have e : insE D wh a n t = 1 := by unfold insE; rw [if_pos hpl]
  rw [hbad (by rw [e]; decide), e]
  exact rins_arg n w v t lo hi Q rb a wh D h hsz hrb hd hw hal hpl
 | true =>
  by_cases hcz : (chk n t 1 0).2 = 0
  ·by_cases hpz : (placeE D wh a).2 = 0
   ·by_cases hdp : 64 < (ups D (placeE D wh a).1).length + htT n t
    ·have e : insE D wh a n t = 32 := by unfold insE; rw [if_neg (by simp [hpl]), if_neg (by simp [hcz]), if_neg (by simp [hpz]), if_pos hdp]
     rw [hbad (by rw [e]; decide), e]
     exact rins_deep n w v t lo hi Q rb a wh D h hsz hrb hd hw hal hpl hcz hpz hdp
    ·by_cases hmn : 4096 < cnt takenB D.S + ndT n t
     ·have e : insE D wh a n t = 33 := by unfold insE; rw [if_neg (by simp [hpl]), if_neg (by simp [hcz]), if_neg (by simp [hpz]), if_neg hdp, if_pos hmn]
      rw [hbad (by rw [e]; decide), e]
      exact rins_many n w v t lo hi Q rb a wh D h hsz hrb hd hw hal hpl hcz hpz (by omega) hmn
     ·have e : insE D wh a n t = 0 := by unfold insE; rw [if_neg (by simp [hpl]), if_neg (by simp [hcz]), if_neg (by simp [hpz]), if_neg hdp, if_neg hmn]
      have ei : insD D wh a n t = (putD (growD n t (placeE D wh a).1 D).1 (growD n t (placeE D wh a).1 D).2 (placeE D wh a).1 wh a, (growD n t (placeE D wh a).1 D).2) := by unfold insD; rw [if_pos e]
      rw [ei, e]
      exact rins_ok n w v t lo hi Q rb a wh D h hsz hrb hd hw hal hpl hcz hpz (by omega) (by omega)
   ·have e : insE D wh a n t = (placeE D wh a).2 := by unfold insE; rw [if_neg (by simp [hpl]), if_neg (by simp [hcz]), if_pos hpz]
    rw [hbad (by rw [e]; exact hpz), e]
    exact rins_place n w v t lo hi Q rb a wh D h hsz hrb hd hw hal hpl hcz hpz
  ·have e : insE D wh a n t = (chk n t 1 0).2 := by unfold insE; rw [if_neg (by simp [hpl]), if_pos hcz]
   rw [hbad (by rw [e]; exact hcz), e]
   exact rins_check n w v t lo hi Q rb a wh D h hsz hrb hd hw hal hpl hcz
end Go.Proofs.YtjkgjckkglfokaaGreat.Gr
/- Copy of the document. -/
namespace Go.Proofs.YtjkgjckkglfokaaGreat.Gr
open Go.RowKit
set_option linter.unusedVariables false
set_option linter.unusedSimpArgs false
end Go.Proofs.YtjkgjckkglfokaaGreat.Gr
/- Blocks that may be stored into. -/
namespace Go.Proofs.YtjkgjckkglfokaaGreat.Gr
open Go.RowKit
set_option linter.unusedVariables false
set_option linter.unusedSimpArgs false
def Wr (w : World) (b : Nat) : Prop := ∃ cs, IsCells w b cs
theorem Wr.of_block {w w' : World} {b : Nat} (h : Wr w b) (hb : w'.heap[b]? = w.heap[b]?) : Wr w' b := by
 obtain ⟨cs, h⟩ := h
 exact ⟨cs, h.of_block hb⟩
theorem Wr.setCell {w : World} {b : Nat} (h : Wr w b) (X o : Nat) (v : Value) : Wr (w.setCell ⟨X, o, none⟩ v) b := by
 obtain ⟨cs, h⟩ := h
 by_cases e : b = X
 ·subst e
  exact ⟨_, h.set o v⟩
 ·exact ⟨cs, h.other e v⟩
theorem Wr.frozen {w : World} {b : Nat} (h : Wr w b) (o : Nat) : w.frozen? ⟨b, o, none⟩ = false := by
 obtain ⟨cs, h⟩ := h
 exact h.frozen o
theorem own_wr {w : World} {base : Nat} {e : TypeId} {size : Nat} {v : Value} {n : Nat} {xs : List Value} (h : w.ownsRow base e size v n xs) {g : Nat} (hg : v.ownBlock = some g) : Wr w g := by
 rcases h.2 with ⟨rfl, rfl⟩ | ⟨g', cap, cur, rfl, _, hh, _⟩
 ·cases hg
 ·simp only [Value.ownBlock, Option.some.injEq] at hg
  subst hg
  exact ⟨cur, e, hh⟩
def Fw (w : World) (H b : Nat) : Prop := H <= b /\ b < w.heap.size /\ Wr w b
theorem Fw.to {w w' : World} {H H' b : Nat} (h : Fw w H b) (hH : H' <= b) (hb : w'.heap[b]? = w.heap[b]?) (hs : w.heap.size <= w'.heap.size) : Fw w' H' b := ⟨hH, Nat.lt_of_lt_of_le h.2.1 hs, h.2.2.of_block hb⟩
theorem Fw.below {w w' : World} {H b B : Nat} (h : Fw w H b) (hb : Below B w w') (hB : w.heap.size <= B) : Fw w' H b := h.to h.1 (hb.block b (Nat.lt_of_lt_of_le h.2.1 hB)) hb.size
theorem Fw.low {w : World} {H H' b : Nat} (h : Fw w H b) (hH : H' <= H) : Fw w H' b := ⟨Nat.le_trans hH h.1, h.2⟩
theorem attrs_own {w : World} {base : Nat} {e : TypeId} {a : Option Addr} {n cap : Nat} {l : List (ByteArray × ByteArray)} {xs : List Value} (h : w.ownsRow base e 2 (.slice a n cap) n xs) (hx : xs = attrCells l) : AttrsR w (fun b => (Value.slice a n cap).ownBlock = some b /\ Fw w base b) a l /\ n = l.length /\ n <= cap := by
 obtain ⟨h1, h2, h3⟩ := attrs_row h hx
 exact ⟨h1.to (fun b hb => ⟨hb.1, hb.2.1, hb.2.2, own_wr h hb.1⟩) (fun _ _ _ => rfl), h2, h3⟩
theorem hands_own {w : World} {base : Nat} {e : TypeId} {a : Option Addr} {n cap : Nat} {l : List Nat} (h : w.ownsRow base e 1 (.slice a n cap) n (hvals l)) : HandsAt w (fun b => (Value.slice a n cap).ownBlock = some b /\ Fw w base b) a l := by
 intro i x hx
 obtain ⟨-, -, hcell⟩ := row_cell h
 obtain ⟨g, e1, e2, e3, e4⟩ := hcell i (.int .u64 (x : Int)) (by unfold hvals; rw [List.getElem?_map, hx]; rfl)
 subst e1
 exact ⟨g, 0, rfl, ⟨rfl, e2, e3, own_wr h rfl⟩, by rw [Nat.zero_add]; exact e4⟩
end Go.Proofs.YtjkgjckkglfokaaGreat.Gr
/- A slot as a node without its children, in blocks that may be stored into. -/
namespace Go.Proofs.YtjkgjckkglfokaaGreat.Gr
open Go.RowKit
set_option linter.unusedVariables false
set_option linter.unusedSimpArgs false
end Go.Proofs.YtjkgjckkglfokaaGreat.Gr
/- Nodes in plain, by the program: child by child. -/
namespace Go.Proofs.YtjkgjckkglfokaaGreat.Gr
open Go.RowKit
set_option linter.unusedVariables false
set_option linter.unusedSimpArgs false
theorem grown_box1 {w3 w4 : World} {o : Obj} {bx : Nat} {row : Option Nat} (hg : (w3.alloc o).grownBy w4 row) (hbx : bx < w3.heap.size) (hne : some bx ≠ row) : w4.heap[bx]? = w3.heap[bx]? :=
 (hg.block bx (by simp; omega) hne).trans (Below.heap_alloc _ _ _ hbx)
structure FoSt (w wr : World) (m : Nat) (L : List (T m)) (i : Nat) (la : Option Addr) (lcap : Nat) (xs : List Value) : Prop where
 own : wr.ownsRow w.heap.size 31 5 (.slice la i lcap) i xs
 kids : CopiesAt wr (fun b => Fw wr w.heap.size b /\ (Value.slice la i lcap).ownBlock ≠ some b) m xs (L.take i)
 bel : Below w.heap.size w wr
theorem FoSt.step {w wr w2 w3 : World} {m : Nat} {L : List (T m)} {i : Nat} {la : Option Addr} {lcap : Nat} {xs : List Value} (h : FoSt w wr m L i la lcap xs) {k : T m} (hk : L[i]? = some k)
  {u : Array Value} (hu : TreeR w2 (Fw w2 wr.heap.size) m u k) (hb : Below wr.heap.size wr w2) {o : Obj} {la' : Option Addr} {lcap' : Nat} (hown : w3.ownsRow w.heap.size 31 5 (.slice la' (i + 1) lcap') (i + 1) (xs ++ u.toList))
  (hg : (w2.alloc o).grownBy w3 (Value.slice la i lcap).ownBlock) (hat : (Value.slice la' (i + 1) lcap').ownBlock = (Value.slice la i lcap).ownBlock \/ (Value.slice la' (i + 1) lcap').ownBlock = some (w2.heap.size + 1)) :
  FoSt w w3 m L (i + 1) la' lcap' (xs ++ u.toList) := by
 have hs := hb.size
 have hs3 : w2.heap.size + 1 <= w3.heap.size := by have := hg.size; simpa using this
 have hbl := h.bel.size
 have hox := own_block_lt h.own
 have far : ∀ b, b < w2.heap.size -> (Value.slice la i lcap).ownBlock ≠ some b -> w3.heap[b]? = w2.heap[b]? := fun b hb1 hb2 => grown_box1 hg hb1 (fun e => hb2 e.symm)
 have far2 : ∀ b, b < wr.heap.size -> (Value.slice la i lcap).ownBlock ≠ some b -> w3.heap[b]? = wr.heap[b]? := fun b hb1 hb2 => (far b (by omega) hb2).trans (hb.block b hb1)
 have hnew : ∀ b, b < w2.heap.size -> (Value.slice la i lcap).ownBlock ≠ some b -> (Value.slice la' (i + 1) lcap').ownBlock ≠ some b := fun b h1 h2 e => by
  rcases hat with hat | hat
  ·rw [hat] at e; exact h2 e
  ·rw [hat] at e; simp only [Option.some.injEq] at e; omega
 have hnb : ∀ b, b < w.heap.size -> (Value.slice la i lcap).ownBlock ≠ some b := fun b hb e => by have := hox _ e; omega
 refine ⟨hown, ?_, ?_⟩
 ·rw [take_more hk]
  have hne : ∀ b, wr.heap.size <= b -> (Value.slice la i lcap).ownBlock ≠ some b := fun b h1 e => by have := hox _ e; omega
  refine CopiesAt.snoc (h.kids.to (fun b hb' => ?_) (fun b o hb' => ?_)) (hu.to (fun b hb' => ?_) (fun b o hb' => ?_))
  ·exact ⟨hb'.1.to hb'.1.1 (far2 b hb'.1.2.1 hb'.2) (by omega), hnew b (by have := hb'.1.2.1; omega) hb'.2⟩
  ·exact World.cell?_of_block (w := wr) (a := ⟨b, o, none⟩) (far2 b hb'.1.2.1 hb'.2)
  ·exact ⟨hb'.to (by have := hb'.1; omega) (far b hb'.2.1 (hne b hb'.1)) (by omega), hnew b hb'.2.1 (hne b hb'.1)⟩
  ·exact World.cell?_of_block (w := w2) (a := ⟨b, o, none⟩) (far b hb'.2.1 (hne b hb'.1))
 ·exact (h.bel.trans (hb.mono hbl)).trans ⟨hg.os, hg.tape, hg.output, by omega, fun k hk => far k (by omega) (hnb k (by omega))⟩
theorem FoSt.more {w wr w' : World} {m : Nat} {L : List (T m)} {i : Nat} {la : Option Addr} {lcap : Nat} {xs : List Value} (h : FoSt w wr m L i la lcap xs) (hb : Below wr.heap.size wr w') : FoSt w w' m L i la lcap xs :=
 ⟨own_of_block h.own (fun k hk => hb.block k (own_block_lt h.own k hk).2), h.kids.to (fun b hb' => ⟨hb'.1.below hb (Nat.le_refl _), hb'.2⟩) (fun b o hb' => hb.cell (p := ⟨b, o, none⟩) hb'.1.2.1), h.bel.trans (hb.mono h.bel.size)⟩
theorem FoSt.done {w wr : World} {m : Nat} {L : List (T m)} {la : Option Addr} {lcap : Nat} {xs : List Value} (h : FoSt w wr m L L.length la lcap xs) : L.length <= lcap /\ ForR wr (Fw wr w.heap.size) m la L := by
 obtain ⟨hlc, hxl, hrow⟩ := row_cell h.own
 refine ⟨hlc, fun i k hk => ?_⟩
 obtain ⟨_, _, hkids⟩ := h.kids
 obtain ⟨u, h1, h2, h3⟩ := hkids i k (by rw [List.take_length]; exact hk)
 have hj : ∀ j, j < 5 -> ∃ g, la = some ⟨g, 0, none⟩ /\ w.heap.size <= g /\ g < wr.heap.size /\ wr.cell? ⟨g, i * 5 + j, none⟩ = u[j]? := fun j hj => by
  have hu := h2 j hj
  rw [Array.getElem?_eq_getElem (by omega)] at hu
  obtain ⟨g, e1, e2, e3, e4⟩ := hrow _ _ hu
  exact ⟨g, e1, e2, e3, by rw [e4, Array.getElem?_eq_getElem (by omega)]⟩
 obtain ⟨g, rfl, hg1, hg2, _⟩ := hj 0 (by omega)
 refine ⟨g, 0, u, rfl, ⟨hg1, hg2, own_wr h.own rfl⟩, h1, fun j hj' => ?_, h3.to (fun b hb => hb.1) (fun b o hb => rfl)⟩
 obtain ⟨g', e1, _, _, e4⟩ := hj j hj'
 cases e1
 rw [Nat.zero_add, e4]
end Go.Proofs.YtjkgjckkglfokaaGreat.Gr
/- A node in plain, by the program: plain, Subtree, Forest. -/
namespace Go.Proofs.YtjkgjckkglfokaaGreat.Gr
open Go.RowKit
set_option linter.unusedVariables false
set_option linter.unusedSimpArgs false
end Go.Proofs.YtjkgjckkglfokaaGreat.Gr
/- Slots copied, by the program. -/
namespace Go.Proofs.YtjkgjckkglfokaaGreat.Gr
open Go.RowKit
set_option linter.unusedVariables false
set_option linter.unusedSimpArgs false
end Go.Proofs.YtjkgjckkglfokaaGreat.Gr
/- copySlots of the program. -/
namespace Go.Proofs.YtjkgjckkglfokaaGreat.Gr
open Go.RowKit
set_option linter.unusedVariables false
set_option linter.unusedSimpArgs false
structure CyS (w wr : World) (S : List Sl) (i : Nat) (L : List (Value × Value)) (xs : List Value) : Prop where
 own : wr.ownsRow w.heap.size 100 8 (.slice (some ⟨w.heap.size, 0, none⟩) S.length S.length) S.length xs
 len : L.length = i
 first : xs.take (i * 8) = rowOf (S.take i) L
 vals : ∀ (k : Nat) (s : Sl) (p : Value × Value), (S.take i)[k]? = some s -> L[k]? = some p -> wr.ownsRow w.heap.size 124 2 p.1 s.attrs.length (attrCells s.attrs) /\ wr.ownsRow w.heap.size 27 1 p.2 s.kids.length (hvals s.kids)
 ros : ∃ ro : Nat -> Nat, (∀ (k : Nat) (p : Value × Value) (b : Nat), L[k]? = some p -> p.1.ownBlock = some b -> ro b = 2 * k + 4) /\ (∀ (k : Nat) (p : Value × Value) (b : Nat), L[k]? = some p -> p.2.ownBlock = some b -> ro b = 2 * k + 5) /\ ∀ b, ro b ≠ 0 -> w.heap.size < b /\ b < wr.heap.size
 bel : Below w.heap.size w wr
def OwV (w : World) (H : Nat) (s : Sl) (p : Value × Value) : Prop :=
 w.ownsRow H 124 2 p.1 s.attrs.length (attrCells s.attrs) /\ w.ownsRow H 27 1 p.2 s.kids.length (hvals s.kids) /\ ∀ b, p.1.ownBlock = some b -> p.2.ownBlock ≠ some b
def set8 (w : World) (g j : Nat) (l : List Value) : World :=
 match l with
 | [] => w
 | x :: r => set8 (w.setCell ⟨g, j, none⟩ x) g (j + 1) r
def lset (xs : List Value) (j : Nat) (l : List Value) : List Value :=
 match l with
 | [] => xs
 | x :: r => lset (xs.set j x) (j + 1) r
theorem own_set8 {base e size g n cap : Nat} : ∀ (l : List Value) (w : World) (j : Nat) (xs : List Value), w.ownsRow base e size (.slice (some ⟨g, 0, none⟩) n cap) n xs -> (set8 w g j l).ownsRow base e size (.slice (some ⟨g, 0, none⟩) n cap) n (lset xs j l)
 | [], w, j, xs, h => h
 | x :: r, w, j, xs, h => own_set8 r _ _ _ (own_set h j x)
theorem turn_set8 {g : Nat} : ∀ (l : List Value) (w : World) (j : Nat), Turn (fun b => b = g) w (set8 w g j l)
 | [], w, j => Turn.refl _ _
 | x :: r, w, j => ((Turn.refl (fun b => b = g) w).setCell (A := fun b => b = g) (p := ⟨g, j, none⟩) rfl x).trans (turn_set8 r _ _)
theorem lset_length : ∀ (l xs : List Value) (j : Nat), (lset xs j l).length = xs.length
 | [], xs, j => rfl
 | x :: r, xs, j => by rw [lset, lset_length r, List.length_set]
theorem lset_below : ∀ (l xs : List Value) (j k : Nat), k < j -> (lset xs j l)[k]? = xs[k]?
 | [], xs, j, k, h => rfl
 | x :: r, xs, j, k, h => by rw [lset, lset_below r _ _ _ (by omega), List.getElem?_set_ne (by omega)]
theorem lset_at : ∀ (l xs : List Value) (j k : Nat), k < l.length -> j + l.length <= xs.length -> (lset xs j l)[j + k]? = l[k]?
 | [], xs, j, k, h, h2 => by simp at h
 | x :: r, xs, j, 0, h, h2 => by
  rw [lset, lset_below r _ _ _ (by omega)]
  simp at h2
  rw [Nat.add_zero, List.getElem?_set_self (by omega)]
  rfl
 | x :: r, xs, j, k + 1, h, h2 => by
  simp at h h2
  rw [lset, show j + (k + 1) = j + 1 + k from by omega, lset_at r _ _ _ h (by rw [List.length_set]; omega)]
  rfl
theorem lset_take {l xs : List Value} {j : Nat} (h : j + l.length <= xs.length) : (lset xs j l).take (j + l.length) = xs.take j ++ l := by
 apply List.ext_getElem?
 intro k
 rcases Nat.lt_or_ge k (j + l.length) with hk | hk
 ·rw [List.getElem?_take_of_lt hk]
  rcases Nat.lt_or_ge k j with hj | hj
  ·rw [lset_below _ _ _ _ hj, List.getElem?_append_left (by rw [List.length_take]; omega), List.getElem?_take_of_lt hj]
  ·rw [List.getElem?_append_right (by rw [List.length_take]; omega), List.length_take, Nat.min_eq_left (by omega)]
   have := lset_at l xs j (k - j) (by omega) h
   rw [show j + (k - j) = k from by omega] at this
   exact this
 ·rw [List.getElem?_eq_none (by rw [List.length_take, lset_length]; omega), List.getElem?_eq_none (by rw [List.length_append, List.length_take]; omega)]
theorem CyS.step {w wr w5 : World} {S : List Sl} {i : Nat} {L : List (Value × Value)} {xs : List Value} (h : CyS w wr S i L xs) {s : Sl} (hs : S[i]? = some s) {p : Value × Value} (hb : Below wr.heap.size wr w5) (hv : OwV w5 wr.heap.size s p) :
  CyS w (set8 w5 w.heap.size (i * 8) (slotCells s p)) S (i + 1) (L ++ [p]) (lset xs (i * 8) (slotCells s p)) := by
 have hi := (List.getElem?_eq_some_iff.1 hs).1
 have o5 := own_of_block (w' := w5) h.own (fun k hk => hb.block k (own_block_lt h.own k hk).2)
 have ht := turn_set8 (g := w.heap.size) (slotCells s p) w5 (i * 8)
 have hbl := h.bel.size
 have hgl := (own_block_lt h.own w.heap.size rfl).2
 have hxl : xs.length = S.length * 8 := h.own.1
 have hsl : (slotCells s p).length = 8 := rfl
 have hss := hb.size
 have hts := ht.size
 have htl : (S.take i).length = i := by rw [List.length_take]; omega
 obtain ⟨ro, r1, r2, r3⟩ := h.ros
 obtain ⟨v1, v2, v3⟩ := hv
 have b1 := own_block_lt v1
 have b2 := own_block_lt v2
 refine ⟨own_set8 _ _ _ _ o5, by rw [List.length_append, h.len]; rfl, ?_, ?_, ?_, ?_⟩
 ·rw [take_more hs, rowOf_snoc (by rw [h.len, htl]), <- h.first, show (i + 1) * 8 = i * 8 + (slotCells s p).length from by rw [hsl]; omega]
  exact lset_take (by rw [hsl]; omega)
 ·intro k s' p' hk1 hk2
  rw [take_more hs] at hk1
  rcases Nat.lt_or_ge k i with hki | hki
  ·rw [List.getElem?_append_left (by omega)] at hk1
   rw [List.getElem?_append_left (by rw [h.len]; omega)] at hk2
   obtain ⟨o1, o2⟩ := h.vals k s' p' hk1 hk2
   have hold : ∀ b, ro b ≠ 0 -> (set8 w5 w.heap.size (i * 8) (slotCells s p)).heap[b]? = wr.heap[b]? := fun b hb' => by
    have := r3 b hb'
    exact (ht.block b (by omega) (by omega)).trans (hb.block b (by omega))
   exact ⟨own_of_block o1 (fun b hb' => hold b (by rw [r1 k p' b hk2 hb']; omega)), own_of_block o2 (fun b hb' => hold b (by rw [r2 k p' b hk2 hb']; omega))⟩
  ·have hke : k = i := by
    have := (List.getElem?_eq_some_iff.1 hk1).1
    rw [List.length_append, htl] at this
    simp at this
    omega
   subst hke
   rw [List.getElem?_append_right (by omega), htl] at hk1
   rw [List.getElem?_append_right (by rw [h.len]; omega), h.len] at hk2
   simp at hk1 hk2
   subst hk1 hk2
   exact ⟨own_of_block (own_base v1 (fun b hb' => by have := b1 b hb'; omega)) (fun b hb' => ht.block b (b1 b hb').2 (by have := b1 b hb'; omega)), own_of_block (own_base v2 (fun b hb' => by have := b2 b hb'; omega)) (fun b hb' => ht.block b (b2 b hb').2 (by have := b2 b hb'; omega))⟩
 ·refine ⟨fun b => if p.1.ownBlock = some b then 2 * i + 4 else if p.2.ownBlock = some b then 2 * i + 5 else ro b, fun k q b hk hq => ?_, fun k q b hk hq => ?_, fun b hb' => ?_⟩
  ·rcases Nat.lt_or_ge k i with hki | hki
   ·rw [List.getElem?_append_left (by rw [h.len]; omega)] at hk
    have e := r1 k q b hk hq
    have hlt := r3 b (by rw [e]; omega)
    simp only
    rw [if_neg (fun c => by have := b1 b c; omega), if_neg (fun c => by have := b2 b c; omega)]
    exact e
   ·have hke : k = i := by
     have := (List.getElem?_eq_some_iff.1 hk).1
     rw [List.length_append, h.len] at this
     simp at this
     omega
    subst hke
    rw [List.getElem?_append_right (by rw [h.len]; omega), h.len] at hk
    simp at hk
    subst hk
    simp only
    rw [if_pos hq]
  ·rcases Nat.lt_or_ge k i with hki | hki
   ·rw [List.getElem?_append_left (by rw [h.len]; omega)] at hk
    have e := r2 k q b hk hq
    have hlt := r3 b (by rw [e]; omega)
    simp only
    rw [if_neg (fun c => by have := b1 b c; omega), if_neg (fun c => by have := b2 b c; omega)]
    exact e
   ·have hke : k = i := by
     have := (List.getElem?_eq_some_iff.1 hk).1
     rw [List.length_append, h.len] at this
     simp at this
     omega
    subst hke
    rw [List.getElem?_append_right (by rw [h.len]; omega), h.len] at hk
    simp at hk
    subst hk
    simp only
    rw [if_neg (fun c => v3 b c hq), if_pos hq]
  ·simp only at hb'
   by_cases c1 : p.1.ownBlock = some b
   ·have := b1 b c1
    omega
   ·rw [if_neg c1] at hb'
    by_cases c2 : p.2.ownBlock = some b
    ·have := b2 b c2
     omega
    ·rw [if_neg c2] at hb'
     have := r3 b hb'
     omega
 ·exact (h.bel.trans (hb.mono hbl)).trans (ht.below (by omega) (fun k hk => by omega))
theorem CyS.row {w wr : World} {S : List Sl} {L : List (Value × Value)} {xs : List Value} (h : CyS w wr S S.length L xs) : wr.ownsRow w.heap.size 100 8 (.slice (some ⟨w.heap.size, 0, none⟩) S.length S.length) S.length (rowOf S L) := by
 have hx : xs = rowOf S L := by
  have := h.first
  rw [List.take_length, List.take_of_length_le (by rw [h.own.1]; omega)] at this
  exact this
 have ho := h.own
 rw [hx] at ho
 exact ho
theorem OwV_vals {w : World} {H : Nat} {s : Sl} {p : Value × Value} (h1 : w.ownsRow H 124 2 p.1 s.attrs.length (attrCells s.attrs)) (h2 : w.ownsRow H 27 1 p.2 s.kids.length (hvals s.kids)) : SlotVals w (Fw w H) s p := by
 obtain ⟨pa, pk⟩ := p
 obtain ⟨aa, ac, e1⟩ := own_slice h1
 obtain ⟨ka, kc, e2⟩ := own_slice h2
 simp only at e1 e2
 subst e1 e2
 exact ⟨aa, ac, ka, kc, rfl, (attrs_own h1 rfl).2.2, (row_cell h2).1, (attrs_own h1 rfl).1.to (fun b hb => hb.2) (fun _ _ _ => rfl), (hands_own h2).to (fun b hb => hb.2) (fun _ _ _ => rfl)⟩
theorem CyS.done {w wr : World} {S : List Sl} {L : List (Value × Value)} {xs : List Value} (h : CyS w wr S S.length L xs) : SlotsAt wr (Fw wr w.heap.size) (some ⟨w.heap.size, 0, none⟩) S := by
 have ho := h.row
 exact (slots_row h.len ho (fun i s p hs hp => by
  obtain ⟨v1, v2⟩ := h.vals i s p (by rw [List.take_length]; exact hs) hp
  exact OwV_vals v1 v2) (fun g e h1 h2 => ⟨h1, h2, own_wr ho (by rw [e]; rfl)⟩)).1
end Go.Proofs.YtjkgjckkglfokaaGreat.Gr
/- Image of the program. -/
namespace Go.Proofs.YtjkgjckkglfokaaGreat.Gr
open Go.RowKit
set_option linter.unusedVariables false
set_option linter.unusedSimpArgs false
end Go.Proofs.YtjkgjckkglfokaaGreat.Gr
/- Slots of an image that is read: what each call says of a slot that a document has. -/
namespace Go.Proofs.YtjkgjckkglfokaaGreat.Gr
open Go.RowKit
set_option linter.unusedVariables false
set_option linter.unusedSimpArgs false
end Go.Proofs.YtjkgjckkglfokaaGreat.Gr
/- The reader of an image: what it holds; find, and the slot at a place. -/
namespace Go.Proofs.YtjkgjckkglfokaaGreat.Gr
open Go.RowKit
set_option linter.unusedVariables false
set_option linter.unusedSimpArgs false
structure Rdr (w : World) (R : Nat -> Prop) (base rb g : Nat) (S : List Sl) (L : List (Value × Value)) (c : Int) (V : Nat -> Bool) : Prop where
 head : IsCells w rb #[.slice (some ⟨g, 0, none⟩) S.length S.length, .int .i64 c]
 row : ∃ cur, IsCells w g cur /\ (∀ (k : Nat) (s : Sl) (p : Value × Value), S[k]? = some s -> L[k]? = some p -> ∀ j u, (slotCells s p)[j]? = some u -> cur[k * 9 + j]? = some u) /\ ∀ k, k < S.length -> cur[k * 9 + 8]? = some (.bool (V k))
 len : L.length = S.length
 vals : ∀ (i : Nat) (s : Sl) (p : Value × Value), S[i]? = some s -> L[i]? = some p -> SlotVals w R s p
 rlt : ∀ b, R b -> b < base
 blt : base <= rb /\ base <= g /\ rb ≠ g
theorem Rdr.bs {w : World} {R : Nat -> Prop} {base rb g : Nat} {S : List Sl} {L : List (Value × Value)} {c : Int} {V : Nat -> Bool} (h : Rdr w R base rb g S L c V) : base <= w.heap.size := by
 have := h.head.lt
 have := h.blt
 omega
theorem Rdr.below {w w' : World} {R : Nat -> Prop} {base rb g : Nat} {S : List Sl} {L : List (Value × Value)} {c : Int} {V : Nat -> Bool} (h : Rdr w R base rb g S L c V) (hb : Below w.heap.size w w') : Rdr w' R base rb g S L c V := by
 obtain ⟨cur, h1, h2, h3⟩ := h.row
 have hbs := h.bs
 exact ⟨h.head.of_block (hb.block _ h.head.lt), ⟨cur, h1.of_block (hb.block _ h1.lt), h2, h3⟩, h.len, fun i s p hs hp => (h.vals i s p hs hp).to (fun _ h => h) (fun b o hb' => hb.cell (p := ⟨b, o, none⟩) (by have := h.rlt b hb'; show b < w.heap.size; omega)), h.rlt, h.blt⟩
theorem slotCells_lt {s : Sl} {p : Value × Value} {j : Nat} {u : Value} (h : (slotCells s p)[j]? = some u) : j < 8 := (List.getElem?_eq_some_iff.1 h).1
theorem Rdr.count {w : World} {R : Nat -> Prop} {base rb g : Nat} {S : List Sl} {L : List (Value × Value)} {c : Int} {V : Nat -> Bool} (h : Rdr w R base rb g S L c V) (c' : Int) : Rdr (w.setCell ⟨rb, 1, none⟩ (.int .i64 c')) R base rb g S L c' V := by
 obtain ⟨cur, h1, h2, h3⟩ := h.row
 have hb := h.blt
 refine ⟨by simpa using h.head.set 1 (.int .i64 c'), ⟨cur, h1.other (fun e => hb.2.2 e.symm) _, h2, h3⟩, h.len, fun k s p hs hp => (h.vals k s p hs hp).to (fun _ h => h) (fun b o hb' => World.cell?_of_block (w := w) (a := ⟨b, o, none⟩) (Below.heap_setCell _ _ _ _ (by have := h.rlt b hb'; show b ≠ rb; omega))), h.rlt, h.blt⟩
theorem Rdr.slot {w : World} {R : Nat -> Prop} {base rb g : Nat} {S : List Sl} {L : List (Value × Value)} {c : Int} {V : Nat -> Bool} (h : Rdr w R base rb g S L c V) {i : Nat} {s : Sl} (hs : S[i]? = some s) :
  ∃ aa ac ka kc, w.cell? ⟨g, i * 9, none⟩ = some (.int .u32 (s.gen : Int)) /\ w.cell? ⟨g, i * 9 + 1, none⟩ = some (.bool s.live) /\ w.cell? ⟨g, i * 9 + 2, none⟩ = some (.int .i64 s.kind) /\ w.cell? ⟨g, i * 9 + 3, none⟩ = some (.string s.name) /\
  w.cell? ⟨g, i * 9 + 4, none⟩ = some (.slice aa s.attrs.length ac) /\ w.cell? ⟨g, i * 9 + 5, none⟩ = some (.string s.text) /\ w.cell? ⟨g, i * 9 + 6, none⟩ = some (.int .u64 (s.parent : Int)) /\ w.cell? ⟨g, i * 9 + 7, none⟩ = some (.slice ka s.kids.length kc) /\ w.cell? ⟨g, i * 9 + 8, none⟩ = some (.bool (V i)) /\
  s.attrs.length <= ac /\ s.kids.length <= kc /\ AttrsR w R aa s.attrs /\ HandsAt w R ka s.kids := by
 obtain ⟨cur, h1, h2, h3⟩ := h.row
 have hi := (List.getElem?_eq_some_iff.1 hs).1
 obtain ⟨p, hp⟩ : ∃ p, L[i]? = some p := ⟨_, List.getElem?_eq_getElem (by rw [h.len]; exact hi)⟩
 obtain ⟨aa, ac, ka, kc, rfl, l1, l2, ha, hk⟩ := h.vals i s p hs hp
 have hc := fun j u (hu : (slotCells s (.slice aa s.attrs.length ac, .slice ka s.kids.length kc))[j]? = some u) => (h1.cell (i * 9 + j)).trans (h2 i s _ hs hp j u hu)
 exact ⟨aa, ac, ka, kc, hc 0 _ rfl, hc 1 _ rfl, hc 2 _ rfl, hc 3 _ rfl, hc 4 _ rfl, hc 5 _ rfl, hc 6 _ rfl, hc 7 _ rfl, (h1.cell _).trans (h3 i hi), l1, l2, ha, hk⟩
end Go.Proofs.YtjkgjckkglfokaaGreat.Gr
/- The reader goes through the lists of a document's image. -/
namespace Go.Proofs.YtjkgjckkglfokaaGreat.Gr
open Go.RowKit
set_option linter.unusedVariables false
set_option linter.unusedSimpArgs false
def mk (D : Dc) (vs : List Nat) (k : Nat) : Bool := vs.any fun x => atI D.S x == some k
theorem Rdr.congr {w : World} {R : Nat -> Prop} {base rb g : Nat} {S : List Sl} {L : List (Value × Value)} {c c' : Int} {V V' : Nat -> Bool} (h : Rdr w R base rb g S L c V) (hc : c = c') (hV : ∀ k, V k = V' k) : Rdr w R base rb g S L c' V' := by
 have : V = V' := funext hV
 subst this hc
 exact h
theorem Rdr.turn {w w' : World} {R : Nat -> Prop} {base rb g : Nat} {S : List Sl} {L : List (Value × Value)} {c : Int} {V : Nat -> Bool} (h : Rdr w R base rb g S L c V) {a : Option Addr} {l : List Nat} (hl : HandsAt w R a l) (ht : Turn (fun b => b = rb \/ b = g) w w') : HandsAt w' R a l :=
 hl.to (fun _ h => h) (fun b o hb => World.cell?_of_block (w := w) (a := ⟨b, o, none⟩) (ht.block b (by have := h.rlt b hb; have := h.bs; omega) (by have := h.rlt b hb; have := h.blt; omega)))
end Go.Proofs.YtjkgjckkglfokaaGreat.Gr
/- copySlots of the program, once more: as Load calls it. -/
namespace Go.Proofs.YtjkgjckkglfokaaGreat.Gr
open Go.RowKit
set_option linter.unusedVariables false
set_option linter.unusedSimpArgs false
end Go.Proofs.YtjkgjckkglfokaaGreat.Gr
/- All nodes are just the live ones: how many there are. -/
namespace Go.Proofs.YtjkgjckkglfokaaGreat.Gr
open Go.RowKit
set_option linter.unusedVariables false
set_option linter.unusedSimpArgs false
end Go.Proofs.YtjkgjckkglfokaaGreat.Gr
/- Load of the program, of a document's image: the slots laid into the reader. -/
namespace Go.Proofs.YtjkgjckkglfokaaGreat.Gr
open Go.RowKit
set_option linter.unusedVariables false
set_option linter.unusedSimpArgs false
def aset (xs : Array Value) (j : Nat) : List Value -> Array Value
 | [] => xs
 | x :: r => aset (xs.setIfInBounds j x) (j + 1) r
theorem cells_set8 {g : Nat} : ∀ (l : List Value) (w : World) (j : Nat) (xs : Array Value), IsCells w g xs -> IsCells (set8 w g j l) g (aset xs j l)
 | [], w, j, xs, h => h
 | x :: r, w, j, xs, h => cells_set8 r _ _ _ (h.set j x)
theorem aset_size : ∀ (l : List Value) (xs : Array Value) (j : Nat), (aset xs j l).size = xs.size
 | [], xs, j => rfl
 | x :: r, xs, j => by rw [aset, aset_size r]; simp
theorem aset_out : ∀ (l : List Value) (xs : Array Value) (j k : Nat), k < j \/ j + l.length <= k -> (aset xs j l)[k]? = xs[k]?
 | [], xs, j, k, h => rfl
 | x :: r, xs, j, k, h => by
  simp only [List.length_cons] at h
  rw [aset, aset_out r _ _ _ (by omega), Array.getElem?_setIfInBounds_ne (by omega)]
theorem aset_in : ∀ (l : List Value) (xs : Array Value) (j k : Nat), k < l.length -> j + l.length <= xs.size -> (aset xs j l)[j + k]? = l[k]?
 | [], xs, j, k, h, h2 => by simp at h
 | x :: r, xs, j, 0, h, h2 => by
  simp only [List.length_cons] at h2
  rw [aset, aset_out r _ _ _ (by omega), Nat.add_zero, Array.getElem?_setIfInBounds_self_of_lt (by omega)]
  rfl
 | x :: r, xs, j, k + 1, h, h2 => by
  simp only [List.length_cons] at h h2
  rw [aset, show j + (k + 1) = j + 1 + k from by omega, aset_in r _ _ _ (by omega) (by simp; omega)]
  rfl
structure LdS (w wr : World) (bx : Array Value) (rb g : Nat) (S : List Sl) (L : List (Value × Value)) (i : Nat) : Prop where
 box : IsCells wr w.heap.size bx
 head : IsCells wr rb #[.slice (some ⟨g, 0, none⟩) S.length S.length, .int .i64 0]
 row : ∃ cur, IsCells wr g cur /\ cur.size = S.length * 9 /\ (∀ (k : Nat) (s : Sl) (p : Value × Value), k < i -> S[k]? = some s -> L[k]? = some p -> ∀ j u, (slotCells s p)[j]? = some u -> cur[k * 9 + j]? = some u) /\ ∀ k, k < S.length -> cur[k * 9 + 8]? = some (.bool false)
 bel : Below w.heap.size w wr
 ne : g = w.heap.size + 1 /\ rb = w.heap.size + 1 + 1
theorem LdS.step {w wr w5 : World} {bx : Array Value} {rb g : Nat} {S : List Sl} {L : List (Value × Value)} {i : Nat} (h : LdS w wr bx rb g S L i) {s : Sl} {p : Value × Value} (hs : S[i]? = some s) (hp : L[i]? = some p) (hb : Below wr.heap.size wr w5) : LdS w (set8 w5 g (i * 9) (slotCells s p)) bx rb g S L (i + 1) := by
 obtain ⟨cur, c1, c2, c3, c4⟩ := h.row
 have ht := turn_set8 (g := g) (slotCells s p) w5 (i * 9)
 have hne := h.ne
 have hi := (List.getElem?_eq_some_iff.1 hs).1
 have hsl : (slotCells s p).length = 8 := rfl
 have hbl := h.bel.size
 have hss := hb.size
 refine ⟨(h.box.of_block (hb.block _ h.box.lt)).of_block (ht.block _ (by have := h.box.lt; omega) (by omega)), (h.head.of_block (hb.block _ h.head.lt)).of_block (ht.block _ (by have := h.head.lt; omega) (by omega)), ⟨_, cells_set8 _ _ _ _ (c1.of_block (hb.block _ c1.lt)), by rw [aset_size, c2], fun k s' p' hk hs' hp' j u hu => ?_, fun k hk => ?_⟩, (h.bel.trans (hb.mono hbl)).trans (ht.below (by omega) (fun k hk => by omega)), h.ne⟩
 ·have hj := slotCells_lt hu
  by_cases e : k = i
  ·subst e
   rw [hs] at hs'
   rw [hp] at hp'
   cases hs'
   cases hp'
   rw [aset_in _ _ _ _ (by rw [hsl]; exact hj) (by rw [hsl, c2]; omega)]
   exact hu
  ·rw [aset_out _ _ _ _ (by rw [hsl]; omega)]
   exact c3 k s' p' (by omega) hs' hp' j u hu
 ·rw [aset_out _ _ _ _ (by rw [hsl]; omega)]
  exact c4 k hk
end Go.Proofs.YtjkgjckkglfokaaGreat.Gr
/- Load of the program, of a document's image. -/
namespace Go.Proofs.YtjkgjckkglfokaaGreat.Gr
open Go.RowKit
set_option linter.unusedVariables false
set_option linter.unusedSimpArgs false
end Go.Proofs.YtjkgjckkglfokaaGreat.Gr
