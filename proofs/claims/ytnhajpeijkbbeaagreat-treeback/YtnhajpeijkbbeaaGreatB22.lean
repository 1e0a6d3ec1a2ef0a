/- Insert of the document: too many nodes; a tree put in. -/
import Derived.Test.YtnhajpeijkbbeaaGreatB21
import Derived.Deep.RegionHeld3
namespace Go.Proofs.YtnhajpeijkbbeaaGreat
open Go.RowKit
set_option maxRecDepth 100000
set_option maxHeartbeats 2000000
set_option linter.unusedVariables false
set_option linter.unusedSimpArgs false
theorem rins_many (n : Nat) (w : World) (v : Array Value) (t : T n) (lo hi : Nat) (Q : Nat -> Prop) (rb a : Nat) (wh : Int) (D : Dc) (h : TreeAt w lo hi n v t) (hsz : hi <= w.heap.size) (hrb : hi <= rb) (hd : RDoc w Q rb D) (hw : WF D) (hal : a < 18446744073709551616) (hpl : isPlaceB wh a = true) (hcz : (chk n t 1 0).2 = 0) (hpz : (placeE D wh a).2 = 0) (hdp : (ups D (placeE D wh a).1).length + htT n t <= 64) (hmn : 4096 < cnt takenB D.S + ndT n t) :
  Calls Tryz.prog 18 #[.pointer (some ⟨rb, 0, none⟩), .int .i64 wh, .int .u64 (a : Int), .agg v] w (RInsP w Q rb D 0 33) := by
 have hv := hd.view
 have HD : Hid (RDoc w Q rb D) := hd
 obtain ⟨tk, nm, aa, al, ac, tx, ka, kl, kc, rfl⟩ := h.form
 have HBX : Hid (Below w.heap.size w (w.alloc (.cells #[.int .i64 tk, .string nm, .slice aa al ac, .string tx, .slice ka kl kc] 46))) := below_new' w _
 have HBC : Hid (IsCells (w.alloc (.cells #[.int .i64 tk, .string nm, .slice aa al ac, .string tx, .slice ka kl kc] 46)) w.heap.size #[.int .i64 tk, .string nm, .slice aa al ac, .string tx, .slice ka kl kc]) := isCells_new w _ _
 have hvx : View (w.alloc (.cells #[.int .i64 tk, .string nm, .slice aa al ac, .string tx, .slice ka kl kc] 46)) _ rb D := hv.below (below_new' w _)
 have hpc := rplace_any (w.alloc (.cells #[.int .i64 tk, .string nm, .slice aa al ac, .string tx, .slice ka kl kc] 46)) _ rb D wh a hvx hw hal hpl
 have hck := fun W (hb : Below w.heap.size w W) => rCheck_any n W _ t lo hi (h.below hb hsz) (Nat.le_trans hsz hb.size)
 have hz1 : ((placeE D wh a).2 == 1) = false := by rcases placeE_err D wh a with e | e | e <;> rw [e] <;> decide
 obtain ⟨o1, o2, o3⟩ := chk_ok n t 1 0 (by omega) (by omega) (by omega) hcz
 have hn4 : ndT n t <= 4096 := by
  have := chk_le n t 1 0 (by omega)
  omega
 have hpp := (placeE_live hw hpz).1
 obtain ⟨lv, hlv0⟩ := hw.lev
 have hul : (ups D (placeE D wh a).1).length <= 64 := by rw [ups_length hlv0 hpp]; exact dep_le hlv0 hpp
 have hme := fun W (hb : Below w.heap.size w W) => rsizeT_any n W _ t lo hi (h.below hb hsz) (Nat.le_trans hsz hb.size) o1 hn4 (by omega)
 have hle := fun W (hb : Below w.heap.size w W) => rlevel_any W _ rb D (placeE D wh a).1 (hv.below hb) hw hpp
 rw [hcz] at hck
 rw [hpz] at hpc hz1
 have htk := fun W (hb : Below w.heap.size w W) => rtaken_any W _ rb D (hv.below hb) hw.fits
 have hcl : cnt takenB D.S <= 4096 := Nat.le_trans (List.length_filter_le _ _) hw.fits.len
 generalize (ups D (placeE D wh a).1).length = ul at *
 generalize (placeE D wh a).1 = p at *
 generalize htT n t = ht at *
 generalize ndT n t = nd at *
 generalize cnt takenB D.S = ct at *
 have hdb : ¬ (64 : Int) < (ul : Int) - 1 + 1 + (ht : Int) := by omega
 have hmb : (4096 : Int) < (ct : Int) + (nd : Int) := by omega
 clear hd hv hvx h hw hpl hcz hpz o1 o2 hlv0 hpp
 go_enter Tryz.func18, Tryz.ntmps18
 go_wp2_with fail
 refine (hpc).mono ?_
 rintro e w1 ⟨rfl, hb⟩
 have HB1 : Hid (Below w.heap.size w w1) := HBX.out.trans (hb.mono HBX.out.size)
 have HC1 : Hid (IsCells w1 w.heap.size #[.int .i64 tk, .string nm, .slice aa al ac, .string tx, .slice ka kl kc]) := HBC.out.of_block (hb.block w.heap.size HBC.out.lt)
 clear hb
 have hck1 := hck w1 HB1.out
 clear hck hpc
 have hx0 := HC1.out.cell 0
 have hx1 := HC1.out.cell 1
 have hx2 := HC1.out.cell 2
 have hx3 := HC1.out.cell 3
 have hx4 := HC1.out.cell 4
 simp at hx0 hx1 hx2 hx3 hx4
 go_wp2_with fail
 refine (hck1).mono ?_
 rintro e w2 ⟨rfl, hb⟩
 have HB2 : Hid (Below w.heap.size w w2) := HB1.out.trans (hb.mono HB1.out.size)
 have HC2 : Hid (IsCells w2 w.heap.size #[.int .i64 tk, .string nm, .slice aa al ac, .string tx, .slice ka kl kc]) := HC1.out.of_block (hb.block w.heap.size HC1.out.lt)
 clear hb
 clear hck1
 clear hx0 hx1 hx2 hx3 hx4
 have hx0 := HC2.out.cell 0
 have hx1 := HC2.out.cell 1
 have hx2 := HC2.out.cell 2
 have hx3 := HC2.out.cell 3
 have hx4 := HC2.out.cell 4
 simp at hx0 hx1 hx2 hx3 hx4
 have hme2 := hme w2 HB2.out
 clear hme
 go_wp2_with fail
 refine (hme2).mono ?_
 rintro e w3 ⟨rfl, hb⟩
 have HB3 : Hid (Below w.heap.size w w3) := HB2.out.trans (hb.mono HB2.out.size)
 have HC3 : Hid (IsCells w3 w.heap.size #[.int .i64 tk, .string nm, .slice aa al ac, .string tx, .slice ka kl kc]) := HC2.out.of_block (hb.block w.heap.size HC2.out.lt)
 clear hb
 clear hme2
 clear hx0 hx1 hx2 hx3 hx4
 have hle3 := hle w3 HB3.out
 clear hle
 go_wp2_with fail
 refine (hle3).mono ?_
 rintro e w4 ⟨rfl, hb⟩
 have HB4 : Hid (Below w.heap.size w w4) := HB3.out.trans (hb.mono HB3.out.size)
 have HC4 : Hid (IsCells w4 w.heap.size #[.int .i64 tk, .string nm, .slice aa al ac, .string tx, .slice ka kl kc]) := HC3.out.of_block (hb.block w.heap.size HC3.out.lt)
 clear hb
 clear hle3
 have htk4 := htk w4 HB4.out
 clear htk
 go_wp2_with fail
 refine htk4.mono ?_
 rintro e w5 ⟨rfl, rfl⟩
 clear htk4
 go_wp2
 go_ret2
 exact rinsp_same HD.out HB4.out
theorem rins_ok (n : Nat) (w : World) (v : Array Value) (t : T n) (lo hi : Nat) (Q : Nat -> Prop) (rb a : Nat) (wh : Int) (D : Dc) (h : TreeAt w lo hi n v t) (hsz : hi <= w.heap.size) (hrb : hi <= rb) (hd : RDoc w Q rb D) (hw : WF D) (hal : a < 18446744073709551616) (hpl : isPlaceB wh a = true) (hcz : (chk n t 1 0).2 = 0) (hpz : (placeE D wh a).2 = 0) (hdp : (ups D (placeE D wh a).1).length + htT n t <= 64) (hmn : cnt takenB D.S + ndT n t <= 4096) :
  Calls Tryz.prog 18 #[.pointer (some ⟨rb, 0, none⟩), .int .i64 wh, .int .u64 (a : Int), .agg v] w (RInsP w Q rb (putD (growD n t (placeE D wh a).1 D).1 (growD n t (placeE D wh a).1 D).2 (placeE D wh a).1 wh a) (growD n t (placeE D wh a).1 D).2 0) := by
 have hv := hd.view
 have HD : Hid (RDoc w Q rb D) := hd
 obtain ⟨tk, nm, aa, al, ac, tx, ka, kl, kc, rfl⟩ := h.form
 have HBX : Hid (Below w.heap.size w (w.alloc (.cells #[.int .i64 tk, .string nm, .slice aa al ac, .string tx, .slice ka kl kc] 46))) := below_new' w _
 have HBC : Hid (IsCells (w.alloc (.cells #[.int .i64 tk, .string nm, .slice aa al ac, .string tx, .slice ka kl kc] 46)) w.heap.size #[.int .i64 tk, .string nm, .slice aa al ac, .string tx, .slice ka kl kc]) := isCells_new w _ _
 have hvx : View (w.alloc (.cells #[.int .i64 tk, .string nm, .slice aa al ac, .string tx, .slice ka kl kc] 46)) _ rb D := hv.below (below_new' w _)
 have hpc := rplace_any (w.alloc (.cells #[.int .i64 tk, .string nm, .slice aa al ac, .string tx, .slice ka kl kc] 46)) _ rb D wh a hvx hw hal hpl
 have hck := fun W (hb : Below w.heap.size w W) => rCheck_any n W _ t lo hi (h.below hb hsz) (Nat.le_trans hsz hb.size)
 have hz1 : ((placeE D wh a).2 == 1) = false := by rcases placeE_err D wh a with e | e | e <;> rw [e] <;> decide
 obtain ⟨o1, o2, o3⟩ := chk_ok n t 1 0 (by omega) (by omega) (by omega) hcz
 have hn4 : ndT n t <= 4096 := by
  have := chk_le n t 1 0 (by omega)
  omega
 have hpp := (placeE_live hw hpz).1
 obtain ⟨lv, hlv0⟩ := hw.lev
 have hul : (ups D (placeE D wh a).1).length <= 64 := by rw [ups_length hlv0 hpp]; exact dep_le hlv0 hpp
 have hme := fun W (hb : Below w.heap.size w W) => rsizeT_any n W _ t lo hi (h.below hb hsz) (Nat.le_trans hsz hb.size) o1 hn4 (by omega)
 have hle := fun W (hb : Below w.heap.size w W) => rlevel_any W _ rb D (placeE D wh a).1 (hv.below hb) hw hpp
 rw [hcz] at hck
 rw [hpz] at hpc hz1
 have htk := fun W (hb : Below w.heap.size w W) => rtaken_any W _ rb D (hv.below hb) hw.fits
 have hz : insE D wh a n t = 0 := by
  unfold insE
  rw [if_neg (by simp [hpl]), if_neg (by simp [hcz]), if_neg (by simp [hpz]), if_neg (by omega), if_neg (by omega)]
 obtain ⟨f1, f2, f3, f4⟩ := place_facts hw hpz hpl
 obtain ⟨N, hgn, sn, k1, k2⟩ := ins_grown hw hz
 have hpN : (placeE D wh a).1 ∉ N := hgn.notin hpp
 have hlE : lst (growD n t (placeE D wh a).1 D).1 (placeE D wh a).1 = lst D (placeE D wh a).1 := hgn.lst_old hpN
 have hppE : (placeE D wh a).1 = 0 \/ ∃ s, sl (growD n t (placeE D wh a).1 D).1 (placeE D wh a).1 = some s := hpp.imp id (fun ⟨s, hs⟩ => ⟨s, by rw [hgn.old _ hpN]; exact hs⟩)
 have hpl64 := hw.ltz hpp
 obtain ⟨iN, haN, hiN, -, hhN⟩ := sl_live k1
 have hnl : (growD n t (placeE D wh a).1 D).2 < 18446744073709551616 := by
  have h1 := hgn.sane.fits.gen iN sn hiN
  have h2 := (List.getElem?_eq_some_iff.1 hiN).1
  have h3 := hgn.sane.fits.len
  rw [hhN]
  unfold hnd
  omega
 have HPUT : Hid (∀ W base Q g cap ra rcap L, RdS W base Q rb (growD n t (placeE D wh a).1 D).1 g cap ra rcap L -> Calls Tryz.prog 78 #[.pointer (some ⟨rb, 0, none⟩), .int .u64 ((growD n t (placeE D wh a).1 D).2 : Int), .int .u64 ((placeE D wh a).1 : Int), .int .i64 wh, .int .u64 (a : Int)] W (OutP W base Q rb (putD (growD n t (placeE D wh a).1 D).1 (growD n t (placeE D wh a).1 D).2 (placeE D wh a).1 wh a) g cap)) := fun W base Q g cap ra rcap L hW =>
  rput_any W base Q rb _ g cap ra rcap L _ _ a iN wh hW hgn.sane.fits hppE hpl64 hnl (by rw [hlE]; exact lst_len hw hpp) haN (by
   rcases f4 with h | h | ⟨h1, h2⟩
   ·exact .inl h
   ·exact .inr (.inl h)
   ·exact .inr (.inr ⟨h1, by rw [hlE]; exact h2⟩))
 have HMK : Hid (∀ W base Q g cap ra rcap L, Below w.heap.size w W \/ True -> (∀ b o, lo <= b -> b < hi -> W.cell? ⟨b, o, none⟩ = w.cell? ⟨b, o, none⟩) -> hi <= W.heap.size -> RdS W base Q rb D g cap ra rcap L -> Calls Tryz.prog 77 #[.pointer (some ⟨rb, 0, none⟩), .agg #[.int .i64 tk, .string nm, .slice aa al ac, .string tx, .slice ka kl kc], .int .u64 ((placeE D wh a).1 : Int)] W (MakeP W base (fun _ => Q) rb g ra rcap D L (growD n t (placeE D wh a).1 D).1 (growD n t (placeE D wh a).1 D).2)) := fun W base Q g cap ra rcap L _ hc hs hW =>
  make_any n W _ t lo hi _ base _ rb D g cap ra rcap L (h.of_cells hc) hs hrb hW.toM hw.sane (by omega) hpp hpl64 o1
 have hcl : cnt takenB D.S <= 4096 := Nat.le_trans (List.length_filter_le _ _) hw.fits.len
 have hlen := hw.fits.len
 generalize (growD n t (placeE D wh a).1 D).1 = E at *
 generalize (growD n t (placeE D wh a).1 D).2 = H at *
 generalize (ups D (placeE D wh a).1).length = ul at *
 generalize (placeE D wh a).1 = p at *
 generalize htT n t = ht at *
 generalize ndT n t = nd at *
 generalize cnt takenB D.S = ct at *
 have hdb : ¬ (64 : Int) < (ul : Int) - 1 + 1 + (ht : Int) := by omega
 have hmb : ¬ (4096 : Int) < (ct : Int) + (nd : Int) := by omega
 have hrbl := hd.rbl
 clear hd hv hvx h hw hpl hcz hpz o1 o2 hlv0 hpp hz f1 f2 f3 f4 hgn k1 k2 hpN hlE hppE haN hiN hhN
 go_enter Tryz.func18, Tryz.ntmps18
 go_wp2_with fail
 refine (hpc).mono ?_
 rintro e w1 ⟨rfl, hb⟩
 have HB1 : Hid (Below w.heap.size w w1) := HBX.out.trans (hb.mono HBX.out.size)
 have HC1 : Hid (IsCells w1 w.heap.size #[.int .i64 tk, .string nm, .slice aa al ac, .string tx, .slice ka kl kc]) := HBC.out.of_block (hb.block w.heap.size HBC.out.lt)
 clear hb
 have hck1 := hck w1 HB1.out
 clear hck hpc
 have hx0 := HC1.out.cell 0
 have hx1 := HC1.out.cell 1
 have hx2 := HC1.out.cell 2
 have hx3 := HC1.out.cell 3
 have hx4 := HC1.out.cell 4
 simp at hx0 hx1 hx2 hx3 hx4
 go_wp2_with fail
 refine (hck1).mono ?_
 rintro e w2 ⟨rfl, hb⟩
 have HB2 : Hid (Below w.heap.size w w2) := HB1.out.trans (hb.mono HB1.out.size)
 have HC2 : Hid (IsCells w2 w.heap.size #[.int .i64 tk, .string nm, .slice aa al ac, .string tx, .slice ka kl kc]) := HC1.out.of_block (hb.block w.heap.size HC1.out.lt)
 clear hb
 clear hck1
 clear hx0 hx1 hx2 hx3 hx4
 have hx0 := HC2.out.cell 0
 have hx1 := HC2.out.cell 1
 have hx2 := HC2.out.cell 2
 have hx3 := HC2.out.cell 3
 have hx4 := HC2.out.cell 4
 simp at hx0 hx1 hx2 hx3 hx4
 have hme2 := hme w2 HB2.out
 clear hme
 go_wp2_with fail
 refine (hme2).mono ?_
 rintro e w3 ⟨rfl, hb⟩
 have HB3 : Hid (Below w.heap.size w w3) := HB2.out.trans (hb.mono HB2.out.size)
 have HC3 : Hid (IsCells w3 w.heap.size #[.int .i64 tk, .string nm, .slice aa al ac, .string tx, .slice ka kl kc]) := HC2.out.of_block (hb.block w.heap.size HC2.out.lt)
 clear hb
 clear hme2
 clear hx0 hx1 hx2 hx3 hx4
 have hle3 := hle w3 HB3.out
 clear hle
 go_wp2_with fail
 refine (hle3).mono ?_
 rintro e w4 ⟨rfl, hb⟩
 have HB4 : Hid (Below w.heap.size w w4) := HB3.out.trans (hb.mono HB3.out.size)
 have HC4 : Hid (IsCells w4 w.heap.size #[.int .i64 tk, .string nm, .slice aa al ac, .string tx, .slice ka kl kc]) := HC3.out.of_block (hb.block w.heap.size HC3.out.lt)
 clear hb
 clear hle3
 have htk4 := htk w4 HB4.out
 clear htk
 go_wp2_with fail
 refine htk4.mono ?_
 rintro e w5 ⟨rfl, rfl⟩
 clear htk4
 have hdd := HD.out.below HB4.out
 obtain ⟨sa, scap, ra, rcap, hh1, hsc, hrc, hsl, hra⟩ := id hdd.head
 obtain ⟨L, hL, hv, hnews⟩ := hsl.row
 have hz0 : w5.cell? ⟨rb, 0, none⟩ = some (.slice sa D.S.length scap) := by rw [hh1.cell]; rfl
 have HDD : Hid (RDoc w5 Q rb D) := hdd
 have HH : Hid (IsCells w5 rb #[.slice sa D.S.length scap, .slice ra D.roots.length rcap]) := hh1
 have HRA : Hid (HandsAt w5 Q ra D.roots) := hra
 have HV : Hid (∀ (i : Nat) (s : Sl) (p : Value × Value), D.S[i]? = some s -> L[i]? = some p -> SlotVals w5 Q s p) := hv
 have HL : Hid (L.length = D.S.length) := hL
 have HN : Hid (∀ j u, (rowOf D.S L)[j]? = some u -> ∃ ad, sa = some ad /\ (w5.alloc (.cells #[] 75)).cell? (ad.add j) = some u) := fun j u hu => by
  obtain ⟨ad, e1, e2⟩ := hnews j u hu
  refine ⟨ad, e1, ?_⟩
  rw [World.cell?_of_block (w := w5) (Below.heap_alloc _ _ _ (World.block_lt_of_cell? w5 _ e2))]
  exact e2
 clear hdd hh1 hra hv hL hnews hsl
 have hs5 := HB4.out.size
 have hrb1 : rb < w5.heap.size := by omega
 have hwl5 : w.heap.size < w5.heap.size := HC4.out.lt
 have hnr : ¬ w.heap.size = rb := by omega
 have hnr2 : ¬ rb = w.heap.size := by omega
 have tok : True := trivial
 go_wp2_with (at_builtin; have _t := tok; refine wpList_app rfl _ _ rfl Tryz.underlying22 info75 rfl (by decide) w5.heap.size (.slice (some ⟨w5.heap.size, 0, none⟩) 0 0) 0 [] rfl (own_new w5 75 8) sa D.S.length scap (rowOf D.S L) rfl (rowOf_len HL.out) HN.out (rows_vals HV.out) (by unfold maxLen; omega) (by omega) (by simp) ?_; intro v1 w7 hown1 hg1 hnil1 hat1; clear tok _t; rw [Nat.zero_add, List.nil_append] at hown1; have hb7 : Below w5.heap.size w5 w7 := ((below_new' w5 _).grown hg1 (by simp) (fun k hk => by simp only [Value.ownBlock, Option.some.injEq] at hk; omega)); obtain ⟨g, cap2, hv1, hrds, htn, hhd⟩ := HDD.out.copied HH.out hrc HRA.out HL.out HV.out (below_new' w5 _) (fun k hk => by simp only [Value.ownBlock, Option.some.injEq] at hk; omega) (by simp) hown1 hg1 hnil1; subst hv1; have hc0 := hhd.cell; have hf0 := hhd.frozen; have HRS : Hid (RdS (w7.setCell ⟨rb, 0, none⟩ (.slice (some ⟨g, 0, none⟩) D.S.length cap2)) w5.heap.size Q rb D g cap2 ra rcap L) := hrds; have HT : Hid (Turn (fun b => b = rb) w5 (w7.setCell ⟨rb, 0, none⟩ (.slice (some ⟨g, 0, none⟩) D.S.length cap2))) := htn; have hgb := hrds.gb; have HC7 : Hid (IsCells w7 w.heap.size #[.int .i64 tk, .string nm, .slice aa al ac, .string tx, .slice ka kl kc]) := (HC4.out.of_block (hb7.block _ hwl5)); have hx0 := HC7.out.cell 0; have hx1 := HC7.out.cell 1; have hx2 := HC7.out.cell 2; have hx3 := HC7.out.cell 3; have hx4 := HC7.out.cell 4; simp at hx0 hx1 hx2 hx3 hx4; have hw7l : w.heap.size < w7.heap.size := HC7.out.lt; have hrw7 : rb < w7.heap.size := Nat.lt_of_lt_of_le hrb1 hb7.size; clear hrds htn hown1 hg1 hnil1 hat1 hhd hb7)
 have hmk := HMK.out _ _ _ _ _ _ _ _ (.inr trivial) (fun b o h1 h2 => by
  have e1 : (w7.setCell ⟨rb, 0, none⟩ (.slice (some ⟨g, 0, none⟩) D.S.length cap2)).cell? ⟨b, o, none⟩ = w5.cell? ⟨b, o, none⟩ := World.cell?_of_block (w := w5) (a := ⟨b, o, none⟩) (HT.out.block b (by omega) (by omega))
  exact e1.trans (HB4.out.cell (p := ⟨b, o, none⟩) (show b < w.heap.size by omega))) (by have := HT.out.size; omega) HRS.out
 refine hmk.mono ?_
 rintro e w8 ⟨rfl, Q8, g8, L8, hm8⟩
 obtain ⟨cap8, hd8⟩ := hm8.doc
 have hput := HPUT.out _ _ _ _ _ _ _ _ hd8.toS
 have hsT := HT.out.size
 have hs8 := hm8.turn.size
 have HT8 : Hid (Turn (fun b => b = rb) w5 w8) := ((HT.out.mono (B := fun b => b = rb \/ b = g) (fun _ _ h => .inl h)).trans hm8.turn).mono (fun b hb h => by
  rcases h with h | h
  ·exact h
  ·omega)
 have HQ8 : Hid (∀ b, (∃ k, Q8 k b) -> Q b \/ w.heap.size <= b) := fun b ⟨k, hb⟩ => by
  rcases hm8.from' k b hb with h | h
  ·exact .inl h
  ·exact .inr (by omega)
 have hg8 : w5.heap.size <= g8 := by
  rcases hm8.gn with e | e
  ·omega
  ·omega
 clear hmk hm8 hd8 HMK HPUT HRS HT hc0 hf0 HN HL HV HRA HH HDD hz0 hrc hsc hx0 hx1 hx2 hx3 hx4
 go_wp2_with fail
 refine hput.mono ?_
 rintro e w9 ⟨rfl, ⟨Q9, ra9, rcap9, L9, hr9, hq9⟩, ht9⟩
 have HT9 : Hid (Turn (fun b => b = rb) w5 w9) := ((HT8.out.mono (B := fun b => b = rb \/ b = g8) (fun _ _ h => .inl h)).trans ht9).mono (fun b hb h => by
  rcases h with h | h
  ·exact h
  ·omega)
 have HQ9 : Hid (∀ b, Q9 b -> Q b \/ w.heap.size <= b) := fun b hb => by
  rcases hq9 b hb with h | h
  ·exact HQ8.out b h
  ·exact .inr (by omega)
 have HR9 : Hid (RdS w9 w5.heap.size Q9 rb (putD E H p wh a) g8 _ ra9 rcap9 L9) := hr9
 clear hr9 hq9 ht9 hput
 go_wp2
 go_ret2
 exact ⟨rfl, (HR9.out.close (z := 0) HB4.out HT9.out HQ9.out HD.out.lt HD.out.nrb hrbl).2⟩
theorem rins_any (n : Nat) (w : World) (v : Array Value) (t : T n) (lo hi : Nat) (Q : Nat -> Prop) (rb a : Nat) (wh : Int) (D : Dc) (h : TreeAt w lo hi n v t) (hsz : hi <= w.heap.size) (hrb : hi <= rb) (hd : RDoc w Q rb D) (hw : WF D) (hal : a < 18446744073709551616) :
  Calls Tryz.prog 18 #[.pointer (some ⟨rb, 0, none⟩), .int .i64 wh, .int .u64 (a : Int), .agg v] w (RInsP w Q rb (insD D wh a n t).1 (insD D wh a n t).2 (insE D wh a n t)) := by
 have hbad : insE D wh a n t ≠ 0 -> insD D wh a n t = (D, 0) := fun h => by unfold insD; rw [if_neg h]
 cases hpl : isPlaceB wh a with
 | false =>
  have e : insE D wh a n t = 1 := by unfold insE; rw [if_pos hpl]
  rw [hbad (by rw [e]; decide), e]
  exact rins_arg n w v t lo hi Q rb a wh D h hsz hrb hd hw hal hpl
 | true =>
  by_cases hcz : (chk n t 1 0).2 = 0
  ·by_cases hpz : (placeE D wh a).2 = 0
   ·by_cases hdp : 64 < (ups D (placeE D wh a).1).length + htT n t
    ·have e : insE D wh a n t = 32 := by unfold insE; rw [if_neg (by simp [hpl]), if_neg (by simp [hcz]), if_neg (by simp [hpz]), if_pos hdp]
     rw [hbad (by rw [e]; decide), e]
     exact rins_deep n w v t lo hi Q rb a wh D h hsz hrb hd hw hal hpl hcz hpz hdp
    ·by_cases hmn : 4096 < cnt takenB D.S + ndT n t
     ·have e : insE D wh a n t = 33 := by unfold insE; rw [if_neg (by simp [hpl]), if_neg (by simp [hcz]), if_neg (by simp [hpz]), if_neg hdp, if_pos hmn]
      rw [hbad (by rw [e]; decide), e]
      exact rins_many n w v t lo hi Q rb a wh D h hsz hrb hd hw hal hpl hcz hpz (by omega) hmn
     ·have e : insE D wh a n t = 0 := by unfold insE; rw [if_neg (by simp [hpl]), if_neg (by simp [hcz]), if_neg (by simp [hpz]), if_neg hdp, if_neg hmn]
      have ei : insD D wh a n t = (putD (growD n t (placeE D wh a).1 D).1 (growD n t (placeE D wh a).1 D).2 (placeE D wh a).1 wh a, (growD n t (placeE D wh a).1 D).2) := by unfold insD; rw [if_pos e]
      rw [ei, e]
      exact rins_ok n w v t lo hi Q rb a wh D h hsz hrb hd hw hal hpl hcz hpz (by omega) (by omega)
   ·have e : insE D wh a n t = (placeE D wh a).2 := by unfold insE; rw [if_neg (by simp [hpl]), if_neg (by simp [hcz]), if_pos hpz]
    rw [hbad (by rw [e]; exact hpz), e]
    exact rins_place n w v t lo hi Q rb a wh D h hsz hrb hd hw hal hpl hcz hpz
  ·have e : insE D wh a n t = (chk n t 1 0).2 := by unfold insE; rw [if_neg (by simp [hpl]), if_pos hcz]
   rw [hbad (by rw [e]; exact hcz), e]
   exact rins_check n w v t lo hi Q rb a wh D h hsz hrb hd hw hal hpl hcz
end Go.Proofs.YtnhajpeijkbbeaaGreat
/- Blocks that may be stored into. -/
namespace Go.Proofs.YtnhajpeijkbbeaaGreat
open Go.RowKit
set_option maxRecDepth 100000
set_option maxHeartbeats 2000000
set_option linter.unusedVariables false
set_option linter.unusedSimpArgs false
def Wr (w : World) (b : Nat) : Prop := ∃ cs, IsCells w b cs
theorem Wr.of_block {w w' : World} {b : Nat} (h : Wr w b) (hb : w'.heap[b]? = w.heap[b]?) : Wr w' b := by
 obtain ⟨cs, h⟩ := h
 exact ⟨cs, h.of_block hb⟩
theorem Wr.setCell {w : World} {b : Nat} (h : Wr w b) (X o : Nat) (v : Value) : Wr (w.setCell ⟨X, o, none⟩ v) b := by
 obtain ⟨cs, h⟩ := h
 by_cases e : b = X
 ·subst e
  exact ⟨_, h.set o v⟩
 ·exact ⟨cs, h.other e v⟩
theorem Wr.frozen {w : World} {b : Nat} (h : Wr w b) (o : Nat) : w.frozen? ⟨b, o, none⟩ = false := by
 obtain ⟨cs, h⟩ := h
 exact h.frozen o
theorem own_wr {w : World} {base : Nat} {e : TypeId} {size : Nat} {v : Value} {n : Nat} {xs : List Value} (h : w.ownsRow base e size v n xs) {g : Nat} (hg : v.ownBlock = some g) : Wr w g := by
 rcases h.2 with ⟨rfl, rfl⟩ | ⟨g', cap, cur, rfl, _, hh, _⟩
 ·cases hg
 ·simp only [Value.ownBlock, Option.some.injEq] at hg
  subst hg
  exact ⟨cur, e, hh⟩
def Fw (w : World) (H b : Nat) : Prop := H <= b /\ b < w.heap.size /\ Wr w b
theorem Fw.to {w w' : World} {H H' b : Nat} (h : Fw w H b) (hH : H' <= b) (hb : w'.heap[b]? = w.heap[b]?) (hs : w.heap.size <= w'.heap.size) : Fw w' H' b := ⟨hH, Nat.lt_of_lt_of_le h.2.1 hs, h.2.2.of_block hb⟩
theorem Fw.below {w w' : World} {H b B : Nat} (h : Fw w H b) (hb : Below B w w') (hB : w.heap.size <= B) : Fw w' H b := h.to h.1 (hb.block b (Nat.lt_of_lt_of_le h.2.1 hB)) hb.size
theorem Fw.low {w : World} {H H' b : Nat} (h : Fw w H b) (hH : H' <= H) : Fw w H' b := ⟨Nat.le_trans hH h.1, h.2⟩
theorem attrs_own {w : World} {base : Nat} {e : TypeId} {a : Option Addr} {n cap : Nat} {l : List (ByteArray × ByteArray)} {xs : List Value} (h : w.ownsRow base e 2 (.slice a n cap) n xs) (hx : xs = attrCells l) : AttrsR w (fun b => (Value.slice a n cap).ownBlock = some b /\ Fw w base b) a l /\ n = l.length /\ n <= cap := by
 obtain ⟨h1, h2, h3⟩ := attrs_row h hx
 exact ⟨h1.to (fun b hb => ⟨hb.1, hb.2.1, hb.2.2, own_wr h hb.1⟩) (fun _ _ _ => rfl), h2, h3⟩
theorem hands_own {w : World} {base : Nat} {e : TypeId} {a : Option Addr} {n cap : Nat} {l : List Nat} (h : w.ownsRow base e 1 (.slice a n cap) n (hvals l)) : HandsAt w (fun b => (Value.slice a n cap).ownBlock = some b /\ Fw w base b) a l := by
 intro i x hx
 obtain ⟨-, -, hcell⟩ := row_cell h
 obtain ⟨g, e1, e2, e3, e4⟩ := hcell i (.int .u64 (x : Int)) (by unfold hvals; rw [List.getElem?_map, hx]; rfl)
 subst e1
 exact ⟨g, 0, rfl, ⟨rfl, e2, e3, own_wr h rfl⟩, by rw [Nat.zero_add]; exact e4⟩
def BaowP (w : World) (s : Sl) (e : Ending) (w' : World) : Prop :=
 ∃ a cap, e = .returned (.agg (tv s.kind s.name a s.attrs.length cap s.text none 0 0)) /\ s.attrs.length <= cap /\ AttrsR w' (Fw w' w.heap.size) a s.attrs /\ Below w.heap.size w w'
theorem bare_own (w : World) (R : Nat -> Prop) (s : Sl) (aa : Option Addr) (ac : Nat) (ka : Option Addr) (kl kc : Nat) (h : AttrsR w R aa s.attrs) (hR : ∀ b, R b -> b < w.heap.size) (hl : s.attrs.length <= 1000000) :
  Calls Tryz.prog 85 #[.agg #[.int .u32 (s.gen : Int), .bool s.live, .int .i64 s.kind, .string s.name, .slice aa s.attrs.length ac, .string s.text, .int .u64 (s.parent : Int), .slice ka kl kc]] w (BaowP w s) := by
 have HFR : Hid (∀ W, Below w.heap.size w W -> Calls Tryz.prog 90 #[.slice aa s.attrs.length ac] W (FrP W 128 2 s.attrs.length (attrCells s.attrs))) := fun W hb => freshA_any W R aa s.attrs ac (h.to (fun _ h => h) (fun b o hb' => hb.cell (p := ⟨b, o, none⟩) (hR b hb'))) hl
 clear h hR
 obtain ⟨W0, hW0⟩ : ∃ W0, W0 = ((w.alloc (.cells #[.int .u32 (s.gen : Int), .bool s.live, .int .i64 s.kind, .string s.name, .slice aa s.attrs.length ac, .string s.text, .int .u64 (s.parent : Int), .slice ka kl kc] 75)).alloc (.cells #[.int .i64 0, .string ⟨#[]⟩, .slice none 0 0, .string ⟨#[]⟩, .slice none 0 0] 46)) := ⟨_, rfl⟩
 have HB0 : Hid (Below w.heap.size w W0) := by rw [hW0]; exact (below_new' w _).alloc (by simp) _
 have hs0 : W0.heap.size = w.heap.size + 2 := by rw [hW0]; simp
 have HX1 : Hid (IsCells W0 w.heap.size #[.int .u32 (s.gen : Int), .bool s.live, .int .i64 s.kind, .string s.name, .slice aa s.attrs.length ac, .string s.text, .int .u64 (s.parent : Int), .slice ka kl kc]) := by rw [hW0]; exact (isCells_new w _ 75).alloc _
 have HX2 : Hid (IsCells W0 (w.heap.size + 1) #[.int .i64 0, .string ⟨#[]⟩, .slice none 0 0, .string ⟨#[]⟩, .slice none 0 0]) := by
  show IsCells _ _ _
  rw [hW0]
  have := isCells_new (w.alloc (.cells #[.int .u32 (s.gen : Int), .bool s.live, .int .i64 s.kind, .string s.name, .slice aa s.attrs.length ac, .string s.text, .int .u64 (s.parent : Int), .slice ka kl kc] 75)) #[.int .i64 0, .string ⟨#[]⟩, .slice none 0 0, .string ⟨#[]⟩, .slice none 0 0] 46
  simpa using this
 have HW0 : Hid (W0 = ((w.alloc (.cells #[.int .u32 (s.gen : Int), .bool s.live, .int .i64 s.kind, .string s.name, .slice aa s.attrs.length ac, .string s.text, .int .u64 (s.parent : Int), .slice ka kl kc] 75)).alloc (.cells #[.int .i64 0, .string ⟨#[]⟩, .slice none 0 0, .string ⟨#[]⟩, .slice none 0 0] 46))) := hW0
 clear hW0
 go_enter Tryz.func85, Tryz.ntmps85
 go_wp2
 rw [<- HW0.out]
 have hfr := HFR.out W0.drew HB0.out.drew
 have hc1 := HX1.out.cell
 have hc2 := HX2.out.cell
 have hf2 := HX2.out.frozen
 have q0 : W0.drew.cell? ⟨w.heap.size, 2, none⟩ = some (.int .i64 s.kind) := by show W0.cell? _ = _; rw [hc1]; rfl
 have q1 : W0.drew.cell? ⟨w.heap.size, 3, none⟩ = some (.string s.name) := by show W0.cell? _ = _; rw [hc1]; rfl
 have q2 : W0.drew.cell? ⟨w.heap.size, 4, none⟩ = some (.slice aa s.attrs.length ac) := by show W0.cell? _ = _; rw [hc1]; rfl
 have q3 : W0.drew.cell? ⟨w.heap.size, 5, none⟩ = some (.string s.text) := by show W0.cell? _ = _; rw [hc1]; rfl
 go_region_held3 (fun W => W.cell? ⟨w.heap.size, 2, none⟩ = some (.int .i64 s.kind) /\ W.cell? ⟨w.heap.size, 3, none⟩ = some (.string s.name) /\ W.cell? ⟨w.heap.size, 4, none⟩ = some (.slice aa s.attrs.length ac) /\ W.cell? ⟨w.heap.size, 5, none⟩ = some (.string s.text)) (go_keep)
  (first | (go_at_call 90; refine hfr.mono ?_; rintro e w1 ⟨va, vc, rfl, hown, hb⟩; have r0 := (hb.cell (p := ⟨w.heap.size, 2, none⟩) (by show w.heap.size < W0.heap.size; omega)).trans q0; have r1 := (hb.cell (p := ⟨w.heap.size, 3, none⟩) (by show w.heap.size < W0.heap.size; omega)).trans q1; have r2 := (hb.cell (p := ⟨w.heap.size, 4, none⟩) (by show w.heap.size < W0.heap.size; omega)).trans q2; have r3 := (hb.cell (p := ⟨w.heap.size, 5, none⟩) (by show w.heap.size < W0.heap.size; omega)).trans q3; have s0 : w1.cell? ⟨w.heap.size + 1, 0, none⟩ = some (.int .i64 0) := (hb.cell (p := ⟨w.heap.size + 1, 0, none⟩) (by show w.heap.size + 1 < W0.heap.size; omega)).trans (hc2 0); have z0 : w1.frozen? ⟨w.heap.size + 1, 0, none⟩ = false := (hb.frozen (p := ⟨w.heap.size + 1, 0, none⟩) (by show w.heap.size + 1 < W0.heap.size; omega)).trans (hf2 0); have s1 : w1.cell? ⟨w.heap.size + 1, 1, none⟩ = some (.string ⟨#[]⟩) := (hb.cell (p := ⟨w.heap.size + 1, 1, none⟩) (by show w.heap.size + 1 < W0.heap.size; omega)).trans (hc2 1); have z1 : w1.frozen? ⟨w.heap.size + 1, 1, none⟩ = false := (hb.frozen (p := ⟨w.heap.size + 1, 1, none⟩) (by show w.heap.size + 1 < W0.heap.size; omega)).trans (hf2 1); have s2 : w1.cell? ⟨w.heap.size + 1, 2, none⟩ = some (.slice none 0 0) := (hb.cell (p := ⟨w.heap.size + 1, 2, none⟩) (by show w.heap.size + 1 < W0.heap.size; omega)).trans (hc2 2); have z2 : w1.frozen? ⟨w.heap.size + 1, 2, none⟩ = false := (hb.frozen (p := ⟨w.heap.size + 1, 2, none⟩) (by show w.heap.size + 1 < W0.heap.size; omega)).trans (hf2 2); have s3 : w1.cell? ⟨w.heap.size + 1, 3, none⟩ = some (.string ⟨#[]⟩) := (hb.cell (p := ⟨w.heap.size + 1, 3, none⟩) (by show w.heap.size + 1 < W0.heap.size; omega)).trans (hc2 3); have z3 : w1.frozen? ⟨w.heap.size + 1, 3, none⟩ = false := (hb.frozen (p := ⟨w.heap.size + 1, 3, none⟩) (by show w.heap.size + 1 < W0.heap.size; omega)).trans (hf2 3); have s4 : w1.cell? ⟨w.heap.size + 1, 4, none⟩ = some (.slice none 0 0) := (hb.cell (p := ⟨w.heap.size + 1, 4, none⟩) (by show w.heap.size + 1 < W0.heap.size; omega)).trans (hc2 4); have z4 : w1.frozen? ⟨w.heap.size + 1, 4, none⟩ = false := (hb.frozen (p := ⟨w.heap.size + 1, 4, none⟩) (by show w.heap.size + 1 < W0.heap.size; omega)).trans (hf2 4); have HO : Hid (w1.ownsRow W0.heap.size 128 2 (.slice va s.attrs.length vc) s.attrs.length (attrCells s.attrs)) := hown; have HB1 : Hid (Below w.heap.size w w1) := HB0.out.drew.trans (hb.mono (by show w.heap.size <= W0.heap.size; omega)); have hs1 : W0.heap.size <= w1.heap.size := hb.size; clear hown hb q0 q1 q2 q3 hc1 hc2 hf2))
 go_wp2
 refine bodyPost_ret (v := .agg #[.int .i64 s.kind, .string s.name, .slice va s.attrs.length vc, .string s.text, .slice none 0 0]) (by simp [results, Tryz.results85, go_sem, s0, s1, s2, s3, s4]) rfl ⟨va, vc, rfl, ?_⟩
 have hAR := attrs_own HO.out rfl
 have ht : Turn (fun b => b = w.heap.size + 1) w1 (((((w1.setCell ⟨w.heap.size + 1, 0, none⟩ (.int .i64 s.kind)).setCell ⟨w.heap.size + 1, 1, none⟩ (.string s.name)).setCell ⟨w.heap.size + 1, 2, none⟩ (.slice va s.attrs.length vc)).setCell ⟨w.heap.size + 1, 3, none⟩ (.string s.text)).setCell ⟨w.heap.size + 1, 4, none⟩ (.slice none 0 0)) :=
  ((((((Turn.refl (fun b => b = w.heap.size + 1) w1).setCell (A := fun b => b = w.heap.size + 1) (p := ⟨w.heap.size + 1, 0, none⟩) rfl _).setCell (A := fun b => b = w.heap.size + 1) (p := ⟨w.heap.size + 1, 1, none⟩) rfl _).setCell (A := fun b => b = w.heap.size + 1) (p := ⟨w.heap.size + 1, 2, none⟩) rfl _).setCell (A := fun b => b = w.heap.size + 1) (p := ⟨w.heap.size + 1, 3, none⟩) rfl _).setCell (A := fun b => b = w.heap.size + 1) (p := ⟨w.heap.size + 1, 4, none⟩) rfl _)
 have hsz := ht.size
 refine ⟨hAR.2.2, hAR.1.to (fun b hb => (hb.2.to hb.2.1 (ht.block b hb.2.2.1 (by have := hb.2.1; omega)) hsz).low (by omega)) (fun b o hb => World.cell?_of_block (w := w1) (a := ⟨b, o, none⟩) (ht.block b hb.2.2.1 (by have := hb.2.1; omega))), HB1.out.trans (ht.below (by omega) (fun k hk => by omega))⟩
def PlP (w : World) (n : Nat) (t : T n) (e : Ending) (w' : World) : Prop :=
 ∃ v, e = .returned (.agg v) /\ TreeR w' (Fw w' w.heap.size) n v t /\ Below w.heap.size w w'
def FoP (w : World) (n : Nat) (L : List (T n)) (e : Ending) (w' : World) : Prop :=
 ∃ a cap, e = .returned (.slice a L.length cap) /\ L.length <= cap /\ ForR w' (Fw w' w.heap.size) n a L /\ Below w.heap.size w w'
theorem grown_box1 {w3 w4 : World} {o : Obj} {bx : Nat} {row : Option Nat} (hg : (w3.alloc o).grownBy w4 row) (hbx : bx < w3.heap.size) (hne : some bx ≠ row) : w4.heap[bx]? = w3.heap[bx]? :=
 (hg.block bx (by simp; omega) hne).trans (Below.heap_alloc _ _ _ hbx)
structure FoSt (w wr : World) (m : Nat) (L : List (T m)) (i : Nat) (la : Option Addr) (lcap : Nat) (xs : List Value) : Prop where
 own : wr.ownsRow w.heap.size 46 5 (.slice la i lcap) i xs
 kids : CopiesAt wr (fun b => Fw wr w.heap.size b /\ (Value.slice la i lcap).ownBlock ≠ some b) m xs (L.take i)
 bel : Below w.heap.size w wr
theorem FoSt.step {w wr w2 w3 : World} {m : Nat} {L : List (T m)} {i : Nat} {la : Option Addr} {lcap : Nat} {xs : List Value} (h : FoSt w wr m L i la lcap xs) {k : T m} (hk : L[i]? = some k)
  {u : Array Value} (hu : TreeR w2 (Fw w2 wr.heap.size) m u k) (hb : Below wr.heap.size wr w2) {o : Obj} {la' : Option Addr} {lcap' : Nat} (hown : w3.ownsRow w.heap.size 46 5 (.slice la' (i + 1) lcap') (i + 1) (xs ++ u.toList))
  (hg : (w2.alloc o).grownBy w3 (Value.slice la i lcap).ownBlock) (hat : (Value.slice la' (i + 1) lcap').ownBlock = (Value.slice la i lcap).ownBlock \/ (Value.slice la' (i + 1) lcap').ownBlock = some (w2.heap.size + 1)) :
  FoSt w w3 m L (i + 1) la' lcap' (xs ++ u.toList) := by
 have hs := hb.size
 have hs3 : w2.heap.size + 1 <= w3.heap.size := by have := hg.size; simpa using this
 have hbl := h.bel.size
 have hox := own_block_lt h.own
 have far : ∀ b, b < w2.heap.size -> (Value.slice la i lcap).ownBlock ≠ some b -> w3.heap[b]? = w2.heap[b]? := fun b hb1 hb2 => grown_box1 hg hb1 (fun e => hb2 e.symm)
 have far2 : ∀ b, b < wr.heap.size -> (Value.slice la i lcap).ownBlock ≠ some b -> w3.heap[b]? = wr.heap[b]? := fun b hb1 hb2 => (far b (by omega) hb2).trans (hb.block b hb1)
 have hnew : ∀ b, b < w2.heap.size -> (Value.slice la i lcap).ownBlock ≠ some b -> (Value.slice la' (i + 1) lcap').ownBlock ≠ some b := fun b h1 h2 e => by
  rcases hat with hat | hat
  ·rw [hat] at e; exact h2 e
  ·rw [hat] at e; simp only [Option.some.injEq] at e; omega
 have hnb : ∀ b, b < w.heap.size -> (Value.slice la i lcap).ownBlock ≠ some b := fun b hb e => by have := hox _ e; omega
 refine ⟨hown, ?_, ?_⟩
 ·rw [take_more hk]
  have hne : ∀ b, wr.heap.size <= b -> (Value.slice la i lcap).ownBlock ≠ some b := fun b h1 e => by have := hox _ e; omega
  refine CopiesAt.snoc (h.kids.to (fun b hb' => ?_) (fun b o hb' => ?_)) (hu.to (fun b hb' => ?_) (fun b o hb' => ?_))
  ·exact ⟨hb'.1.to hb'.1.1 (far2 b hb'.1.2.1 hb'.2) (by omega), hnew b (by have := hb'.1.2.1; omega) hb'.2⟩
  ·exact World.cell?_of_block (w := wr) (a := ⟨b, o, none⟩) (far2 b hb'.1.2.1 hb'.2)
  ·exact ⟨hb'.to (by have := hb'.1; omega) (far b hb'.2.1 (hne b hb'.1)) (by omega), hnew b hb'.2.1 (hne b hb'.1)⟩
  ·exact World.cell?_of_block (w := w2) (a := ⟨b, o, none⟩) (far b hb'.2.1 (hne b hb'.1))
 ·exact (h.bel.trans (hb.mono hbl)).trans ⟨hg.os, hg.tape, hg.output, by omega, fun k hk => far k (by omega) (hnb k (by omega))⟩
theorem FoSt.more {w wr w' : World} {m : Nat} {L : List (T m)} {i : Nat} {la : Option Addr} {lcap : Nat} {xs : List Value} (h : FoSt w wr m L i la lcap xs) (hb : Below wr.heap.size wr w') : FoSt w w' m L i la lcap xs :=
 ⟨own_of_block h.own (fun k hk => hb.block k (own_block_lt h.own k hk).2), h.kids.to (fun b hb' => ⟨hb'.1.below hb (Nat.le_refl _), hb'.2⟩) (fun b o hb' => hb.cell (p := ⟨b, o, none⟩) hb'.1.2.1), h.bel.trans (hb.mono h.bel.size)⟩
theorem FoSt.done {w wr : World} {m : Nat} {L : List (T m)} {la : Option Addr} {lcap : Nat} {xs : List Value} (h : FoSt w wr m L L.length la lcap xs) : L.length <= lcap /\ ForR wr (Fw wr w.heap.size) m la L := by
 obtain ⟨hlc, hxl, hrow⟩ := row_cell h.own
 refine ⟨hlc, fun i k hk => ?_⟩
 obtain ⟨_, _, hkids⟩ := h.kids
 obtain ⟨u, h1, h2, h3⟩ := hkids i k (by rw [List.take_length]; exact hk)
 have hj : ∀ j, j < 5 -> ∃ g, la = some ⟨g, 0, none⟩ /\ w.heap.size <= g /\ g < wr.heap.size /\ wr.cell? ⟨g, i * 5 + j, none⟩ = u[j]? := fun j hj => by
  have hu := h2 j hj
  rw [Array.getElem?_eq_getElem (by omega)] at hu
  obtain ⟨g, e1, e2, e3, e4⟩ := hrow _ _ hu
  exact ⟨g, e1, e2, e3, by rw [e4, Array.getElem?_eq_getElem (by omega)]⟩
 obtain ⟨g, rfl, hg1, hg2, _⟩ := hj 0 (by omega)
 refine ⟨g, 0, u, rfl, ⟨hg1, hg2, own_wr h.own rfl⟩, h1, fun j hj' => ?_, h3.to (fun b hb => hb.1) (fun b o hb => rfl)⟩
 obtain ⟨g', e1, _, _, e4⟩ := hj j hj'
 cases e1
 rw [Nat.zero_add, e4]
def slv (s : Sl) (aa : Option Addr) (ac : Nat) (ka : Option Addr) (kc : Nat) : Array Value := #[.int .u32 (s.gen : Int), .bool s.live, .int .i64 s.kind, .string s.name, .slice aa s.attrs.length ac, .string s.text, .int .u64 (s.parent : Int), .slice ka s.kids.length kc]
theorem plains_walk (w : World) (R : Nat -> Prop) (db : Nat) (D : Dc) (m : Nat) (l : List Nat) (L : List (T m)) (ra : Option Addr) (rcap : Nat) (hv : View w R db D) (hw : WF D) (hra : HandsAt w R ra l) (hll : l.length <= 4096) (hL : L.length = l.length)
  (hK : ∀ (i x : Nat), l[i]? = some x -> ∃ k s, L[i]? = some k /\ sl D x = some s /\ ∀ W aa ac ka kc, View W R db D -> AttrsR W R aa s.attrs -> HandsAt W R ka s.kids -> Calls Tryz.prog 80 #[.pointer (some ⟨db, 0, none⟩), .agg (slv s aa ac ka kc)] W (PlP W m k)) :
  Calls Tryz.prog 100 #[.pointer (some ⟨db, 0, none⟩), .slice ra l.length rcap] w (FoP w m L) := by
 have HV : Hid (View w R db D) := hv
 have HWF : Hid (WF D) := hw
 have HR : Hid (∀ b, R b -> b < w.heap.size) := hv.lt
 have HRA : Hid (HandsAt w R ra l) := hra
 have HK : Hid (∀ (i x : Nat), l[i]? = some x -> ∃ k s, L[i]? = some k /\ sl D x = some s /\ ∀ W aa ac ka kc, View W R db D -> AttrsR W R aa s.attrs -> HandsAt W R ka s.kids -> Calls Tryz.prog 80 #[.pointer (some ⟨db, 0, none⟩), .agg (slv s aa ac ka kc)] W (PlP W m k)) := hK
 have HL : Hid (L.length = l.length) := hL
 clear hv hra hK hL hw
 have HST : Hid (FoSt w w m L 0 none 0 []) := ⟨own_nil _ _ _ _, by rw [List.take_zero]; exact CopiesAt.nil _ _ _, Below.refl _ _⟩
 go_enter Tryz.func100, Tryz.ntmps100
 go_wp2
 go_loopw [5, 10] (fun q iv wr => ∃ (i : Nat) (la : Option Addr) (lcap : Nat) (xs : List Value), i <= l.length /\ iv = .int .i64 (i : Int) /\ q = .slice la i lcap /\ Hid (FoSt w wr m L i la lcap xs)) (fun _ iv _ => l.length - (intOf iv).toNat)
 case atStart => exact ⟨0, _, _, [], Nat.zero_le _, rfl, rfl, HST⟩
 case round =>
  obtain ⟨j, la, lcap, xs, hj, rfl, rfl, hst⟩ := hrel
  have hbs := hst.out.bel.size
  clear HST
  by_cases hlt : j < l.length
  ·obtain ⟨x, hx⟩ : ∃ x, l[j]? = some x := ⟨_, List.getElem?_eq_getElem hlt⟩
   obtain ⟨k, s, hk, hsx, hcalls⟩ := HK.out j x hx
   obtain ⟨b, o, rfl, hbR, hcx⟩ := HRA.out j x hx
   have hbb := HR.out b hbR
   have hcx' : wr.cell? ⟨b, o + j, none⟩ = some (.int .u64 (x : Int)) := (hst.out.bel.cell (p := ⟨b, _, none⟩) hbb).trans hcx
   have hbr : b < wr.heap.size := by omega
   obtain ⟨hxl, hx0, i, hai, hsi, -⟩ := HWF.out.lt hsx
   obtain ⟨sb, so, scap, -, -, -, -, hh0, -⟩ := (HV.out.below hst.out.bel).slot hsi
   have hcall := find_some wr R db D x i (HV.out.below hst.out.bel) HWF.out.fits hxl hai sb so scap hh0
   have HKK : Hid (L[j]? = some k) := hk
   have HCALLS : Hid (∀ W aa ac ka kc, View W R db D -> AttrsR W R aa s.attrs -> HandsAt W R ka s.kids -> Calls Tryz.prog 80 #[.pointer (some ⟨db, 0, none⟩), .agg (slv s aa ac ka kc)] W (PlP W m k)) := hcalls
   have HSI : Hid (D.S[i]? = some s) := hsi
   have HH0 : Hid (wr.cell? ⟨db, 0, none⟩ = some (.slice (some ⟨sb, so, none⟩) D.S.length scap)) := hh0
   clear hk hcalls hx hcx hsx hsi hh0 hai
   go_wp2_with fail
   refine hcall.mono ?_
   rintro e w2 ⟨rfl, hb2⟩
   have HB2 : Hid (Below wr.heap.size wr w2) := hb2
   have HV2 : Hid (View w2 R db D) := (HV.out.below hst.out.bel).below hb2
   obtain ⟨sb', so', scap', aa, ac, ka, kc, hh1, -, hsbR, c0, c1, c2, c3, c4, c5, c6, c7, l1, l2, hat, hkt⟩ := HV2.out.slot HSI.out
   have hdl := HR.out db HV.out.docs
   have hsame : w2.cell? ⟨db, 0, none⟩ = some (.slice (some ⟨sb, so, none⟩) D.S.length scap) := (hb2.cell (p := ⟨db, 0, none⟩) (show db < wr.heap.size by omega)).trans HH0.out
   rw [hsame] at hh1
   simp only [Option.some.injEq, Value.slice.injEq, Addr.mk.injEq, and_true, true_and] at hh1
   obtain ⟨⟨rfl, rfl⟩, -⟩ := hh1
   have hcall2 := HCALLS.out w2 aa ac ka kc HV2.out hat hkt
   unfold slv at hcall2
   have hs2 := hb2.size
   have hsb2 := HV2.out.lt sb hsbR
   clear hb2 hcall hsame hat hkt HCALLS hcx'
   go_wp2_with fail
   refine hcall2.mono ?_
   rintro e w3 ⟨u, rfl, htu, hbu⟩
   have hs3 := hbu.size
   obtain ⟨kk', nm', a'', al'', ac'', tx', ka3, kl3, kc3, rfl⟩ := htu.form
   have hst2 := hst.out.more HB2.out
   have HST2 : Hid (FoSt w w2 m L j la lcap xs) := hst2
   have HTU : Hid (TreeR w3 (Fw w3 w2.heap.size) m #[.int .i64 kk', .string nm', .slice a'' al'' ac'', .string tx', .slice ka3 kl3 kc3] k) := htu
   have HBU : Hid (Below w2.heap.size w2 w3) := hbu
   clear htu hbu hcall2 c0 c1 c2 c3 c4 c5 c6 c7 hst2 hst
   have tok2 : True := trivial
   go_wp2_with (at_builtin; have _t := tok2; refine wpList_app rfl _ _ rfl Tryz.underlying44 info25 rfl (by decide) w.heap.size (.slice la j lcap) j xs rfl (own_of_block HST2.out.own (fun k hk => (Below.heap_alloc _ _ _ (by have := (own_block_lt HST2.out.own k hk).2; omega)).trans (HBU.out.block k (own_block_lt HST2.out.own k hk).2))) (some ⟨w3.heap.size, 0, none⟩) 1 1 [.int .i64 kk', .string nm', .slice a'' al'' ac'', .string tx', .slice ka3 kl3 kc3] rfl rfl (news_new w3 #[.int .i64 kk', .string nm', .slice a'' al'' ac'', .string tx', .slice ka3 kl3 kc3] 46) (tree_one _ _ _ _ _ _ _ _ _) (by unfold maxLen; omega) (by omega) (by simp; omega) ?_; intro v3 w4 hown3 hg3 _ hat3; clear tok2 _t; obtain ⟨la', lcap', hv3⟩ := own_slice hown3; subst hv3; have HST3 : Hid (FoSt w w4 m L (j + 1) la' lcap' (xs ++ [.int .i64 kk', .string nm', .slice a'' al'' ac'', .string tx', .slice ka3 kl3 kc3])) := HST2.out.step HKK.out HTU.out HBU.out hown3 hg3 (by simpa using hat3); clear hown3 hg3 hat3 HTU HBU HKK HST2)
   go_roundw
   case rel => exact ⟨j + 1, la', lcap', _, by omega, by go_num, rfl, HST3⟩
   case measure => simp [intOf]; omega
  ·have hje : j = l.length := by omega
   subst hje
   have HN := HL
   clear HK hlt
   go_wp2
   go_ret
   have hs9 := hst.out
   have hb9 := hst.out.bel
   rw [<- HN.out] at hs9 ⊢
   exact ⟨_, _, rfl, hs9.done.1, hs9.done.2, hb9⟩
theorem pl_end {w w3 w' : World} {s : Sl} {m W0s X : Nat} {L : List (T m)} {a1 la : Option Addr} {c1 lcap : Nat} (hX : W0s <= X) (hXl : X + 1 <= w3.heap.size) (hs0 : W0s = w.heap.size + 2) (hal : s.attrs.length <= 32) (hkl : L.length <= 4096) (hc1 : s.attrs.length <= c1) (hlc : L.length <= lcap)
  (hat : AttrsR w3 (fun b => Fw w3 W0s b /\ b < X) a1 s.attrs) (hfor : ForR w3 (Fw w3 (X + 1)) m la L) (hb : Below w.heap.size w w3) (ht : Turn (fun b => b = w.heap.size + 1 \/ b = X) w3 w') :
  TreeR w' (Fw w' w.heap.size) (m + 1) #[.int .i64 s.kind, .string s.name, .slice a1 s.attrs.length c1, .string s.text, .slice la L.length lcap] (mkN s L : Nd (T m)) /\ Below w.heap.size w w' := by
 have hs := ht.size
 have hblk : ∀ b, b < w3.heap.size -> b ≠ w.heap.size + 1 -> b ≠ X -> w'.heap[b]? = w3.heap[b]? := fun b h1 h2 h3 => ht.block b h1 (by omega)
 have hcell : ∀ b o, b < w3.heap.size -> b ≠ w.heap.size + 1 -> b ≠ X -> w'.cell? ⟨b, o, none⟩ = w3.cell? ⟨b, o, none⟩ := fun b o h1 h2 h3 => World.cell?_of_block (w := w3) (a := ⟨b, o, none⟩) (hblk b h1 h2 h3)
 refine ⟨⟨a1, c1, la, lcap, rfl, by show s.attrs.length <= maxA; unfold maxA; omega, by show L.length <= maxK; unfold maxK; omega, hc1, hlc, hat.to (fun b hb => ?_) (fun b o hb => ?_), ?_⟩, hb.trans (ht.below (by omega) (fun k hk => by omega))⟩
 ·have := hb.1.1
  exact hb.1.to (by omega) (hblk b hb.1.2.1 (by omega) (by omega)) hs
 ·have := hb.1.1
  exact hcell b o hb.1.2.1 (by omega) (by omega)
 ·exact hfor.to (w' := w') (R' := Fw w' w.heap.size) (fun b hb => by
   have := hb.1
   exact hb.to (by omega) (hblk b hb.2.1 (by omega) (by omega)) hs) (fun b o hb => by
   have := hb.1
   exact hcell b o hb.2.1 (by omega) (by omega))
theorem plain_walk (w : World) (R : Nat -> Prop) (db : Nat) (s : Sl) (m : Nat) (L : List (T m)) (aa : Option Addr) (ac : Nat) (ka : Option Addr) (kc : Nat) (hat : AttrsR w R aa s.attrs) (hR : ∀ b, R b -> b < w.heap.size) (hal : s.attrs.length <= 32) (hkl : L.length <= 4096)
  (hK : ∀ W, Below w.heap.size w W -> Calls Tryz.prog 100 #[.pointer (some ⟨db, 0, none⟩), .slice ka s.kids.length kc] W (FoP W m L)) :
  Calls Tryz.prog 80 #[.pointer (some ⟨db, 0, none⟩), .agg (slv s aa ac ka kc)] w (PlP w (m + 1) (mkN s L : Nd (T m))) := by
 obtain ⟨W0, hW0⟩ : ∃ W0, W0 = ((w.alloc (.cells #[.int .u32 (s.gen : Int), .bool s.live, .int .i64 s.kind, .string s.name, .slice aa s.attrs.length ac, .string s.text, .int .u64 (s.parent : Int), .slice ka s.kids.length kc] 75)).alloc (.cells #[.int .i64 0, .string ⟨#[]⟩, .slice none 0 0, .string ⟨#[]⟩, .slice none 0 0] 46)) := ⟨_, rfl⟩
 have HB0 : Hid (Below w.heap.size w W0) := by rw [hW0]; exact (below_new' w _).alloc (by simp) _
 have hs0 : W0.heap.size = w.heap.size + 2 := by rw [hW0]; simp
 have HX1 : Hid (IsCells W0 w.heap.size #[.int .u32 (s.gen : Int), .bool s.live, .int .i64 s.kind, .string s.name, .slice aa s.attrs.length ac, .string s.text, .int .u64 (s.parent : Int), .slice ka s.kids.length kc]) := by rw [hW0]; exact (isCells_new w _ 75).alloc _
 have HX2 : Hid (IsCells W0 (w.heap.size + 1) #[.int .i64 0, .string ⟨#[]⟩, .slice none 0 0, .string ⟨#[]⟩, .slice none 0 0]) := by
  show IsCells _ _ _
  rw [hW0]
  have := isCells_new (w.alloc (.cells #[.int .u32 (s.gen : Int), .bool s.live, .int .i64 s.kind, .string s.name, .slice aa s.attrs.length ac, .string s.text, .int .u64 (s.parent : Int), .slice ka s.kids.length kc] 75)) #[.int .i64 0, .string ⟨#[]⟩, .slice none 0 0, .string ⟨#[]⟩, .slice none 0 0] 46
  simpa using this
 have hbare := bare_own W0 R s aa ac ka s.kids.length kc (hat.to (fun _ h => h) (fun b o hb => HB0.out.cell (p := ⟨b, o, none⟩) (hR b hb))) (fun b hb => by have := hR b hb; omega) (by omega)
 have HW0 : Hid (W0 = ((w.alloc (.cells #[.int .u32 (s.gen : Int), .bool s.live, .int .i64 s.kind, .string s.name, .slice aa s.attrs.length ac, .string s.text, .int .u64 (s.parent : Int), .slice ka s.kids.length kc] 75)).alloc (.cells #[.int .i64 0, .string ⟨#[]⟩, .slice none 0 0, .string ⟨#[]⟩, .slice none 0 0] 46))) := hW0
 have HK : Hid (∀ W, Below w.heap.size w W -> Calls Tryz.prog 100 #[.pointer (some ⟨db, 0, none⟩), .slice ka s.kids.length kc] W (FoP W m L)) := hK
 clear hW0 hat hR hK
 unfold slv
 go_enter Tryz.func80, Tryz.ntmps80
 go_wp2_with fail
 rw [<- HW0.out]
 clear HW0
 refine hbare.mono ?_
 rintro e w1 ⟨a1, c1, rfl, hc1, hat1, hb1⟩
 have hs1 := hb1.size
 have HB1 : Hid (Below w.heap.size w w1) := HB0.out.trans (hb1.mono (by omega))
 have HX1' : Hid (IsCells w1 w.heap.size #[.int .u32 (s.gen : Int), .bool s.live, .int .i64 s.kind, .string s.name, .slice aa s.attrs.length ac, .string s.text, .int .u64 (s.parent : Int), .slice ka s.kids.length kc]) := HX1.out.of_block (hb1.block _ (by omega))
 have HX2' : Hid (IsCells w1 (w.heap.size + 1) #[.int .i64 0, .string ⟨#[]⟩, .slice none 0 0, .string ⟨#[]⟩, .slice none 0 0]) := HX2.out.of_block (hb1.block _ (by omega))
 have HAT1 : Hid (AttrsR w1 (Fw w1 W0.heap.size) a1 s.attrs) := hat1
 have hk7 : w1.cell? ⟨w.heap.size, 7, none⟩ = some (.slice ka s.kids.length kc) := HX1'.out.cell 7
 have hcal := HK.out (w1.alloc (.cells #[.int .i64 s.kind, .string s.name, .slice a1 s.attrs.length c1, .string s.text, .slice none 0 0] 46)) (HB1.out.alloc (by omega) _)
 have hwl : w.heap.size < w1.heap.size := by omega
 unfold tv
 clear hb1 hbare hat1 HX1 HX2
 go_wp2_with fail
 refine hcal.mono ?_
 rintro e w3 ⟨la, lcap, rfl, hlc, hfor, hb3⟩
 have hs3 : w1.heap.size + 1 <= w3.heap.size := by have := hb3.size; simpa using this
 have HBX : Hid (IsCells w3 w1.heap.size #[.int .i64 s.kind, .string s.name, .slice a1 s.attrs.length c1, .string s.text, .slice none 0 0]) := (isCells_new w1 _ 46).of_block (hb3.block _ (by simp))
 have HRS : Hid (IsCells w3 (w.heap.size + 1) #[.int .i64 0, .string ⟨#[]⟩, .slice none 0 0, .string ⟨#[]⟩, .slice none 0 0]) := (HX2'.out.alloc _).of_block (hb3.block _ (by simp; omega))
 have HB3 : Hid (Below w.heap.size w w3) := (HB1.out.alloc (by omega) _).trans (hb3.mono (by simp; omega))
 have HAT3 : Hid (AttrsR w3 (fun b => Fw w3 W0.heap.size b /\ b < w1.heap.size) a1 s.attrs) := HAT1.out.to (fun b hb => ⟨(hb.below (below_new' w1 _) (Nat.le_refl _)).below hb3 (Nat.le_refl _), hb.2.1⟩) (fun b o hb => (hb3.cell (p := ⟨b, o, none⟩) (by show b < _; have := hb.2.1; simp; omega)).trans ((below_new' w1 _).cell (p := ⟨b, o, none⟩) hb.2.1))
 have HFOR : Hid (ForR w3 (Fw w3 (w1.heap.size + 1)) m la L) := hfor.to (fun b hb => by simpa using hb) (fun _ _ _ => rfl)
 have hbc := HBX.out.cell
 have hbf := HBX.out.frozen
 have hrc := HRS.out.cell
 have hrf := HRS.out.frozen
 have hbl : w1.heap.size < w3.heap.size := by omega
 have hrl : w.heap.size + 1 < w3.heap.size := by omega
 have hne : ¬ w1.heap.size = w.heap.size + 1 := by omega
 have hne' : ¬ w.heap.size + 1 = w1.heap.size := by omega
 clear hb3 hfor hcal hk7 HX1' HX2' HAT1
 go_wp2
 refine bodyPost_ret (v := .agg #[.int .i64 s.kind, .string s.name, .slice a1 s.attrs.length c1, .string s.text, .slice la L.length lcap]) (by simp [results, Tryz.results80, go_sem, hrc]) rfl ⟨_, rfl, ?_⟩
 exact pl_end (w' := _) (X := w1.heap.size) (by omega) (by omega) hs0 hal hkl hc1 hlc HAT3.out HFOR.out HB3.out ((((((((Turn.refl (fun b => b = w.heap.size + 1 \/ b = w1.heap.size) w3).setCell (A := fun b => b = w.heap.size + 1 \/ b = w1.heap.size) (p := ⟨w1.heap.size, 4, none⟩) (.inr rfl) _).setCell (A := fun b => b = w.heap.size + 1 \/ b = w1.heap.size) (p := ⟨w.heap.size + 1, 0, none⟩) (.inl rfl) _).setCell (A := fun b => b = w.heap.size + 1 \/ b = w1.heap.size) (p := ⟨w.heap.size + 1, 1, none⟩) (.inl rfl) _).setCell (A := fun b => b = w.heap.size + 1 \/ b = w1.heap.size) (p := ⟨w.heap.size + 1, 2, none⟩) (.inl rfl) _).setCell (A := fun b => b = w.heap.size + 1 \/ b = w1.heap.size) (p := ⟨w.heap.size + 1, 3, none⟩) (.inl rfl) _).setCell (A := fun b => b = w.heap.size + 1 \/ b = w1.heap.size) (p := ⟨w.heap.size + 1, 4, none⟩) (.inl rfl) _))
theorem plain_any (D : Dc) (R : Nat -> Prop) (db : Nat) (lv : Nat -> Nat) (hw : WF D) (hl : Lev D lv) : ∀ (m : Nat) (w : World) (h : Nat) (s : Sl) (aa : Option Addr) (ac : Nat) (ka : Option Addr) (kc : Nat), View w R db D -> sl D h = some s -> AttrsR w R aa s.attrs -> HandsAt w R ka s.kids -> 63 - lv h <= m ->
  Calls Tryz.prog 80 #[.pointer (some ⟨db, 0, none⟩), .agg (slv s aa ac ka kc)] w (PlP w (m + 1) (subT D m h))
 | 0, w, h, s, aa, ac, ka, kc, hv, hs, hat, hkt, hm => by
  have hnil : lst D h = [] := by
   cases he : lst D h with
   | nil => rfl
   | cons c r =>
    obtain ⟨s', h1, _, h2⟩ := hw.kid hl hs (c := c) (by rw [he]; simp)
    have := (hl c s' h1).1
    omega
  have hkn : s.kids = [] := by rw [<- lst_of hs, hnil]
  unfold subT
  rw [slD_of hs]
  refine plain_walk w R db s 0 (kidT D 0 h) aa ac ka kc hat hv.lt (hw.alen hs) (by simp [kidT]) (fun W hb => ?_)
  have := plains_walk W R db D 0 [] [] ka kc (hv.below hb) hw (fun i x hx => by simp at hx) (by simp) rfl (fun i x hx => by simp at hx)
  rw [hkn]
  exact this
 | m + 1, w, h, s, aa, ac, ka, kc, hv, hs, hat, hkt, hm => by
  have hll := lst_len hw (.inr ⟨s, hs⟩ : h = 0 \/ ∃ s, sl D h = some s)
  have hkk : lst D h = s.kids := lst_of hs
  unfold subT
  rw [slD_of hs]
  refine plain_walk w R db s (m + 1) (kidT D (m + 1) h) aa ac ka kc hat hv.lt (hw.alen hs) (by rw [kidT_succ, List.length_map]; exact hll) (fun W hb => ?_)
  rw [kidT_succ, hkk]
  refine plains_walk W R db D (m + 1) s.kids (s.kids.map (subT D m)) ka kc (hv.below hb) hw (hkt.to (fun _ h => h) (fun b o hb' => hb.cell (p := ⟨b, o, none⟩) (hv.lt b hb'))) (by rw [<- hkk]; exact hll) (List.length_map ..) (fun i x hx => ?_)
  obtain ⟨s', h1, _, h2⟩ := hw.kid hl hs (c := x) (by rw [hkk]; exact List.mem_of_getElem? hx)
  exact ⟨subT D m x, s', by rw [List.getElem?_map, hx]; rfl, h1, fun W' aa' ac' ka' kc' hW' ha' hk' => plain_any D R db lv hw hl m W' x s' aa' ac' ka' kc' hW' h1 ha' hk' (by omega)⟩
theorem pforest_any (w : World) (R : Nat -> Prop) (db : Nat) (D : Dc) (hv : View w R db D) (hw : WF D) :
  Calls Tryz.prog 59 #[.pointer (some ⟨db, 0, none⟩)] w (FoP w 64 (D.roots.map (subT D 63))) := by
 obtain ⟨lv, hl⟩ := hw.lev
 have hll := (roots_len hw).1
 obtain ⟨ra, rcap, hz1, hrc, hra⟩ := hv.roots
 have hcal := plains_walk w R db D 64 D.roots (D.roots.map (subT D 63)) ra rcap hv hw hra hll (List.length_map ..) (fun i x hx => by
  obtain ⟨s, h1, _, h2⟩ := hw.root hl (List.mem_of_getElem? hx)
  exact ⟨subT D 63 x, s, by rw [List.getElem?_map, hx]; rfl, h1, fun W aa ac ka kc hW ha hk => plain_any D R db lv hw hl 63 W x s aa ac ka kc hW h1 ha hk (by omega)⟩)
 generalize D.roots.map (subT D 63) = L at hcal ⊢
 clear hv hw hl hra
 go_enter Tryz.func59, Tryz.ntmps59
 go_wp2_with fail
 refine hcal.mono ?_
 rintro e w1 ⟨a, c, rfl, h1, h2, h3⟩
 go_wp2
 go_ret
 exact ⟨a, c, rfl, h1, h2, h3⟩
def PSubP (w : World) (n : Nat) (t : T n) (e : Ending) (w' : World) : Prop :=
 ∃ v, e = .returned (.tuple #[.agg v, .int .i64 0]) /\ TreeR w' (Fw w' w.heap.size) n v t /\ Below w.heap.size w w'
theorem psub_some (w : World) (R : Nat -> Prop) (db : Nat) (D : Dc) (h : Nat) (s : Sl) (hv : View w R db D) (hw : WF D) (hs : sl D h = some s) :
  Calls Tryz.prog 19 #[.pointer (some ⟨db, 0, none⟩), .int .u64 (h : Int)] w (PSubP w 64 (subT D 63 h)) := by
 obtain ⟨lv, hl⟩ := hw.lev
 obtain ⟨hhl, h0, i, hai, hsi, -⟩ := hw.lt hs
 have hv0 := hv.below (below_new' w (.cells #[.int .i64 0, .string ⟨#[]⟩, .slice none 0 0, .string ⟨#[]⟩, .slice none 0 0] 46))
 obtain ⟨sb, so, scap, -, -, -, -, hh0, -⟩ := hv0.slot hsi
 have hfind := find_some _ R db D h i hv0 hw.fits hhl hai sb so scap hh0
 have HPL : Hid (∀ (W : World) (aa : Option Addr) (ac : Nat) (ka : Option Addr) (kc : Nat), View W R db D -> AttrsR W R aa s.attrs -> HandsAt W R ka s.kids -> Calls Tryz.prog 80 #[.pointer (some ⟨db, 0, none⟩), .agg (slv s aa ac ka kc)] W (PlP W 64 (subT D 63 h))) := fun W aa ac ka kc h1 h2 h3 => plain_any D R db lv hw hl 63 W h s aa ac ka kc h1 hs h2 h3 (by omega)
 have HV0 : Hid (View (w.alloc (.cells #[.int .i64 0, .string ⟨#[]⟩, .slice none 0 0, .string ⟨#[]⟩, .slice none 0 0] 46)) R db D) := hv0
 have HSI : Hid (D.S[i]? = some s) := hsi
 have hdl := hv.lt db hv.docs
 have HH0 : Hid ((w.alloc (.cells #[.int .i64 0, .string ⟨#[]⟩, .slice none 0 0, .string ⟨#[]⟩, .slice none 0 0] 46)).cell? ⟨db, 0, none⟩ = some (.slice (some ⟨sb, so, none⟩) D.S.length scap)) := hh0
 generalize subT D 63 h = t at *
 clear hv hw hs hl hv0 hsi hai hh0
 go_enter Tryz.func19, Tryz.ntmps19
 go_wp2_with fail
 refine hfind.mono ?_
 rintro e w1 ⟨rfl, hb1⟩
 have HV1 : Hid (View w1 R db D) := HV0.out.below hb1
 obtain ⟨sb', so', scap', aa, ac, ka, kc, hh1, -, hsbR, c0, c1, c2, c3, c4, c5, c6, c7, l1, l2, hat, hkt⟩ := HV1.out.slot HSI.out
 have hsame : w1.cell? ⟨db, 0, none⟩ = some (.slice (some ⟨sb, so, none⟩) D.S.length scap) := (hb1.cell (p := ⟨db, 0, none⟩) (by show db < _; simp; omega)).trans HH0.out
 rw [hsame] at hh1
 simp only [Option.some.injEq, Value.slice.injEq, Addr.mk.injEq, and_true, true_and] at hh1
 obtain ⟨⟨rfl, rfl⟩, -⟩ := hh1
 have hcall2 := HPL.out w1 aa ac ka kc HV1.out hat hkt
 unfold slv at hcall2
 have hs1 : w.heap.size + 1 <= w1.heap.size := by have := hb1.size; simpa using this
 have HB1 : Hid (Below w.heap.size w w1) := (below_new' w _).trans (hb1.mono (by simp))
 have HRES : Hid (IsCells w1 w.heap.size #[.int .i64 0, .string ⟨#[]⟩, .slice none 0 0, .string ⟨#[]⟩, .slice none 0 0]) := (isCells_new w _ 46).of_block (hb1.block _ (by simp))
 have hsb1 := HV1.out.lt sb hsbR
 clear hb1 hfind hsame hat hkt HPL
 go_wp2_with fail
 refine hcall2.mono ?_
 rintro e w2 ⟨v, rfl, htv, hb2⟩
 obtain ⟨kk', nm', a'', al'', ac'', tx', ka3, kl3, kc3, rfl⟩ := htv.form
 have hs2 := hb2.size
 have HB2 : Hid (Below w.heap.size w w2) := HB1.out.trans (hb2.mono (by omega))
 have hres2 : IsCells w2 w.heap.size #[.int .i64 0, .string ⟨#[]⟩, .slice none 0 0, .string ⟨#[]⟩, .slice none 0 0] := HRES.out.of_block (hb2.block _ (by omega))
 have hr := hres2.cell
 have hrf := hres2.frozen
 have hrl := hres2.lt
 have HTV : Hid (TreeR w2 (Fw w2 w1.heap.size) 64 #[.int .i64 kk', .string nm', .slice a'' al'' ac'', .string tx', .slice ka3 kl3 kc3] t) := htv
 clear hb2 hcall2 hres2 htv c0 c1 c2 c3 c4 c5 c6 c7
 go_wp2
 refine bodyPost_ret (v := .tuple #[.agg #[.int .i64 kk', .string nm', .slice a'' al'' ac'', .string tx', .slice ka3 kl3 kc3], .int .i64 0]) (by simp [results, Tryz.results19, go_sem, hr]) rfl ⟨_, rfl, ?_⟩
 have ht : Turn (fun b => b = w.heap.size) w2 _ := (((((Turn.refl (fun b => b = w.heap.size) w2).setCell (A := fun b => b = w.heap.size) (p := ⟨w.heap.size, 0, none⟩) rfl (.int .i64 kk')).setCell (A := fun b => b = w.heap.size) (p := ⟨w.heap.size, 1, none⟩) rfl (.string nm')).setCell (A := fun b => b = w.heap.size) (p := ⟨w.heap.size, 2, none⟩) rfl (.slice a'' al'' ac'')).setCell (A := fun b => b = w.heap.size) (p := ⟨w.heap.size, 3, none⟩) rfl (.string tx')).setCell (A := fun b => b = w.heap.size) (p := ⟨w.heap.size, 4, none⟩) rfl (.slice ka3 kl3 kc3)
 have hts := ht.size
 refine ⟨HTV.out.to (fun b hb => ?_) (fun b o hb => ?_), HB2.out.trans (ht.below (by omega) (fun k hk => by omega))⟩
 ·have := hb.1
  exact hb.to (by omega) (ht.block b hb.2.1 (by omega)) hts
 ·have := hb.1
  exact World.cell?_of_block (w := w2) (a := ⟨b, o, none⟩) (ht.block b hb.2.1 (by omega))
end Go.Proofs.YtnhajpeijkbbeaaGreat
