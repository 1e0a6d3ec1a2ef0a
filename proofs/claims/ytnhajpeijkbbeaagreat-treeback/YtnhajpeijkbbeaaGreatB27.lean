/- Insert of the program: too many nodes; a tree put in. -/
import Derived.Test.YtnhajpeijkbbeaaGreatB26
import Derived.Test.YtnhajpeijkbbeaaGreatB25
import Derived.Test.YtnhajpeijkbbeaaGreatB22
import Derived.Test.YtnhajpeijkbbeaaGreatB24
namespace Go.Proofs.YtnhajpeijkbbeaaGreat
open Go.RowKit
set_option maxRecDepth 100000
set_option maxHeartbeats 4000000
set_option linter.unusedVariables false
set_option linter.unusedSimpArgs false
theorem ins_many (n : Nat) (w : World) (v : Array Value) (t : T n) (lo hi : Nat) (ro : Nat -> Nat) (db a : Nat) (wh : Int) (D : Dc) (h : TreeAt w lo hi n v t) (hsz : hi <= w.heap.size) (hro : ∀ b, ro b ≠ 0 -> ¬ (lo <= b /\ b < hi)) (hd : PDoc w ro db D) (hw : WF D) (hal : a < 18446744073709551616) (hpl : isPlaceB wh a = true) (hcz : (chk n t 1 0).2 = 0) (hla : liveB D a = true) (hN4 : ndT n t <= 4096) (hfz : fitsE D (arD D wh a) (htT n t) = 0) (hmn : 4096 < cnt takenB D.S + ndT n t) :
  Calls Tryz.prog 16 #[.pointer (some ⟨db, 0, none⟩), .int .i64 wh, .int .u64 (a : Int), .agg v] w (InsP w ro db D 0 33) := by
 have hv := hd.view
 have hpc := fun W => isPlace_any W wh a
 have HD : Hid (PDoc w ro db D) := hd
 obtain ⟨tk, nm, aa, al, ac, tx, ka, kl, kc, rfl⟩ := h.form
 have HBX : Hid (Below w.heap.size w (w.alloc (.cells #[.int .i64 tk, .string nm, .slice aa al ac, .string tx, .slice ka kl kc] 46))) := below_new' w _
 have HBC : Hid (IsCells (w.alloc (.cells #[.int .i64 tk, .string nm, .slice aa al ac, .string tx, .slice ka kl kc] 46)) w.heap.size #[.int .i64 tk, .string nm, .slice aa al ac, .string tx, .slice ka kl kc]) := isCells_new w _ _
 have hck := fun W (hb : Below w.heap.size w W) => Check_any n W _ t lo hi (h.below hb hsz) (Nat.le_trans hsz hb.size)
 have hlv := fun W (hb : Below w.heap.size w W) => isLive_any W _ db D a (hv.below hb) hw.fits hal
 obtain ⟨o1, o2, o3⟩ := chk_ok n t 1 0 (by omega) (by omega) (by omega) hcz
 have hn1 : 1 <= ndT n t := by
  cases n with
  | zero => cases t
  | succ n => exact ndT_pos n t
 have hn4 : ndT n t <= 4096 := hN4
 obtain ⟨lv, hlv0⟩ := hw.lev
 have hlive := live_of hla
 have hwl : wh = 3 \/ wh = 4 -> ∃ t, sl D a = some t := fun h => by
  refine hlive.resolve_left (fun e => ?_)
  subst e
  rcases h with rfl | rfl <;> simp [isPlaceB] at hpl
 have hpp : arD D wh a = 0 \/ ∃ t, sl D (arD D wh a) = some t := by
  unfold arD
  split
  ·rename_i h
   obtain ⟨t, ht⟩ := hwl h
   have := (dep_par hlv0 ht).2
   simpa [par, ht] using this
  ·exact hlive
 have hal' : arD D wh a < 18446744073709551616 := by
  rcases hpp with e | ⟨t, ht⟩
  ·omega
  ·exact (hw.lt ht).1
 have har := fun W (hb : Below w.heap.size w W) => around_any W _ db D wh a (hv.below hb) hw.fits hal hwl
 have hme := fun W (hb : Below w.heap.size w W) => measure_any n W _ t lo hi (h.below hb hsz) (Nat.le_trans hsz hb.size) o1 hn4 (by omega)
 have hfi := fun W (hb : Below w.heap.size w W) => fits_any W _ db D (arD D wh a) (htT n t) (hv.below hb) hw hpp (by omega) _ rfl
 have hfe := fun W (hb : Below w.heap.size w W) => pfree_any W _ db D (ndT n t) (hv.below hb) hw.fits hn4
 rw [hpl] at hpc
 rw [hcz] at hck
 rw [hla] at hlv
 rw [hfz] at hfi
 have hfl : ((frL D).take (ndT n t)).length < ndT n t := by
  have := frL_len hw.fits
  rw [List.length_take]
  omega
 generalize (frL D).take (ndT n t) = FL at *
 generalize arD D wh a = p at *
 generalize htT n t = ht at *
 generalize ndT n t = nd at *
 generalize hFN : FL.length = fn at *
 have hflb : (fn : Int) < (nd : Int) := by omega
 clear hd hv h hw hcz hla o1 o2 hlv0 hwl hpp hlive hmn hfz
 go_enter Tryz.func16, Tryz.ntmps16
 go_wp2_with fail
 refine (hpc _).mono ?_
 rintro e w1 ⟨rfl, rfl⟩
 clear hpc
 have hck1 := hck _ HBX.out
 clear hck
 go_wp2_with fail
 refine hck1.mono ?_
 rintro e w2 ⟨rfl, hb⟩
 have HB2 : Hid (Below w.heap.size w w2) := HBX.out.trans (hb.mono HBX.out.size)
 have HC2 : Hid (IsCells w2 w.heap.size #[.int .i64 tk, .string nm, .slice aa al ac, .string tx, .slice ka kl kc]) := HBC.out.of_block (hb.block w.heap.size (by simp))
 clear hb hck1
 have hlv2 := hlv w2 HB2.out
 clear hlv
 go_wp2_with fail
 refine hlv2.mono ?_
 rintro e w3 ⟨rfl, hb⟩
 have HB3 : Hid (Below w.heap.size w w3) := HB2.out.trans (hb.mono HB2.out.size)
 have HC3 : Hid (IsCells w3 w.heap.size #[.int .i64 tk, .string nm, .slice aa al ac, .string tx, .slice ka kl kc]) := HC2.out.of_block (hb.block w.heap.size HC2.out.lt)
 clear hb hlv2
 have har3 := har w3 HB3.out
 clear har
 go_wp2_with fail
 refine har3.mono ?_
 rintro e w4 ⟨rfl, hb⟩
 have HB4 : Hid (Below w.heap.size w w4) := HB3.out.trans (hb.mono HB3.out.size)
 have HC4 : Hid (IsCells w4 w.heap.size #[.int .i64 tk, .string nm, .slice aa al ac, .string tx, .slice ka kl kc]) := HC3.out.of_block (hb.block w.heap.size HC3.out.lt)
 clear hb har3
 have hx0 := HC4.out.cell 0
 have hx1 := HC4.out.cell 1
 have hx2 := HC4.out.cell 2
 have hx3 := HC4.out.cell 3
 have hx4 := HC4.out.cell 4
 simp at hx0 hx1 hx2 hx3 hx4
 have hme4 := hme w4 HB4.out
 clear hme
 go_wp2_with fail
 refine hme4.mono ?_
 rintro e w5 ⟨rfl, hb⟩
 have HB5 : Hid (Below w.heap.size w w5) := HB4.out.trans (hb.mono HB4.out.size)
 have HC5 : Hid (IsCells w5 w.heap.size #[.int .i64 tk, .string nm, .slice aa al ac, .string tx, .slice ka kl kc]) := HC4.out.of_block (hb.block w.heap.size HC4.out.lt)
 clear hb hme4 hx0 hx1 hx2 hx3 hx4
 have hfi5 := hfi w5 HB5.out
 clear hfi
 go_wp2_with fail
 refine hfi5.mono ?_
 rintro e w6 ⟨rfl, hb⟩
 have HB6 : Hid (Below w.heap.size w w6) := HB5.out.trans (hb.mono HB5.out.size)
 have HC6 : Hid (IsCells w6 w.heap.size #[.int .i64 tk, .string nm, .slice aa al ac, .string tx, .slice ka kl kc]) := HC5.out.of_block (hb.block w.heap.size HC5.out.lt)
 clear hb hfi5
 have hfe6 := hfe w6 HB6.out
 clear hfe
 go_wp2_with fail
 refine hfe6.mono ?_
 rintro e w7 ⟨fa, fc, rfl, hown, hb⟩
 rw [hFN]
 have HB7 : Hid (Below w.heap.size w w7) := HB6.out.trans (hb.mono HB6.out.size)
 have HC7 : Hid (IsCells w7 w.heap.size #[.int .i64 tk, .string nm, .slice aa al ac, .string tx, .slice ka kl kc]) := HC6.out.of_block (hb.block w.heap.size HC6.out.lt)
 have HB8 : Hid (Below w.heap.size w (w7.alloc (.cells #[.slice fa fn fc] 109))) := HB7.out.alloc HB7.out.size _
 clear hown hb hfe6 hFN
 go_wp2
 go_ret2
 exact insp_same HD.out HB8.out
theorem ins_ok (n : Nat) (w : World) (v : Array Value) (t : T n) (lo hi : Nat) (ro : Nat -> Nat) (db a : Nat) (wh : Int) (D : Dc) (h : TreeAt w lo hi n v t) (hsz : hi <= w.heap.size) (hro : ∀ b, ro b ≠ 0 -> ¬ (lo <= b /\ b < hi)) (hd : PDoc w ro db D) (hw : WF D) (hal : a < 18446744073709551616) (hz : insE D wh a n t = 0) (hpl : isPlaceB wh a = true) (hcz : (chk n t 1 0).2 = 0) (hla : liveB D a = true) (hN4 : ndT n t <= 4096) (hfz : fitsE D (arD D wh a) (htT n t) = 0) :
  Calls Tryz.prog 16 #[.pointer (some ⟨db, 0, none⟩), .int .i64 wh, .int .u64 (a : Int), .agg v] w (InsP w ro db (putD (growD n t (arD D wh a) D).1 (growD n t (arD D wh a) D).2 (arD D wh a) wh a) (growD n t (arD D wh a) D).2 0) := by
 have hv := hd.view
 have hpc := fun W => isPlace_any W wh a
 have HD : Hid (PDoc w ro db D) := hd
 obtain ⟨tk, nm, aa, al, ac, tx, ka, kl, kc, rfl⟩ := h.form
 have HBX : Hid (Below w.heap.size w (w.alloc (.cells #[.int .i64 tk, .string nm, .slice aa al ac, .string tx, .slice ka kl kc] 46))) := below_new' w _
 have HBC : Hid (IsCells (w.alloc (.cells #[.int .i64 tk, .string nm, .slice aa al ac, .string tx, .slice ka kl kc] 46)) w.heap.size #[.int .i64 tk, .string nm, .slice aa al ac, .string tx, .slice ka kl kc]) := isCells_new w _ _
 have hck := fun W (hb : Below w.heap.size w W) => Check_any n W _ t lo hi (h.below hb hsz) (Nat.le_trans hsz hb.size)
 have hlv := fun W (hb : Below w.heap.size w W) => isLive_any W _ db D a (hv.below hb) hw.fits hal
 obtain ⟨o1, o2, o3⟩ := chk_ok n t 1 0 (by omega) (by omega) (by omega) hcz
 have hn1 : 1 <= ndT n t := by
  cases n with
  | zero => cases t
  | succ n => exact ndT_pos n t
 have hn4 : ndT n t <= 4096 := hN4
 obtain ⟨lv, hlv0⟩ := hw.lev
 have hlive := live_of hla
 have hwl : wh = 3 \/ wh = 4 -> ∃ t, sl D a = some t := fun h => by
  refine hlive.resolve_left (fun e => ?_)
  subst e
  rcases h with rfl | rfl <;> simp [isPlaceB] at hpl
 have hpp : arD D wh a = 0 \/ ∃ t, sl D (arD D wh a) = some t := by
  unfold arD
  split
  ·rename_i h
   obtain ⟨t, ht⟩ := hwl h
   have := (dep_par hlv0 ht).2
   simpa [par, ht] using this
  ·exact hlive
 have hal' : arD D wh a < 18446744073709551616 := by
  rcases hpp with e | ⟨t, ht⟩
  ·omega
  ·exact (hw.lt ht).1
 have har := fun W (hb : Below w.heap.size w W) => around_any W _ db D wh a (hv.below hb) hw.fits hal hwl
 have hme := fun W (hb : Below w.heap.size w W) => measure_any n W _ t lo hi (h.below hb hsz) (Nat.le_trans hsz hb.size) o1 hn4 (by omega)
 have hfi := fun W (hb : Below w.heap.size w W) => fits_any W _ db D (arD D wh a) (htT n t) (hv.below hb) hw hpp (by omega) _ rfl
 have hfe := fun W (hb : Below w.heap.size w W) => pfree_any W _ db D (ndT n t) (hv.below hb) hw.fits hn4
 have hmk : ∀ (f : Fn) (first cap : Array Value) (w : World), (Instr.makeFunc f first cap).run Tryz.prog w = .ok (.func f first cap) w := fun _ _ _ _ => rfl
 obtain ⟨e1, e2, e3, e4, e5⟩ := insE_ok hz
 obtain ⟨f1, f2, f3, f4⟩ := place_facts hw e3 e1
 obtain ⟨N, hgn, sn, k1, k2⟩ := ins_grown hw hz
 rw [f3] at f1 f4 hgn k1 k2
 have HPUT := putD_same (wh := wh) (a := a) k1 k2
 have haN : a ∉ N := hgn.notin hlive
 have hpN : arD D wh a ∉ N := hgn.notin hpp
 have hslA : sl (growD n t (arD D wh a) D).1 a = sl D a := hgn.old a haN
 have hlE : lst (growD n t (arD D wh a) D).1 (arD D wh a) = lst D (arD D wh a) := hgn.lst_old hpN
 have harE : arD (growD n t (arD D wh a) D).1 wh a = arD D wh a := by
  show (if wh = 3 \/ wh = 4 then par _ a else a) = (if wh = 3 \/ wh = 4 then par D a else a)
  unfold par
  rw [hslA]
 have hppE : arD D wh a = 0 \/ ∃ s, sl (growD n t (arD D wh a) D).1 (arD D wh a) = some s := hpp.imp id (fun ⟨s, hs⟩ => ⟨s, by rw [hgn.old _ hpN]; exact hs⟩)
 have hwhE : wh = 1 \/ wh = 2 \/ ((wh = 3 \/ wh = 4) /\ a ∈ lst (growD n t (arD D wh a) D).1 (arD D wh a) /\ ∃ s, sl (growD n t (arD D wh a) D).1 a = some s) := by
  rcases f4 with h | h | ⟨h1, h2⟩
  ·exact .inl h
  ·exact .inr (.inl h)
  ·exact .inr (.inr ⟨h1, by rw [hlE]; exact h2, by rw [hslA]; exact hwl h1⟩)
 have hllE : (lst (growD n t (arD D wh a) D).1 (arD D wh a)).length <= 4096 := by rw [hlE]; exact lst_len hw hpp
 have HLK : Hid (∀ W roW, PDoc W roW db (growD n t (arD D wh a) D).1 -> Calls Tryz.prog 71 #[.pointer (some ⟨db, 0, none⟩), .int .u64 ((growD n t (arD D wh a) D).2 : Int), .int .i64 wh, .int .u64 (a : Int)] W (LinkP W roW db (putD (growD n t (arD D wh a) D).1 (growD n t (arD D wh a) D).2 (arD D wh a) wh a))) := fun W roW hW => by
  rw [HPUT]
  exact link_any W roW db _ _ a (arD D wh a) wh hW hgn.sane.fits hal hal' hppE hllE harE hwhE
 have hfl : ((frL D).take (ndT n t)).length = ndT n t := by
  have := frL_len hw.fits
  rw [List.length_take]
  omega
 have HLT : Hid (∀ b, ro b ≠ 0 -> b < w.heap.size) := hv.lt
 have HGA : Hid (∀ W fb fg, Below w.heap.size w W -> FrAt W fb fg ((frL D).take (ndT n t)) -> w.heap.size <= fb -> w.heap.size <= fg -> Calls Tryz.prog 69 #[.pointer (some ⟨db, 0, none⟩), .agg #[.int .i64 tk, .string nm, .slice aa al ac, .string tx, .slice ka kl kc], .int .u64 (arD D wh a : Int), .func (.func 70) #[] #[.pointer (some ⟨fb, 0, none⟩)]] W (GrowP W ro db fb fg (growD n t (arD D wh a) D).1 (growD n t (arD D wh a) D).2 (((frL D).take (ndT n t)).drop (ndT n t)))) := fun W fb fg hb hf h1 h2 => by
  have hz : ∀ b, w.heap.size <= b -> ro b = 0 := fun b hb => by
   by_cases e : ro b = 0
   ·exact e
   ·have := HLT.out b e
    omega
  exact grow_any n W _ t lo hi (arD D wh a) ro db fb fg (ndT n t) D (h.below hb hsz) (Nat.le_trans hsz hb.size) hro (Nat.le_trans hsz h1) (HD.out.turn (A := fun _ => False) ((Turn.refl _ _).then hb (Nat.le_refl _)) (fun _ _ => not_false)) hf (Nat.le_refl _) ⟨hz fb h1, hz fg h2⟩ hw.sane e5 hpp hal' o1
 rw [hpl] at hpc
 rw [hcz] at hck
 rw [hla] at hlv
 rw [hfz] at hfi
 generalize hFL : (frL D).take (ndT n t) = FL at *
 generalize hnd : ndT n t = nd at *
 generalize htT n t = ht at *
 generalize (growD n t (arD D wh a) D).1 = E at *
 generalize (growD n t (arD D wh a) D).2 = H at *
 generalize arD D wh a = p at *
 clear hd hv h hw hcz hla o1 o2 hlv0 hwl hpp hlive hfz hnd hFL hz e1 e2 e3 e4 e5 f1 f2 f3 f4 hgn k1 k2 HPUT haN hpN hslA hlE harE hppE hwhE hllE hro
 go_enter Tryz.func16, Tryz.ntmps16
 go_wp2_with fail
 refine (hpc _).mono ?_
 rintro e w1 ⟨rfl, rfl⟩
 clear hpc
 have hck1 := hck _ HBX.out
 clear hck
 go_wp2_with fail
 refine hck1.mono ?_
 rintro e w2 ⟨rfl, hb⟩
 have HB2 : Hid (Below w.heap.size w w2) := HBX.out.trans (hb.mono HBX.out.size)
 have HC2 : Hid (IsCells w2 w.heap.size #[.int .i64 tk, .string nm, .slice aa al ac, .string tx, .slice ka kl kc]) := HBC.out.of_block (hb.block w.heap.size (by simp))
 clear hb hck1
 have hlv2 := hlv w2 HB2.out
 clear hlv
 go_wp2_with fail
 refine hlv2.mono ?_
 rintro e w3 ⟨rfl, hb⟩
 have HB3 : Hid (Below w.heap.size w w3) := HB2.out.trans (hb.mono HB2.out.size)
 have HC3 : Hid (IsCells w3 w.heap.size #[.int .i64 tk, .string nm, .slice aa al ac, .string tx, .slice ka kl kc]) := HC2.out.of_block (hb.block w.heap.size HC2.out.lt)
 clear hb hlv2
 have har3 := har w3 HB3.out
 clear har
 go_wp2_with fail
 refine har3.mono ?_
 rintro e w4 ⟨rfl, hb⟩
 have HB4 : Hid (Below w.heap.size w w4) := HB3.out.trans (hb.mono HB3.out.size)
 have HC4 : Hid (IsCells w4 w.heap.size #[.int .i64 tk, .string nm, .slice aa al ac, .string tx, .slice ka kl kc]) := HC3.out.of_block (hb.block w.heap.size HC3.out.lt)
 clear hb har3
 have hx0 := HC4.out.cell 0
 have hx1 := HC4.out.cell 1
 have hx2 := HC4.out.cell 2
 have hx3 := HC4.out.cell 3
 have hx4 := HC4.out.cell 4
 simp at hx0 hx1 hx2 hx3 hx4
 have hme4 := hme w4 HB4.out
 clear hme
 go_wp2_with fail
 refine hme4.mono ?_
 rintro e w5 ⟨rfl, hb⟩
 have HB5 : Hid (Below w.heap.size w w5) := HB4.out.trans (hb.mono HB4.out.size)
 have HC5 : Hid (IsCells w5 w.heap.size #[.int .i64 tk, .string nm, .slice aa al ac, .string tx, .slice ka kl kc]) := HC4.out.of_block (hb.block w.heap.size HC4.out.lt)
 clear hb hme4 hx0 hx1 hx2 hx3 hx4
 have hfi5 := hfi w5 HB5.out
 clear hfi
 go_wp2_with fail
 refine hfi5.mono ?_
 rintro e w6 ⟨rfl, hb⟩
 have HB6 : Hid (Below w.heap.size w w6) := HB5.out.trans (hb.mono HB5.out.size)
 have HC6 : Hid (IsCells w6 w.heap.size #[.int .i64 tk, .string nm, .slice aa al ac, .string tx, .slice ka kl kc]) := HC5.out.of_block (hb.block w.heap.size HC5.out.lt)
 clear hb hfi5
 have hfe6 := hfe w6 HB6.out
 clear hfe
 go_wp2_with fail
 refine hfe6.mono ?_
 rintro e w7 ⟨fa, fc, rfl, hown, hb⟩
 have HB7 : Hid (Below w.heap.size w w7) := HB6.out.trans (hb.mono HB6.out.size)
 have HC7 : Hid (IsCells w7 w.heap.size #[.int .i64 tk, .string nm, .slice aa al ac, .string tx, .slice ka kl kc]) := HC6.out.of_block (hb.block w.heap.size HC6.out.lt)
 obtain ⟨fg, hfa, hfg⟩ : ∃ fg, fa = some ⟨fg, 0, none⟩ /\ w6.heap.size <= fg /\ fg < w7.heap.size /\ nd <= fc /\ ∀ (j x : Nat), FL[j]? = some x -> w7.cell? ⟨fg, 0 + j, none⟩ = some (.int .i64 (x : Int)) := by
  obtain ⟨r1, r2, r3⟩ := row_cell hown
  obtain ⟨x0, hx0⟩ : ∃ x, FL[0]? = some x := ⟨_, List.getElem?_eq_getElem (by omega)⟩
  obtain ⟨g0, q1, q2, q3, q4⟩ := r3 0 (.int .i64 (x0 : Int)) (by simp [ivals, hx0])
  refine ⟨g0, q1, q2, q3, by omega, fun j x hx => ?_⟩
  obtain ⟨g1, q1', _, _, q4'⟩ := r3 j (.int .i64 (x : Int)) (by simp [ivals, hx])
  rw [q1] at q1'
  cases q1'
  rw [Nat.zero_add]
  exact q4'
 subst hfa
 rw [hfl]
 have hs67 := hb.size
 have hs6 := HB6.out.size
 have HFA : Hid (FrAt (w7.alloc (.cells #[.slice (some ⟨fg, 0, none⟩) nd fc] 109)) w7.heap.size fg FL) := by
  refine ⟨⟨0, fc, ?_, by rw [hfl]; exact hfg.2.2.1, fun j x hx => ?_⟩, by omega, by simp; omega⟩
  ·rw [hfl]
   exact isCells_new w7 _ 109
  ·exact (World.cell?_of_block (w := w7) (a := ⟨fg, 0 + j, none⟩) (Below.heap_alloc _ _ _ hfg.2.1)).trans (hfg.2.2.2 j x hx)
 have HB8 : Hid (Below w.heap.size w (w7.alloc (.cells #[.slice (some ⟨fg, 0, none⟩) nd fc] 109))) := HB7.out.alloc HB7.out.size _
 have HC8 : Hid (IsCells (w7.alloc (.cells #[.slice (some ⟨fg, 0, none⟩) nd fc] 109)) w.heap.size #[.int .i64 tk, .string nm, .slice aa al ac, .string tx, .slice ka kl kc]) := HC7.out.alloc _
 have hga := HGA.out _ _ _ HB8.out HFA.out (by omega) (by omega)
 have hx0 := HC7.out.cell 0
 have hx1 := HC7.out.cell 1
 have hx2 := HC7.out.cell 2
 have hx3 := HC7.out.cell 3
 have hx4 := HC7.out.cell 4
 simp at hx0 hx1 hx2 hx3 hx4
 have hwl7 : w.heap.size < w7.heap.size := HC7.out.lt
 have hnn : ¬ (nd : Int) < (nd : Int) := by omega
 clear hown hb hfe6 hfg HFA HGA
 go_wp2_with fail
 refine hga.mono ?_
 rintro e w9 ⟨rfl, ro9, hp9⟩
 have hlk := HLK.out w9 ro9 hp9.doc
 have HP9 : Hid (PG (w7.alloc (.cells #[.slice (some ⟨fg, 0, none⟩) nd fc] 109)) ro db w7.heap.size fg E _ w9 ro9) := hp9
 clear hga hp9 HLK hx0 hx1 hx2 hx3 hx4
 go_wp2_with fail
 refine hlk.mono ?_
 rintro e w10 ⟨rfl, ht, ro10, hd10, hf10⟩
 have HFIN : Hid (Turn (fun b => ro b ≠ 0) w w10 /\ ∃ ro', PDoc w10 ro' db (putD E H p wh a) /\ ∀ b, ro' b ≠ 0 -> ro b ≠ 0 \/ w.heap.size <= b) := by
  have h8 := HB8.out
  have h9 := HP9.out
  have hs8 := h8.size
  refine ⟨⟨ht.os.trans (h9.turn.os.trans h8.os), ht.tape.trans (h9.turn.tape.trans h8.tape), ht.output.trans (h9.turn.output.trans h8.output), Nat.le_trans hs8 (Nat.le_trans h9.turn.size ht.size), fun b hb hn => ?_⟩, ro10, hd10, fun b hb => ?_⟩
  ·rw [ht.block b (by have := h9.turn.size; omega) (fun e => ?_), h9.turn.block b (by omega) (fun e => ?_), h8.block b hb]
   ·rcases e with e | e
    ·exact hn e
    ·omega
   ·rcases h9.from' b e with h1 | h1
    ·exact hn h1
    ·omega
  ·rcases hf10 b hb with h1 | h1
   ·rcases h9.from' b h1 with h2 | h2
    ·exact .inl h2
    ·exact .inr (by omega)
   ·exact .inr (by have := h9.turn.size; omega)
 clear ht hd10 hf10 hlk
 go_wp2
 go_ret2
 exact ⟨rfl, HFIN.out⟩
theorem pins_any (n : Nat) (w : World) (v : Array Value) (t : T n) (lo hi : Nat) (ro : Nat -> Nat) (db a : Nat) (wh : Int) (D : Dc) (h : TreeAt w lo hi n v t) (hsz : hi <= w.heap.size) (hro : ∀ b, ro b ≠ 0 -> ¬ (lo <= b /\ b < hi)) (hd : PDoc w ro db D) (hw : WF D) (hal : a < 18446744073709551616) :
  Calls Tryz.prog 16 #[.pointer (some ⟨db, 0, none⟩), .int .i64 wh, .int .u64 (a : Int), .agg v] w (InsP w ro db (insD D wh a n t).1 (insD D wh a n t).2 (insE D wh a n t)) := by
 have hbad : insE D wh a n t ≠ 0 -> insD D wh a n t = (D, 0) := fun h => by unfold insD; rw [if_neg h]
 cases hpl : isPlaceB wh a with
 | false =>
  have e : insE D wh a n t = 1 := by unfold insE; rw [if_pos hpl]
  rw [hbad (by rw [e]; decide), e]
  exact ins_place n w v t lo hi ro db a wh D h hsz hro hd hw hal hpl
 | true =>
  by_cases hcz : (chk n t 1 0).2 = 0
  ·have e := insE_eq hw (a := a) (wh := wh) hpl hcz
   have o := chk_ok n t 1 0 (by omega) (by omega) (by omega) hcz
   have hN4 : ndT n t <= 4096 := by
    have := chk_le n t 1 0 (by omega)
    omega
   cases hla : liveB D a with
   | false =>
    rw [if_pos hla] at e
    rw [hbad (by rw [e]; decide), e]
    exact ins_live n w v t lo hi ro db a wh D h hsz hro hd hw hal hpl hcz hla
   | true =>
    rw [if_neg (by simp [hla])] at e
    by_cases hfz : fitsE D (arD D wh a) (htT n t) = 0
    ·rw [if_neg (by simp [hfz])] at e
     by_cases hmn : 4096 < cnt takenB D.S + ndT n t
     ·rw [if_pos hmn] at e
      rw [hbad (by rw [e]; decide), e]
      exact ins_many n w v t lo hi ro db a wh D h hsz hro hd hw hal hpl hcz hla hN4 hfz hmn
     ·rw [if_neg hmn] at e
      have hz := e
      have f3 := (place_facts hw (insE_ok e).2.2.1 hpl).2.2.1
      have ei : insD D wh a n t = (putD (growD n t (arD D wh a) D).1 (growD n t (arD D wh a) D).2 (arD D wh a) wh a, (growD n t (arD D wh a) D).2) := by
       unfold insD
       rw [if_pos e, f3]
      rw [ei, e]
      exact ins_ok n w v t lo hi ro db a wh D h hsz hro hd hw hal hz hpl hcz hla hN4 hfz
    ·rw [if_pos (by simpa using hfz)] at e
     rw [hbad (by rw [e]; exact hfz), e]
     exact ins_fits n w v t lo hi ro db a wh D h hsz hro hd hw hal hpl hcz hla hN4 hfz
  ·have e : insE D wh a n t = (chk n t 1 0).2 := by unfold insE; rw [if_neg (by simp [hpl]), if_pos hcz]
   rw [hbad (by rw [e]; exact hcz), e]
   exact ins_check n w v t lo hi ro db a wh D h hsz hro hd hw hal hpl hcz
theorem DoP.spoil {w z w4 w5 : World} {ro : Nat -> Nat} {db : Nat} {Q : Nat -> Prop} {rb : Nat} {D : Dc} {e : Ending} (ht : Turn (fun _ => False) w z) (hbo : Bo w ro db Q rb D) (h : DoP z ro db Q rb e w4) {R : Nat -> Prop} (hs : Turn R w4 w5) (hR : ∀ b, R b -> w.heap.size <= b /\ b < z.heap.size) : DoP w ro db Q rb e w5 := by
 obtain ⟨h1, h2, ro', Q', D', hB, h4, h5⟩ := h
 have hz := ht.size
 refine ⟨h1, ?_, ro', Q', D', hB.turn hs (fun b hb hr => ?_) (fun b hb hr => ?_) (fun hr => ?_), fun b hb => (h4 b hb).imp_right (Nat.le_trans hz), fun b hb => (h5 b hb).imp_right (Nat.le_trans hz)⟩
 ·have h3 := (ht.mono (B := fun b => ro b ≠ 0 \/ b = rb) (fun _ _ h => h.elim)).trans h2
  exact ⟨hs.os.trans h3.os, hs.tape.trans h3.tape, hs.output.trans h3.output, Nat.le_trans h3.size hs.size, fun k hk hn => (hs.block k (Nat.lt_of_lt_of_le hk h3.size) (fun hr => by have := (hR k hr).1; omega)).trans (h3.block k hk hn)⟩
 ·have := hR b hr
  rcases h4 b hb with h | h
  ·have := PdocLt hbo.p b h
   omega
  ·omega
 ·have := hR b hr
  rcases h5 b hb with h | h
  ·have := hbo.r.lt b h
   omega
  ·omega
 ·have := hR rb hr
  have := hbo.r.rbl
  omega
theorem does_ins (w : World) (ro : Nat -> Nat) (db : Nat) (Q : Nat -> Prop) (rb : Nat) (D : Dc) (hbo : Bo w ro db Q rb D) (wh : Int) (how : Bool) (n a : Nat) (nm vl : ByteArray) (xk : Int) (xn : ByteArray) (xa : Option Addr) (xal xac : Nat) (xt : ByteArray) (xka : Option Addr) (xkl xkc : Nat) (hn : n < 18446744073709551616) (ha : a < 18446744073709551616)
  (m : Nat) (t : T m) (lo hi : Nat) (htr : TreeAt w lo hi m #[.int .i64 xk, .string xn, .slice xa xal xac, .string xt, .slice xka xkl xkc] t) (hrb : hi <= rb) (hro : ∀ b, ro b ≠ 0 -> hi <= b) :
  Calls Tryz.prog 12 #[.iface 27 (.pointer (some ⟨db, 0, none⟩)), .pointer (some ⟨rb, 0, none⟩), .agg (actv 0 wh how n a nm vl xk xn xa xal xac xt xka xkl xkc)] w (DoP w ro db Q rb) := by
 have hme := meant_any (w.alloc (.cells (actv 0 wh how n a nm vl xk xn xa xal xac xt xka xkl xkc) 48)) _ rb D (hbo.r.view.below (below_new' w _)) hbo.wf 0 wh how n a nm vl xk xn xa xal xac xt xka xkl xkc hn ha
 have HX : Hid (IsCells (w.alloc (.cells (actv 0 wh how n a nm vl xk xn xa xal xac xt xka xkl xkc) 48)) w.heap.size (actv 0 wh how n a nm vl xk xn xa xal xac xt xka xkl xkc)) := isCells_new _ _ _
 have HBO : Hid (Bo w ro db Q rb D) := hbo
 have HTR : Hid (TreeAt w lo hi m #[.int .i64 xk, .string xn, .slice xa xal xac, .string xt, .slice xka xkl xkc] t) := htr
 have HRO : Hid (∀ b, ro b ≠ 0 -> hi <= b) := hro
 have hhi : hi <= w.heap.size := by have := hbo.r.rbl; omega
 clear hbo htr hro
 unfold actv at HX hme ⊢
 go_enter Tryz.func12, Tryz.ntmps12
 go_upto_region 1 with fail
 go_cut [6] (fun p wx => p = .bool false /\ ∃ (how' : Bool) (n' a' : Nat), n' < 18446744073709551616 /\ a' < 18446744073709551616 /\ Hid (Turn (fun _ => False) w wx) /\ Hid (IsCells wx w.heap.size #[.int .i64 0, .int .i64 wh, .bool how', .int .u64 (n' : Int), .int .u64 (a' : Int), .string nm, .string vl, .int .i64 xk, .string xn, .slice xa xal xac, .string xt, .slice xka xkl xkc]))
 case first =>
  go_wp2_with fail
  refine hme.mono ?_
  rintro e w1 ⟨how', n', a', hn', ha', rfl, hb1⟩
  unfold actv
  have HX1 : Hid (IsCells w1 w.heap.size _) := HX.out.of_block (hb1.block _ HX.out.lt)
  have hc := HX1.out.cell
  have hf := HX1.out.frozen
  have hl := HX1.out.lt
  have HT : Hid (Turn (fun _ => False) w w1) := ((Turn.refl _ _).alloc _).then hb1 (by simp)
  clear hme hb1
  go_wp2_with fail
  go_meet
  exact ⟨rfl, how', n', a', hn', ha', turn12n HT.out (Nat.le_refl _) _ _ _ _ _ _ _ _ _ _ _ _, set12 HX1.out _ _ _ _ _ _ _ _ _ _ _ _⟩
 case rest =>
  obtain ⟨rfl, how', n', a', hn', ha', HT, HX1⟩ := hcut
  clear HX hme
  have hs1 := HT.out.size
  have HB1 : Hid (Bo wc ro db Q rb D) := HBO.out.turn HT.out (fun _ _ h => h) (fun _ _ h => h) (fun h => h)
  have hc := HX1.out.cell
  have hl := HX1.out.lt
  have hm : ∀ w : World, (method 286 27 (.pointer (some ⟨db, 0, none⟩)) "Insert").run Tryz.prog w = .ok (16, .pointer (some ⟨db, 0, none⟩)) w := fun _ => by kernel_rfl
  have HTR1 : Hid (TreeAt wc lo hi m #[.int .i64 xk, .string xn, .slice xa xal xac, .string xt, .slice xka xkl xkc] t) := HTR.out.of_cells (fun b o h1 h2 => World.cell?_of_block (w := w) (a := ⟨b, o, none⟩) (HT.out.block b (by omega) (fun h => h)))
  have hcopy := copied_own m wc _ t lo hi HTR1.out (by omega)
  clear HTR
  go_wp2_with fail
  refine hcopy.mono ?_
  rintro e w2 ⟨v, rfl, htv, hb2⟩
  obtain ⟨kk, nk, ak, alk, ack, tk, kak, klk, kck, rfl⟩ := htv.form
  have hs2 := hb2.size
  have HTV : Hid (TreeR w2 (Fw w2 wc.heap.size) m #[.int .i64 kk, .string nk, .slice ak alk ack, .string tk, .slice kak klk kck] t) := htv
  obtain ⟨W2, hW2⟩ : ∃ W2, W2 = w2.alloc (.cells #[.int .i64 kk, .string nk, .slice ak alk ack, .string tk, .slice kak klk kck] 46) := ⟨_, rfl⟩
  have hsW : W2.heap.size = w2.heap.size + 1 := by rw [hW2]; simp
  have hbW : Below w2.heap.size w2 W2 := by rw [hW2]; exact below_new' w2 _
  have HTZ : Hid (Turn (fun _ => False) w W2) := (HT.out.then hb2 hs1).then hbW (by omega)
  have HBW : Hid (Bo W2 ro db Q rb D) := HBO.out.turn HTZ.out (fun _ _ h => h) (fun _ _ h => h) (fun h => h)
  have HBX : Hid (IsCells W2 w2.heap.size #[.int .i64 kk, .string nk, .slice ak alk ack, .string tk, .slice kak klk kck]) := by rw [hW2]; exact isCells_new _ _ _
  have HXW : Hid (IsCells W2 w.heap.size _) := HX1.out.of_block ((hbW.block _ (by omega)).trans (hb2.block _ hl))
  have HNR : Hid (∀ b, ro b ≠ 0 -> b < w.heap.size) := fun b hb => PdocLt HBO.out.p b hb
  have HTVW : Hid (TreeAt W2 wc.heap.size w2.heap.size m #[.int .i64 kk, .string nk, .slice ak alk ack, .string tk, .slice kak klk kck] t) := (TreeR.to (R' := fun b => wc.heap.size <= b /\ b < w2.heap.size) (fun b hb => ⟨hb.1, hb.2.1⟩) (fun b o hb => hbW.cell (p := ⟨b, o, none⟩) hb.2.1) HTV.out).toAt
  have hcp := pins_any m W2 _ t wc.heap.size w2.heap.size ro db a' wh D HTVW.out (by omega) (fun b hb h => by have := HNR.out b hb; omega) HBW.out.p HBW.out.wf ha'
  rw [hW2] at hcp
  have hcx := HXW.out.cell
  rw [hW2] at hcx
  have hc2 : ∀ o, w2.cell? ⟨w.heap.size, o, none⟩ = wc.cell? ⟨w.heap.size, o, none⟩ := fun o => hb2.cell (p := ⟨w.heap.size, o, none⟩) hl
  have HW2 : Hid (W2 = w2.alloc (.cells #[.int .i64 kk, .string nk, .slice ak alk ack, .string tk, .slice kak klk kck] 46)) := hW2
  clear htv hcopy hW2 hcx
  have hl2 : w.heap.size < w2.heap.size := by omega
  go_wp2_with fail
  refine hcp.mono ?_
  rw [<- HW2.out]
  rintro e w3 ⟨rfl, ht3, ro3, hp3, hn3⟩
  have HH3 : Hid (Bh W2 w3 ro db Q rb D (insD D wh a' m t).1 ro3) := HBW.out.half ht3 hp3 hn3
  have hs3 := ht3.size
  have HX3 : Hid (IsCells w3 w.heap.size #[.int .i64 0, .int .i64 wh, .bool how', .int .u64 (n' : Int), .int .u64 (a' : Int), .string nm, .string vl, .int .i64 xk, .string xn, .slice xa xal xac, .string xt, .slice xka xkl xkc]) := HXW.out.of_block (ht3.block _ HXW.out.lt (fun e => by have := HNR.out _ e; omega))
  have HBX3 : Hid (IsCells w3 w2.heap.size #[.int .i64 kk, .string nk, .slice ak alk ack, .string tk, .slice kak klk kck]) := HBX.out.of_block (ht3.block _ HBX.out.lt (fun e => by have := HNR.out _ e; omega))
  have HTR3 : Hid (TreeAt w3 lo hi m #[.int .i64 xk, .string xn, .slice xa xal xac, .string xt, .slice xka xkl xkc] t) := HTR1.out.of_cells (fun b o h1 h2 => World.cell?_of_block (w := wc) (a := ⟨b, o, none⟩) (((ht3.block b (by omega) (fun e => by have := HRO.out _ e; omega)).trans (hbW.block b (by omega))).trans (hb2.block b (by omega))))
  have hcr := rins_any m w3 _ t lo hi Q rb a' wh D HTR3.out (by omega) hrb HH3.out.r HBO.out.wf ha'
  have hc3 := HX3.out.cell
  have hl3 := HX3.out.lt
  have HFR3 : Hid (∀ b, Fw w2 wc.heap.size b -> w3.heap[b]? = w2.heap[b]?) := fun b hb => (ht3.block b (by have := hb.2.1; omega) (fun e => by have := HNR.out _ e; have := hb.1; omega)).trans (hbW.block b hb.2.1)
  clear hc2 hc hcp ht3 hp3 hn3 HW2 HTR1
  go_wp2_with fail
  refine hcr.mono ?_
  rintro e w4 ⟨rfl, ht4, hr4⟩
  have hrl := HBO.out.r.rbl
  have hs4 := ht4.size
  have HBX4 : Hid (IsCells w4 w2.heap.size #[.int .i64 kk, .string nk, .slice ak alk ack, .string tk, .slice kak klk kck]) := HBX3.out.of_block (ht4.block _ HBX3.out.lt (fun e => by omega))
  have HFR4 : Hid (∀ b, Fw w2 wc.heap.size b -> w4.heap[b]? = w2.heap[b]?) := fun b hb => (ht4.block b (by have := hb.2.1; omega) (fun e => by have := hb.1; omega)).trans (HFR3.out b hb)
  have HD4 : Hid (DoP W2 ro db Q rb (.returned (.bool true)) w4) := HH3.out.whole (HBO.out.wf.insD wh a' m t) ht4 hr4
  have hsp := spoilT_any m w4 (Fw w2 wc.heap.size) _ (fun b hb => hb.2.2.of_block (HFR4.out b hb)) (TreeR.weak (TreeR.to (R' := Fw w2 wc.heap.size) (fun b hb => hb) (fun b o hb => World.cell?_of_block (w := w2) (a := ⟨b, o, none⟩) (HFR4.out b hb)) HTV.out))
  have hc4 := HBX4.out.cell
  have hl4 := HBX4.out.lt
  clear hc3 hcr ht4 hr4
  go_wp2_with fail
  refine hsp.mono ?_
  rintro e w5 ⟨rfl, hs5⟩
  have HD5 : Hid (DoP w ro db Q rb (.returned (.bool true)) w5) := HD4.out.spoil HTZ.out HBO.out hs5.turn (fun b hb => ⟨by have := hb.1; omega, by have := hb.2.1; omega⟩)
  clear hs5 hsp
  go_wp2
  go_ret
  exact HD5.out
theorem does_any (w : World) (ro : Nat -> Nat) (db : Nat) (Q : Nat -> Prop) (rb : Nat) (D : Dc) (hbo : Bo w ro db Q rb D) (k wh : Int) (how : Bool) (n a : Nat) (nm vl : ByteArray) (xk : Int) (xn : ByteArray) (xa : Option Addr) (xal xac : Nat) (xt : ByteArray) (xka : Option Addr) (xkl xkc : Nat) (hn : n < 18446744073709551616) (ha : a < 18446744073709551616)
  (m : Nat) (t : T m) (lo hi : Nat) (htr : TreeAt w lo hi m #[.int .i64 xk, .string xn, .slice xa xal xac, .string xt, .slice xka xkl xkc] t) (hrb : hi <= rb) (hro : ∀ b, ro b ≠ 0 -> hi <= b) :
  Calls Tryz.prog 12 #[.iface 27 (.pointer (some ⟨db, 0, none⟩)), .pointer (some ⟨rb, 0, none⟩), .agg (actv k wh how n a nm vl xk xn xa xal xac xt xka xkl xkc)] w (DoP w ro db Q rb) := by
 by_cases h0 : k = 0
 ·subst h0; exact does_ins w ro db Q rb D hbo wh how n a nm vl xk xn xa xal xac xt xka xkl xkc hn ha m t lo hi htr hrb hro
 by_cases h1 : k = 1
 ·subst h1; exact does_mov w ro db Q rb D hbo wh how n a nm vl xk xn xa xal xac xt xka xkl xkc hn ha
 by_cases h2 : k = 2
 ·subst h2; exact does_del w ro db Q rb D hbo wh how n a nm vl xk xn xa xal xac xt xka xkl xkc hn ha
 by_cases h3 : k = 3
 ·subst h3; exact does_name w ro db Q rb D hbo wh how n a nm vl xk xn xa xal xac xt xka xkl xkc hn ha
 by_cases h4 : k = 4
 ·subst h4; exact does_text w ro db Q rb D hbo wh how n a nm vl xk xn xa xal xac xt xka xkl xkc hn ha
 by_cases h5 : k = 5
 ·subst h5; exact does_attr w ro db Q rb D hbo wh how n a nm vl xk xn xa xal xac xt xka xkl xkc hn ha
 by_cases h6 : k = 6
 ·subst h6; exact does_drop w ro db Q rb D hbo wh how n a nm vl xk xn xa xal xac xt xka xkl xkc hn ha
 exact does_none w ro db Q rb D hbo k wh how n a nm vl xk xn xa xal xac xt xka xkl xkc hn ha ⟨h0, h1, h2, h3, h4, h5, h6⟩
def TelP (w : World) (e : Ending) (w' : World) : Prop := e = .returned (.bool true) /\ Below w.heap.size w w'
theorem images_both {w z W : World} {ro : Nat -> Nat} {db : Nat} {Q : Nat -> Prop} {rb : Nat} {D : Dc} (hw : WF D) {sa ra sa' ra' : Option Addr} {sc rc sc' rc' : Nat} {R R' : Nat -> Prop} (h1 : SlotsAt z R sa D.S) (h2 : HandsAt z R ra D.roots) (h3 : SlotsAt z R' sa' D.S) (h4 : HandsAt z R' ra' D.roots) (hR : ∀ b, R b -> b < z.heap.size) (hR' : ∀ b, R' b -> b < z.heap.size) (hb : Below z.heap.size z W) :
  Calls Tryz.prog 26 #[.agg #[.slice sa D.S.length sc, .slice ra D.roots.length rc], .agg #[.slice sa' D.S.length sc', .slice ra' D.roots.length rc']] W fun e w' => e = .returned (.bool true) /\ Below W.heap.size W w' := by
 have hf := hw.fits.len
 have hr := (roots_len hw).1
 refine images_same W R R' D sa sa' ra ra' sc sc' rc rc' (h1.to (fun _ h => h) (fun b o h => hb.cell (p := ⟨b, o, none⟩) (hR b h))) (h3.to (fun _ h => h) (fun b o h => hb.cell (p := ⟨b, o, none⟩) (hR' b h))) (h2.to (fun _ h => h) (fun b o h => hb.cell (p := ⟨b, o, none⟩) (hR b h))) (h4.to (fun _ h => h) (fun b o h => hb.cell (p := ⟨b, o, none⟩) (hR' b h))) (fun b h => Nat.lt_of_lt_of_le (hR b h) hb.size) (fun b h => Nat.lt_of_lt_of_le (hR' b h) hb.size) (by omega) (by omega) (fun s hs => ?_)
 obtain ⟨i, hi⟩ := List.getElem?_of_mem hs
 have := hw.caps hi
 omega
theorem tells_any (w : World) (ro : Nat -> Nat) (db : Nat) (Q : Nat -> Prop) (rb : Nat) (D : Dc) (hbo : Bo w ro db Q rb D) :
  Calls Tryz.prog 14 #[.pointer (some ⟨db, 0, none⟩), .pointer (some ⟨rb, 0, none⟩)] w (TelP w) := by
 have himg := pimage_any w _ db D hbo.p.view hbo.wf
 have HBO : Hid (Bo w ro db Q rb D) := hbo
 clear hbo
 go_enter Tryz.func14, Tryz.ntmps14
 go_wp2_with fail
 refine himg.mono ?_
 rintro e w1 ⟨sa, sc, ra, rc, rfl, hsc, hrc, hsl, hhl, hb1⟩
 obtain ⟨W1, hW1⟩ : ∃ W1, W1 = w1.alloc (.cells #[.slice sa D.S.length sc, .slice ra D.roots.length rc] 25) := ⟨_, rfl⟩
 have hs1 := hb1.size
 have hsW : W1.heap.size = w1.heap.size + 1 := by rw [hW1]; simp
 have hbW : Below w1.heap.size w1 W1 := by rw [hW1]; exact below_new' w1 _
 have HBW : Hid (Below w.heap.size w W1) := hb1.trans (hbW.mono hs1)
 have HSL : Hid (SlotsAt W1 (Fw w1 w.heap.size) sa D.S) := hsl.to (fun _ h => h) (fun b o h => hbW.cell (p := ⟨b, o, none⟩) h.2.1)
 have HHL : Hid (HandsAt W1 (Fw w1 w.heap.size) ra D.roots) := hhl.to (fun _ h => h) (fun b o h => hbW.cell (p := ⟨b, o, none⟩) h.2.1)
 have HFB : Hid (∀ b, Fw w1 w.heap.size b -> Wr W1 b) := fun b h => h.2.2.of_block (hbW.block b h.2.1)
 have HB1 : Hid (Bo W1 ro db Q rb D) := HBO.out.below HBW.out
 have HX : Hid (IsCells W1 w1.heap.size #[.slice sa D.S.length sc, .slice ra D.roots.length rc]) := by rw [hW1]; exact isCells_new _ _ _
 have HW1 : Hid (W1 = _) := hW1
 have hrb := HB1.out.r.rbl
 have hrl := (roots_len HBO.out.wf).1
 have hfl := HBO.out.wf.fits.len
 clear himg hsl hhl hb1 hbW hW1
 obtain ⟨sa2, sc2, ra2, rc2, hd1, hd2, hd3, hd4, hd5⟩ := HB1.out.r.head
 have HS : Hid (∀ u, Below W1.heap.size W1 u -> u.cell? ⟨w1.heap.size, 0, none⟩ = some (.slice sa D.S.length sc) /\ u.cell? ⟨w1.heap.size, 1, none⟩ = some (.slice ra D.roots.length rc) /\ u.cell? ⟨rb, 1, none⟩ = some (.slice ra2 D.roots.length rc2)) := fun u hu =>
  ⟨(hu.cell (p := ⟨w1.heap.size, 0, none⟩) HX.out.lt).trans (HX.out.cell 0), (hu.cell (p := ⟨w1.heap.size, 1, none⟩) HX.out.lt).trans (HX.out.cell 1), (hu.cell (p := ⟨rb, 1, none⟩) hrb).trans (hd1.cell 1)⟩
 have HBd : Hid (Below W1.heap.size W1 W1.drew) := (Below.refl _ _).drew
 have hSd := HS.out _ HBd.out
 obtain ⟨sa3, sc3, ra3, rc3, e1, e2, e3, e4, hc56⟩ := rimage_any W1.drew _ rb D (HB1.out.below HBd.out).r.view
 have hc26 : ∀ u, Below W1.heap.size W1 u -> Calls Tryz.prog 26 #[.agg #[.slice sa D.S.length sc, .slice ra D.roots.length rc], .agg #[.slice sa3 D.S.length sc3, .slice ra3 D.roots.length rc3]] u fun e w' => e = .returned (.bool true) /\ Below u.heap.size u w' := fun u hu =>
  images_both (w := w) (ro := ro) (db := db) (Q := Q) (rb := rb) HBO.out.wf HSL.out HHL.out (e2.to (fun _ h => h) (fun _ _ _ => rfl)) (e4.to (fun _ h => h) (fun _ _ _ => rfl)) (fun b h => by have := h.2.1; omega) (fun b h => (HB1.out.below HBd.out).r.view.lt b h) hu
 have hc57 : ∀ u, Below W1.heap.size W1 u -> Calls Tryz.prog 57 #[.pointer (some ⟨db, 0, none⟩)] u fun e w' => e = .returned (.int .i64 (cnt Sl.live D.S : Int)) /\ w' = u := fun u hu => plen_any u ro db D (HB1.out.below hu).p
 have hc38 : ∀ u, Below W1.heap.size W1 u -> Calls Tryz.prog 38 #[.pointer (some ⟨rb, 0, none⟩)] u fun e w' => e = .returned (.int .i64 (cnt Sl.live D.S : Int)) /\ w' = u := fun u hu => rlen_any' u _ rb D (HB1.out.below hu).r.view HBO.out.wf.fits
 have hc23 : ∀ u, Below W1.heap.size W1 u -> Calls Tryz.prog 23 #[.pointer (some ⟨db, 0, none⟩)] u (FrP u 42 1 D.roots.length (hvals D.roots)) := fun u hu => proots_any u _ db D (HB1.out.below hu).p.view (by omega)
 have hc53 : ∀ u u' a c, Below W1.heap.size W1 u -> Below u.heap.size u u' -> u'.ownsRow u.heap.size 42 1 (.slice a D.roots.length c) D.roots.length (hvals D.roots) -> Calls Tryz.prog 53 #[.slice a D.roots.length c, .slice ra2 D.roots.length rc2] u' fun e w' => e = .returned (.bool true) /\ Below u'.heap.size u' w' := fun u u' a c hu hu' ho =>
  handles_same u' (fun b => (Value.slice a D.roots.length c).ownBlock = some b /\ Fw u' u.heap.size b) Q a ra2 D.roots c rc2 (hands_own ho) (hd5.to (fun _ h => h) (fun b o h => ((hu.trans (hu'.mono hu.size)).cell (p := ⟨b, o, none⟩) (HB1.out.r.lt b h)))) (fun b h => h.2.2.1) (fun b h => by have := HB1.out.r.lt b h; have := hu.size; have := hu'.size; omega) (by omega)
 have tok0 : True := trivial
 have tok1 : True := trivial
 have tok2 : True := trivial
 have tok3 : True := trivial
 have tok4 : True := trivial
 have tok5 : True := trivial
 obtain ⟨hSd0, hSd1, hSd2⟩ := hSd
 go_upto_region 2 with fail
 rw [<- HW1.out]
 go_cut [31] (fun p wx => p = .bool false /\ Hid (Below W1.heap.size W1 wx))
 case first =>
  go_region_held3 (fun W => W.cell? ⟨w1.heap.size, 0, none⟩ = some (.slice sa D.S.length sc) /\ W.cell? ⟨w1.heap.size, 1, none⟩ = some (.slice ra D.roots.length rc) /\ W.cell? ⟨rb, 1, none⟩ = some (.slice ra2 D.roots.length rc2)) (first | exact ⟨hSd0, hSd1, hSd2⟩ | exact hS2 | exact hS3 | exact hS4 | exact hS5 | go_keep)
   (first
    | (go_at_call 56; have _t := tok0; (with_reducible refine hc56.mono ?_); rintro e w2 ⟨rfl, hb2⟩; have HB2 : Hid (Below W1.heap.size W1 w2) := HBd.out.trans (hb2.mono HBd.out.size); have hS2 := HS.out w2 HB2.out; have hd26 := hc26 w2 HB2.out; clear tok0 _t hb2)
    | (go_at_call 26; have _t := tok1; (with_reducible refine hd26.mono ?_); rintro e w3 ⟨rfl, hb3⟩; have HB3 : Hid (Below W1.heap.size W1 w3) := HB2.out.trans (hb3.mono HB2.out.size); have hS3 := HS.out w3 HB3.out; have hd57 := hc57 w3 HB3.out; have hd38 := hc38 w3 HB3.out; have hd23 := hc23 w3 HB3.out; clear tok1 _t hb3)
    | (go_at_call 57; have _t := tok2; (with_reducible refine hd57.mono ?_); rintro e w4 ⟨rfl, rfl⟩; clear tok2 _t)
    | (go_at_call 38; have _t := tok3; (with_reducible refine hd38.mono ?_); rintro e w4 ⟨rfl, rfl⟩; clear tok3 _t)
    | (go_at_call 23; have _t := tok4; (with_reducible refine hd23.mono ?_); rintro e w5 ⟨a5, c5, rfl, ho5, hb5⟩; have HB5 : Hid (Below W1.heap.size W1 w5) := HB3.out.trans (hb5.mono HB3.out.size); have hS4 := HS.out w5 HB5.out; have hd53 := hc53 _ w5 a5 c5 HB3.out hb5 ho5; clear tok4 _t hb5 ho5)
    | (go_at_call 53; have _t := tok5; (with_reducible refine hd53.mono ?_); rintro e w6 ⟨rfl, hb6⟩; have HB6 : Hid (Below W1.heap.size W1 w6) := HB5.out.trans (hb6.mono HB5.out.size); have hS5 := HS.out w6 HB6.out; clear tok5 _t hb6))
  go_wp2_with fail
  go_meet
  exact ⟨rfl, HB6⟩
 case rest =>
  obtain ⟨rfl, HBc⟩ := hcut
  clear hc26 hc57 hc38 hc23 hc53 hc56 tok0 tok1 tok2 tok3 tok4 tok5 hSd0 hSd1 hSd2 e1 e2 e3 e4 hd1 hd2 hd3 hd4 hd5 HBd HW1
  obtain ⟨hSc0, hSc1, -⟩ := HS.out _ HBc.out
  have hcs := HBc.out.size
  have hXl : w1.heap.size < wc.heap.size := by omega
  have HWRc : Hid (∀ b, Fw w1 w.heap.size b -> Wr wc b) := fun b h => (HFB.out b h).of_block (HBc.out.block b (by have := h.2.1; omega))
  have HBoc : Hid (Bo wc ro db Q rb D) := HB1.out.below HBc.out
  have HBwc : Hid (Below w.heap.size w wc) := HBW.out.trans (HBc.out.mono HBW.out.size)
  have hsp := spoilI_any wc (Fw w1 w.heap.size) sa D.S.length sc ra D.roots.length rc HWRc.out (SlotsAt.weak (HSL.out.to (fun _ h => h) (fun b o h => HBc.out.cell (p := ⟨b, o, none⟩) (show b < W1.heap.size by have := h.2.1; omega))) (fun s hs => by
   obtain ⟨i, hi⟩ := List.getElem?_of_mem hs
   have := HBO.out.wf.caps hi
   omega)) (HandsAt.weak (HHL.out.to (fun _ h => h) (fun b o h => HBc.out.cell (p := ⟨b, o, none⟩) (show b < W1.heap.size by have := h.2.1; omega)))) (by omega) (by omega)
  have HAP : Hid (∀ (R : Nat -> Prop) (u u' : World), (∀ b, R b -> w.heap.size <= b) -> Turn R u u' -> Below w.heap.size w u -> Bo u ro db Q rb D -> Below w.heap.size w u' /\ Bo u' ro db Q rb D) := fun R u u' hR ht hb hbo => ⟨hb.trans (ht.below hb.size hR), hbo.turn ht (fun b hb' hr => by have := PdocLt HBO.out.p b hb'; have := hR b hr; omega) (fun b hb' hr => by have := HBO.out.r.lt b hb'; have := hR b hr; omega) (fun hr => by have := HBO.out.r.rbl; have := hR rb hr; omega)⟩
  clear HS HX HBW HSL HHL HFB HB1 HBc
  go_wp2_with fail
  refine hsp.mono ?_
  rintro e w2 ⟨rfl, hs2⟩
  obtain ⟨HB2, HBo2⟩ := HAP.out _ _ _ (fun b h => h.1) hs2.turn HBwc.out HBoc.out
  have HB2 : Hid (Below w.heap.size w w2) := HB2
  have HBo2 : Hid (Bo w2 ro db Q rb D) := HBo2
  have hpf := pforest_any w2 _ db D HBo2.out.p.view HBO.out.wf
  clear hs2 hsp HWRc HBoc HBwc hSc0 hSc1
  go_wp2_with fail
  refine hpf.mono ?_
  rintro e w3 ⟨fa, fc, rfl, hfl, hfo, hb3⟩
  have HB3 : Hid (Below w.heap.size w w3) := HB2.out.trans (hb3.mono HB2.out.size)
  have HBo3 : Hid (Bo w3 ro db Q rb D) := HBo2.out.below hb3
  have HFO : Hid (ForR w3 (Fw w3 w2.heap.size) 64 fa (D.roots.map (subT D 63))) := hfo
  have hs3 := hb3.size
  have hs2 := HB2.out.size
  have hrf := rforest_any w3 _ rb D HBo3.out.r.view HBO.out.wf
  have hLl : (D.roots.map (subT D 63)).length <= 4096 := by rw [List.length_map]; exact hrl
  generalize hL : D.roots.map (subT D 63) = L at *
  clear hpf hb3 hfo
  go_wp2_with fail
  refine hrf.mono ?_
  rintro e w4 ⟨ga, gc, rfl, hgl, hgo, hb4⟩
  have HB4 : Hid (Below w.heap.size w w4) := HB3.out.trans (hb4.mono HB3.out.size)
  have HBo4 : Hid (Bo w4 ro db Q rb D) := HBo3.out.below hb4
  have hs4 := hb4.size
  have HFO4 : Hid (ForR w4 (Fw w3 w2.heap.size) 64 fa L) := ForR.to (w := w3) HFO.out (fun _ h => h) (fun b o h => hb4.cell (p := ⟨b, o, none⟩) h.2.1)
  have HWR4 : Hid (∀ b, Fw w3 w2.heap.size b -> Wr w4 b) := fun b h => h.2.2.of_block (hb4.block b h.2.1)
  have hfs := forests_same 64 (same_any 64) w4 _ _ fa ga L fc gc HFO4.out hgo (fun b h => by have := h.2.1; omega) (fun b h => by
   rcases h with h | h
   ·have := HBo3.out.r.view.lt b h
    omega
   ·exact h.2) (by omega)
  clear hrf hb4 hgo HFO
  go_wp2_with fail
  refine hfs.mono ?_
  rintro e w5 ⟨rfl, hb5⟩
  have HB5 : Hid (Below w.heap.size w w5) := HB4.out.trans (hb5.mono HB4.out.size)
  have HBo5 : Hid (Bo w5 ro db Q rb D) := HBo4.out.below hb5
  have HFO5 : Hid (ForR w5 (Fw w3 w2.heap.size) 64 fa L) := ForR.to (w := w4) HFO4.out (fun _ h => h) (fun b o h => hb5.cell (p := ⟨b, o, none⟩) (show b < w4.heap.size from by have := h.2.1; omega))
  have HWR5 : Hid (∀ b, Fw w3 w2.heap.size b -> Wr w5 b) := fun b h => (HWR4.out b h).of_block (hb5.block b (by have := h.2.1; omega))
  have HKW : Hid (KW w5 (Fw w3 w2.heap.size) 64 fa L.length) := fun i hi => by
   obtain ⟨b, o, u, g1, g2, g3, g4, g5⟩ := HFO5.out i _ (List.getElem?_eq_getElem hi)
   exact ⟨b, o, u, g1, g2, g3, g4, g5.weak⟩
  have HMK : Hid (L.length <= maxK) := (show L.length <= maxK from by unfold maxK; omega)
  clear hfs hb5 HFO4 HFO5 HWR4
  go_wp2
  go_loopw [7] (fun iv wr => ∃ i : Nat, i <= L.length /\ iv = .int .i64 (i : Int) /\ Hid (Sv (Fw w3 w2.heap.size) w5 wr)) (fun iv _ => L.length - (intOf iv).toNat)
  case atStart => exact ⟨0, Nat.zero_le _, rfl, Sv.refl _ _⟩
  case round =>
   obtain ⟨i, hi, rfl, HV⟩ := hrel
   by_cases hlt : i < L.length
   ·have HKr : Hid (KW _ (Fw w3 w2.heap.size) 64 fa L.length) := HV.out.kw HWR5.out HKW.out HMK.out
    obtain ⟨b, o, kk, nm, a', al', ac', tx, ka', kl', kc', e, hb, c0, c1, c2, c3, c4, hwt⟩ := HKr.out.get hlt
    subst e
    have HWr : Hid (∀ b, Fw w3 w2.heap.size b -> Wr _ b) := fun b h => HV.out.wr b h (HWR5.out b h)
    have hbl := (HWr.out b hb).lt
    have hsp := spoilT_any 64 _ (Fw w3 w2.heap.size) _ HWr.out hwt
    clear hwt
    go_wp2_with fail
    refine hsp.mono ?_
    rintro e w6 ⟨rfl, hs6⟩
    have HV6 : Hid (Sv (Fw w3 w2.heap.size) w5 w6) := HV.out.trans hs6
    clear hs6 hsp c0 c1 c2 c3 c4
    go_wp2
    go_roundw
    case rel => exact ⟨i + 1, by omega, by go_num, HV6⟩
    case measure => simp [intOf]; omega
   ·obtain ⟨HB6, HBo6⟩ := HAP.out _ _ _ (fun b h => by have := h.1; omega) HV.out.turn HB5.out HBo5.out
    have HB6 : Hid (Below w.heap.size w _) := HB6
    have HBo6 : Hid (Bo _ ro db Q rb D) := HBo6
    have hie : i = L.length := by omega
    subst hie
    have himg := pimage_any _ _ db D HBo6.out.p.view HBO.out.wf
    clear HKW HV
    go_wp2_with fail
    refine himg.mono ?_
    rintro e w7 ⟨sa7, sc7, ra7, rc7, rfl, -, -, hsl7, hhl7, hb7⟩
    have HB7 : Hid (Below w.heap.size w w7) := HB6.out.trans (hb7.mono HB6.out.size)
    have HBo7 : Hid (Bo w7 ro db Q rb D) := HBo6.out.below hb7
    have H1 : Hid _ := hsl7
    have H2 : Hid _ := hhl7
    obtain ⟨sa8, sc8, ra8, rc8, e1, e2, e3, e4, hc8⟩ := rimage_any w7 _ rb D HBo7.out.r.view
    have hc9 : ∀ u, Below w7.heap.size w7 u -> Calls Tryz.prog 26 #[.agg #[.slice sa7 D.S.length sc7, .slice ra7 D.roots.length rc7], .agg #[.slice sa8 D.S.length sc8, .slice ra8 D.roots.length rc8]] u fun e w' => e = .returned (.bool true) /\ Below u.heap.size u w' := fun u hu =>
     images_both (w := w) (ro := ro) (db := db) (Q := Q) (rb := rb) HBO.out.wf hsl7 hhl7 e2 e4 (fun b h => h.2.1) (fun b h => HBo7.out.r.view.lt b h) hu
    clear hsl7 hhl7 hb7 e1 e2 e3 e4 himg H1 H2
    go_wp2_with fail
    refine hc8.mono ?_
    rintro e w8 ⟨rfl, hb8⟩
    have HB8 : Hid (Below w.heap.size w w8) := HB7.out.trans (hb8.mono HB7.out.size)
    have hc10 := hc9 w8 hb8
    clear hc8 hc9 hb8
    go_wp2_with fail
    refine hc10.mono ?_
    rintro e w9 ⟨rfl, hb9⟩
    have HB9 : Hid (Below w.heap.size w w9) := HB8.out.trans (hb9.mono HB8.out.size)
    clear hc10 hb9
    go_wp2
    go_ret
    exact ⟨rfl, HB9.out⟩
def D0 : Dc := ⟨[], []⟩
theorem sl_D0 (h : Nat) : sl D0 h = none := by
 cases e : sl D0 h with
 | none => rfl
 | some s =>
  obtain ⟨i, -, h2, -⟩ := sl_live e
  simp [D0] at h2
theorem lst_D0 (p : Nat) : lst D0 p = [] := by
 by_cases h : p = 0
 ·subst h; rfl
 ·simp [lst, h, sl_D0]
theorem wf_D0 : WF D0 := by
 refine ⟨⟨by simp [D0], fun i s h => by simp [D0] at h⟩, fun i s h => by simp [D0] at h, fun i s h => by simp [D0] at h, fun i s h => by simp [D0] at h, fun i s h => by simp [D0] at h, ⟨fun _ => 0, fun h s e => (by rw [sl_D0] at e; cases e)⟩, fun h s e => (by rw [sl_D0] at e; cases e), fun p _ h hh => (by rw [lst_D0] at hh; cases hh), fun p => (by rw [lst_D0]; exact List.nodup_nil)⟩
theorem start_bo (w : World) : Bo ((w.alloc (.cells #[.slice none 0 0, .slice none 0 0, .int .i64 0] 36)).alloc (.cells #[.slice none 0 0, .slice none 0 0] 38)) (fun b => if b = w.heap.size then 1 else 0) w.heap.size (fun _ => False) (w.heap.size + 1) D0 := by
 have hx := (isCells_new w #[.slice none 0 0, .slice none 0 0, .int .i64 0] 36).alloc (.cells #[.slice none 0 0, .slice none 0 0] 38)
 have hy := isCells_new (w.alloc (.cells #[.slice none 0 0, .slice none 0 0, .int .i64 0] 36)) #[.slice none 0 0, .slice none 0 0] 38
 rw [show (w.alloc (.cells #[.slice none 0 0, .slice none 0 0, .int .i64 0] 36)).heap.size = w.heap.size + 1 from by simp] at hy
 refine ⟨wf_D0, ⟨none, 0, none, 0, [], ?_⟩, ⟨fun b h => h.elim, fun h => h, none, 0, none, 0, hy, Nat.le_refl _, Nat.le_refl _, fun i s h => by simp [D0] at h, fun i x h => by simp [D0] at h⟩, fun b hb => ⟨fun h => h, fun e => ?_⟩⟩
 ·exact ⟨hx, own_nil _ _ _ _, own_nil _ _ _ _, rfl, fun i s p h => by simp [D0] at h, by simp, fun b h => by simp [Value.ownBlock] at h, fun b h => by simp [Value.ownBlock] at h, fun i p b h => by simp at h, fun i p b h => by simp at h, fun b hb => by
   by_cases e : b = w.heap.size
   ·subst e; simp; omega
   ·simp [e] at hb⟩
 ·subst e
  simp at hb
def ActAt (w : World) (hi b o : Nat) : Prop :=
 ∃ k wh how n a nm vl xk xn xa xal xac xt xka xkl xkc, n < 18446744073709551616 /\ a < 18446744073709551616 /\ (∀ j, j < 12 -> w.cell? ⟨b, o + j, none⟩ = (actv k wh how n a nm vl xk xn xa xal xac xt xka xkl xkc)[j]?) /\
  ∃ (m : Nat) (t : T m), TreeAt w 0 hi m #[.int .i64 xk, .string xn, .slice xa xal xac, .string xt, .slice xka xkl xkc] t
def ActsAt (w : World) (hi : Nat) (a : Option Addr) (n : Nat) : Prop := ∀ i, i < n -> ∃ b o, a = some ⟨b, o, none⟩ /\ b < hi /\ ActAt w hi b (o + i * 12)
theorem ActsAt.below {w w' : World} {hi n : Nat} {a : Option Addr} (h : ActsAt w hi a n) (hb : Below hi w w') : ActsAt w' hi a n := by
 intro i hi'
 obtain ⟨b, o, h1, h2, k, wh, how, n, a, nm, vl, xk, xn, xa, xal, xac, xt, xka, xkl, xkc, g1, g2, g3, m, t, g4⟩ := h i hi'
 exact ⟨b, o, h1, h2, k, wh, how, n, a, nm, vl, xk, xn, xa, xal, xac, xt, xka, xkl, xkc, g1, g2, fun j hj => (hb.cell (p := ⟨b, _, none⟩) h2).trans (g3 j hj), m, t, g4.of_cells (fun b o _ hb' => hb.cell (p := ⟨b, o, none⟩) hb')⟩
structure Pr (w wr : World) (ro : Nat -> Nat) (db : Nat) (Q : Nat -> Prop) (rb : Nat) (D : Dc) : Prop where
 bel : Below w.heap.size w wr
 bo : Bo wr ro db Q rb D
 lo : ∀ b, ro b ≠ 0 -> w.heap.size <= b
 rlo : w.heap.size <= rb
theorem Pr.below {w wr w' : World} {ro : Nat -> Nat} {db : Nat} {Q : Nat -> Prop} {rb : Nat} {D : Dc} (h : Pr w wr ro db Q rb D) (hb : Below wr.heap.size wr w') : Pr w w' ro db Q rb D := ⟨h.bel.trans (hb.mono h.bel.size), h.bo.below hb, h.lo, h.rlo⟩
theorem Pr.step {w wr w' : World} {ro : Nat -> Nat} {db : Nat} {Q : Nat -> Prop} {rb : Nat} {D : Dc} {e : Ending} (h : Pr w wr ro db Q rb D) (hd : DoP wr ro db Q rb e w') : e = .returned (.bool true) /\ ∃ ro' Q' D', Pr w w' ro' db Q' rb D' := by
 obtain ⟨h1, h2, ro', Q', D', h3, h4, h5⟩ := hd
 refine ⟨h1, ro', Q', D', h.bel.trans (h2.below h.bel.size (fun b hb => ?_)), h3, fun b hb => ?_, h.rlo⟩
 ·rcases hb with hb | rfl
  ·exact h.lo b hb
  ·exact h.rlo
 ·rcases h4 b hb with hb | hb
  ·exact h.lo b hb
  ·exact Nat.le_trans h.bel.size hb
structure Ap (ro1 : Nat -> Nat) (Q1 : Nat -> Prop) (rb1 : Nat) (ro2 : Nat -> Nat) (Q2 : Nat -> Prop) (rb2 : Nat) : Prop where
 a1 : ∀ b, ro1 b ≠ 0 -> ro2 b = 0 /\ ¬ Q2 b /\ b ≠ rb2
 a2 : ∀ b, ro2 b ≠ 0 -> ¬ Q1 b /\ b ≠ rb1
 a3 : ¬ Q2 rb1 /\ ¬ Q1 rb2 /\ rb1 ≠ rb2
theorem Ap.symm {ro1 : Nat -> Nat} {Q1 : Nat -> Prop} {rb1 : Nat} {ro2 : Nat -> Nat} {Q2 : Nat -> Prop} {rb2 : Nat} (h : Ap ro1 Q1 rb1 ro2 Q2 rb2) : Ap ro2 Q2 rb2 ro1 Q1 rb1 :=
 ⟨fun b hb => ⟨Decidable.byContradiction fun e => hb (h.a1 b e).1, h.a2 b hb⟩, fun b hb => (h.a1 b hb).2, ⟨h.a3.2.1, h.a3.1, fun e => h.a3.2.2 e.symm⟩⟩
def Two2 (w wr : World) (db1 rb1 db2 rb2 : Nat) : Prop := ∃ ro1 Q1 D1 ro2 Q2 D2, Pr w wr ro1 db1 Q1 rb1 D1 /\ Pr w wr ro2 db2 Q2 rb2 D2 /\ Ap ro1 Q1 rb1 ro2 Q2 rb2
theorem Two2.symm {w wr : World} {db1 rb1 db2 rb2 : Nat} (h : Two2 w wr db1 rb1 db2 rb2) : Two2 w wr db2 rb2 db1 rb1 := by
 obtain ⟨ro1, Q1, D1, ro2, Q2, D2, h1, h2, h3⟩ := h
 exact ⟨ro2, Q2, D2, ro1, Q1, D1, h2, h1, h3.symm⟩
theorem Pr.does {w wr : World} {ro : Nat -> Nat} {db : Nat} {Q : Nat -> Prop} {rb : Nat} {D : Dc} (h : Pr w wr ro db Q rb D) {k wh : Int} {how : Bool} {n a : Nat} {nm vl : ByteArray} {xk : Int} {xn : ByteArray} {xa : Option Addr} {xal xac : Nat} {xt : ByteArray} {xka : Option Addr} {xkl xkc : Nat} (hn : n < 18446744073709551616) (ha : a < 18446744073709551616)
  {m : Nat} {t : T m} (htr : TreeAt wr 0 w.heap.size m #[.int .i64 xk, .string xn, .slice xa xal xac, .string xt, .slice xka xkl xkc] t) :
  Calls Tryz.prog 12 #[.iface 27 (.pointer (some ⟨db, 0, none⟩)), .pointer (some ⟨rb, 0, none⟩), .agg (actv k wh how n a nm vl xk xn xa xal xac xt xka xkl xkc)] wr (DoP wr ro db Q rb) :=
 does_any wr ro db Q rb D h.bo k wh how n a nm vl xk xn xa xal xac xt xka xkl xkc hn ha m t 0 w.heap.size htr h.rlo h.lo
end Go.Proofs.YtnhajpeijkbbeaaGreat
