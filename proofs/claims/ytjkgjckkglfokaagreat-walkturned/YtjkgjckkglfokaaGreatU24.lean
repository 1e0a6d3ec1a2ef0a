/- Insert of the program: too many nodes; a tree put in. -/
import Derived.Test.YtjkgjckkglfokaaGreatU23
import Derived.Test.YtjkgjckkglfokaaGreatU22
import Derived.Test.YtjkgjckkglfokaaGreatU21
import Derived.Test.YtjkgjckkglfokaaGreatRows
import Derived.WalkKit
import Derived.ProofKit
import Derived.OpenShut
import Derived.ChangeOld
import Derived.SizedLaws
import Derived.Deep.Slices
namespace Go.Proofs.YtjkgjckkglfokaaGreat.Gr
open Go.RowKit
set_option linter.unusedVariables false
set_option linter.unusedSimpArgs false
set_option maxRecDepth 100000
set_option maxHeartbeats 2000000
theorem ins_many (n : Nat) (w : World) (v : Array Value) (t : T n) (lo hi : Nat) (ro : Nat -> Nat) (db a : Nat) (wh : Int) (D : Dc) (h : TreeAt w lo hi n v t) (hsz : hi <= w.heap.size) (hro : ∀ b, ro b ≠ 0 -> ¬ (lo <= b /\ b < hi)) (hd : PDoc w ro db D) (hw : WF D) (hal : a < 18446744073709551616) (hpl : isPlaceB wh a = true) (hcz : (chk n t 1 0).2 = 0) (hla : liveB D a = true) (hN4 : ndT n t <= 4096) (hfz : fitsE D (arD D wh a) (htT n t) = 0) (hmn : 4096 < cnt takenB D.S + ndT n t) :
  Calls Tryz.prog 46 #[.pointer (some ⟨db, 0, none⟩), .int .i64 wh, .int .u64 (a : Int), .agg v] w (InsP w ro db D 0 33) := by
 have hv := hd.view
 have hpc := fun W => isPlace_any W wh a
 have HD : Hid (PDoc w ro db D) := hd
 obtain ⟨tk, nm, aa, al, ac, tx, ka, kl, kc, rfl⟩ := h.form
 have HBX : Hid (Below w.heap.size w (w.alloc (.cells #[.int .i64 tk, .string nm, .slice aa al ac, .string tx, .slice ka kl kc] 31))) := below_new' w _
 have HBC : Hid (IsCells (w.alloc (.cells #[.int .i64 tk, .string nm, .slice aa al ac, .string tx, .slice ka kl kc] 31)) w.heap.size #[.int .i64 tk, .string nm, .slice aa al ac, .string tx, .slice ka kl kc]) := isCells_new w _ _
 have hck := fun W (hb : Below w.heap.size w W) => Check_any n W _ t lo hi (h.below hb hsz) (Nat.le_trans hsz hb.size)
 have hlv := fun W (hb : Below w.heap.size w W) => isLive_any W _ db D a (hv.below hb) hw.fits hal
 obtain ⟨o1, o2, o3⟩ := chk_ok n t 1 0 (by omega) (by omega) (by omega) hcz
 have hn1 : 1 <= ndT n t := by
  cases n with
  | zero => cases t
  | succ n => exact ndT_pos n t
 have hn4 : ndT n t <= 4096 := hN4
 obtain ⟨lv, hlv0⟩ := hw.lev
 have hlive := live_of hla
 have hwl : wh = 3 \/ wh = 4 -> ∃ t, sl D a = some t := fun h => by
  refine hlive.resolve_left (fun e => ?_)
  subst e
  rcases h with rfl | rfl <;> simp [isPlaceB] at hpl
 have hpp : arD D wh a = 0 \/ ∃ t, sl D (arD D wh a) = some t := by
  unfold arD
  split
  ·rename_i h
   obtain ⟨t, ht⟩ := hwl h
   have := (dep_par hlv0 ht).2
   simpa [par, ht] using this
  ·exact hlive
 have hal' : arD D wh a < 18446744073709551616 := by
  rcases hpp with e | ⟨t, ht⟩
  ·omega
  ·exact (hw.lt ht).1
 have har := fun W (hb : Below w.heap.size w W) => around_any W _ db D wh a (hv.below hb) hw.fits hal hwl
 have hme := fun W (hb : Below w.heap.size w W) => measure_any n W _ t lo hi (h.below hb hsz) (Nat.le_trans hsz hb.size) o1 hn4 (by omega)
 have hfi := fun W (hb : Below w.heap.size w W) => fits_any W _ db D (arD D wh a) (htT n t) (hv.below hb) hw hpp (by omega) _ rfl
 have hfe := fun W (hb : Below w.heap.size w W) => pfree_any W _ db D (ndT n t) (hv.below hb) hw.fits hn4
 rw [hpl] at hpc
 rw [hcz] at hck
 rw [hla] at hlv
 rw [hfz] at hfi
 have hfl : ((frL D).take (ndT n t)).length < ndT n t := by
  have := frL_len hw.fits
  rw [List.length_take]
  omega
 generalize (frL D).take (ndT n t) = FL at *
 generalize arD D wh a = p at *
 generalize htT n t = ht at *
 generalize ndT n t = nd at *
 generalize hFN : FL.length = fn at *
 have hflb : (fn : Int) < (nd : Int) := by omega
 clear hd hv h hw hcz hla o1 o2 hlv0 hwl hpp hlive hmn hfz
 go_enter Tryz.func46, Tryz.ntmps46
 go_wp2_with fail
 refine (hpc _).mono ?_
 rintro e w1 ⟨rfl, rfl⟩
 clear hpc
 have hck1 := hck _ HBX.out
 clear hck
 go_wp2_with fail
 refine hck1.mono ?_
 rintro e w2 ⟨rfl, hb⟩
 have HB2 : Hid (Below w.heap.size w w2) := HBX.out.trans (hb.mono HBX.out.size)
 have HC2 : Hid (IsCells w2 w.heap.size #[.int .i64 tk, .string nm, .slice aa al ac, .string tx, .slice ka kl kc]) := HBC.out.of_block (hb.block w.heap.size (by simp))
 clear hb hck1
 have hlv2 := hlv w2 HB2.out
 clear hlv
 go_wp2_with fail
 refine hlv2.mono ?_
 rintro e w3 ⟨rfl, hb⟩
 have HB3 : Hid (Below w.heap.size w w3) := HB2.out.trans (hb.mono HB2.out.size)
 have HC3 : Hid (IsCells w3 w.heap.size #[.int .i64 tk, .string nm, .slice aa al ac, .string tx, .slice ka kl kc]) := HC2.out.of_block (hb.block w.heap.size HC2.out.lt)
 clear hb hlv2
 have har3 := har w3 HB3.out
 clear har
 go_wp2_with fail
 refine har3.mono ?_
 rintro e w4 ⟨rfl, hb⟩
 have HB4 : Hid (Below w.heap.size w w4) := HB3.out.trans (hb.mono HB3.out.size)
 have HC4 : Hid (IsCells w4 w.heap.size #[.int .i64 tk, .string nm, .slice aa al ac, .string tx, .slice ka kl kc]) := HC3.out.of_block (hb.block w.heap.size HC3.out.lt)
 clear hb har3
 have hx0 := HC4.out.cell 0
 have hx1 := HC4.out.cell 1
 have hx2 := HC4.out.cell 2
 have hx3 := HC4.out.cell 3
 have hx4 := HC4.out.cell 4
 simp at hx0 hx1 hx2 hx3 hx4
 have hme4 := hme w4 HB4.out
 clear hme
 go_wp2_with fail
 refine hme4.mono ?_
 rintro e w5 ⟨rfl, hb⟩
 have HB5 : Hid (Below w.heap.size w w5) := HB4.out.trans (hb.mono HB4.out.size)
 have HC5 : Hid (IsCells w5 w.heap.size #[.int .i64 tk, .string nm, .slice aa al ac, .string tx, .slice ka kl kc]) := HC4.out.of_block (hb.block w.heap.size HC4.out.lt)
 clear hb hme4 hx0 hx1 hx2 hx3 hx4
 have hfi5 := hfi w5 HB5.out
 clear hfi
 go_wp2_with fail
 refine hfi5.mono ?_
 rintro e w6 ⟨rfl, hb⟩
 have HB6 : Hid (Below w.heap.size w w6) := HB5.out.trans (hb.mono HB5.out.size)
 have HC6 : Hid (IsCells w6 w.heap.size #[.int .i64 tk, .string nm, .slice aa al ac, .string tx, .slice ka kl kc]) := HC5.out.of_block (hb.block w.heap.size HC5.out.lt)
 clear hb hfi5
 have hfe6 := hfe w6 HB6.out
 clear hfe
 go_wp2_with fail
 refine hfe6.mono ?_
 rintro e w7 ⟨fa, fc, rfl, hown, hb⟩
 rw [hFN]
 have HB7 : Hid (Below w.heap.size w w7) := HB6.out.trans (hb.mono HB6.out.size)
 have HC7 : Hid (IsCells w7 w.heap.size #[.int .i64 tk, .string nm, .slice aa al ac, .string tx, .slice ka kl kc]) := HC6.out.of_block (hb.block w.heap.size HC6.out.lt)
 have HB8 : Hid (Below w.heap.size w (w7.alloc (.cells #[.slice fa fn fc] 54))) := HB7.out.alloc HB7.out.size _
 clear hown hb hfe6 hFN
 go_wp2
 go_ret2
 exact insp_same HD.out HB8.out
theorem ins_ok (n : Nat) (w : World) (v : Array Value) (t : T n) (lo hi : Nat) (ro : Nat -> Nat) (db a : Nat) (wh : Int) (D : Dc) (h : TreeAt w lo hi n v t) (hsz : hi <= w.heap.size) (hro : ∀ b, ro b ≠ 0 -> ¬ (lo <= b /\ b < hi)) (hd : PDoc w ro db D) (hw : WF D) (hal : a < 18446744073709551616) (hz : insE D wh a n t = 0) (hpl : isPlaceB wh a = true) (hcz : (chk n t 1 0).2 = 0) (hla : liveB D a = true) (hN4 : ndT n t <= 4096) (hfz : fitsE D (arD D wh a) (htT n t) = 0) :
  Calls Tryz.prog 46 #[.pointer (some ⟨db, 0, none⟩), .int .i64 wh, .int .u64 (a : Int), .agg v] w (InsP w ro db (putD (growD n t (arD D wh a) D).1 (growD n t (arD D wh a) D).2 (arD D wh a) wh a) (growD n t (arD D wh a) D).2 0) := by
 have hv := hd.view
 have hpc := fun W => isPlace_any W wh a
 have HD : Hid (PDoc w ro db D) := hd
 obtain ⟨tk, nm, aa, al, ac, tx, ka, kl, kc, rfl⟩ := h.form
 have HBX : Hid (Below w.heap.size w (w.alloc (.cells #[.int .i64 tk, .string nm, .slice aa al ac, .string tx, .slice ka kl kc] 31))) := below_new' w _
 have HBC : Hid (IsCells (w.alloc (.cells #[.int .i64 tk, .string nm, .slice aa al ac, .string tx, .slice ka kl kc] 31)) w.heap.size #[.int .i64 tk, .string nm, .slice aa al ac, .string tx, .slice ka kl kc]) := isCells_new w _ _
 have hck := fun W (hb : Below w.heap.size w W) => Check_any n W _ t lo hi (h.below hb hsz) (Nat.le_trans hsz hb.size)
 have hlv := fun W (hb : Below w.heap.size w W) => isLive_any W _ db D a (hv.below hb) hw.fits hal
 obtain ⟨o1, o2, o3⟩ := chk_ok n t 1 0 (by omega) (by omega) (by omega) hcz
 have hn1 : 1 <= ndT n t := by
  cases n with
  | zero => cases t
  | succ n => exact ndT_pos n t
 have hn4 : ndT n t <= 4096 := hN4
 obtain ⟨lv, hlv0⟩ := hw.lev
 have hlive := live_of hla
 have hwl : wh = 3 \/ wh = 4 -> ∃ t, sl D a = some t := fun h => by
  refine hlive.resolve_left (fun e => ?_)
  subst e
  rcases h with rfl | rfl <;> simp [isPlaceB] at hpl
 have hpp : arD D wh a = 0 \/ ∃ t, sl D (arD D wh a) = some t := by
  unfold arD
  split
  ·rename_i h
   obtain ⟨t, ht⟩ := hwl h
   have := (dep_par hlv0 ht).2
   simpa [par, ht] using this
  ·exact hlive
 have hal' : arD D wh a < 18446744073709551616 := by
  rcases hpp with e | ⟨t, ht⟩
  ·omega
  ·exact (hw.lt ht).1
 have har := fun W (hb : Below w.heap.size w W) => around_any W _ db D wh a (hv.below hb) hw.fits hal hwl
 have hme := fun W (hb : Below w.heap.size w W) => measure_any n W _ t lo hi (h.below hb hsz) (Nat.le_trans hsz hb.size) o1 hn4 (by omega)
 have hfi := fun W (hb : Below w.heap.size w W) => fits_any W _ db D (arD D wh a) (htT n t) (hv.below hb) hw hpp (by omega) _ rfl
 have hfe := fun W (hb : Below w.heap.size w W) => pfree_any W _ db D (ndT n t) (hv.below hb) hw.fits hn4
 have hmk : ∀ (f : Fn) (first cap : Array Value) (w : World), (Instr.makeFunc f first cap).run Tryz.prog w = .ok (.func f first cap) w := fun _ _ _ _ => rfl
 obtain ⟨e1, e2, e3, e4, e5⟩ := insE_ok hz
 obtain ⟨f1, f2, f3, f4⟩ := place_facts hw e3 e1
 obtain ⟨N, hgn, sn, k1, k2⟩ := ins_grown hw hz
 rw [f3] at f1 f4 hgn k1 k2
 have HPUT := putD_same (wh := wh) (a := a) k1 k2
 have haN : a ∉ N := hgn.notin hlive
 have hpN : arD D wh a ∉ N := hgn.notin hpp
 have hslA : sl (growD n t (arD D wh a) D).1 a = sl D a := hgn.old a haN
 have hlE : lst (growD n t (arD D wh a) D).1 (arD D wh a) = lst D (arD D wh a) := hgn.lst_old hpN
 have harE : arD (growD n t (arD D wh a) D).1 wh a = arD D wh a := by
  show (if wh = 3 \/ wh = 4 then par _ a else a) = (if wh = 3 \/ wh = 4 then par D a else a)
  unfold par
  rw [hslA]
 have hppE : arD D wh a = 0 \/ ∃ s, sl (growD n t (arD D wh a) D).1 (arD D wh a) = some s := hpp.imp id (fun ⟨s, hs⟩ => ⟨s, by rw [hgn.old _ hpN]; exact hs⟩)
 have hwhE : wh = 1 \/ wh = 2 \/ ((wh = 3 \/ wh = 4) /\ a ∈ lst (growD n t (arD D wh a) D).1 (arD D wh a) /\ ∃ s, sl (growD n t (arD D wh a) D).1 a = some s) := by
  rcases f4 with h | h | ⟨h1, h2⟩
  ·exact .inl h
  ·exact .inr (.inl h)
  ·exact .inr (.inr ⟨h1, by rw [hlE]; exact h2, by rw [hslA]; exact hwl h1⟩)
 have hllE : (lst (growD n t (arD D wh a) D).1 (arD D wh a)).length <= 4096 := by rw [hlE]; exact lst_len hw hpp
 have HLK : Hid (∀ W roW, PDoc W roW db (growD n t (arD D wh a) D).1 -> Calls Tryz.prog 92 #[.pointer (some ⟨db, 0, none⟩), .int .u64 ((growD n t (arD D wh a) D).2 : Int), .int .i64 wh, .int .u64 (a : Int)] W (LinkP W roW db (putD (growD n t (arD D wh a) D).1 (growD n t (arD D wh a) D).2 (arD D wh a) wh a))) := fun W roW hW => by
  rw [HPUT]
  exact link_any W roW db _ _ a (arD D wh a) wh hW hgn.sane.fits hal hal' hppE hllE harE hwhE
 have hfl : ((frL D).take (ndT n t)).length = ndT n t := by
  have := frL_len hw.fits
  rw [List.length_take]
  omega
 have HLT : Hid (∀ b, ro b ≠ 0 -> b < w.heap.size) := hv.lt
 have HGA : Hid (∀ W fb fg, Below w.heap.size w W -> FrAt W fb fg ((frL D).take (ndT n t)) -> w.heap.size <= fb -> w.heap.size <= fg -> Calls Tryz.prog 90 #[.pointer (some ⟨db, 0, none⟩), .agg #[.int .i64 tk, .string nm, .slice aa al ac, .string tx, .slice ka kl kc], .int .u64 (arD D wh a : Int), .func (.func 91) #[] #[.pointer (some ⟨fb, 0, none⟩)]] W (GrowP W ro db fb fg (growD n t (arD D wh a) D).1 (growD n t (arD D wh a) D).2 (((frL D).take (ndT n t)).drop (ndT n t)))) := fun W fb fg hb hf h1 h2 => by
  have hz : ∀ b, w.heap.size <= b -> ro b = 0 := fun b hb => by
   by_cases e : ro b = 0
   ·exact e
   ·have := HLT.out b e
    omega
  exact grow_any n W _ t lo hi (arD D wh a) ro db fb fg (ndT n t) D (h.below hb hsz) (Nat.le_trans hsz hb.size) hro (Nat.le_trans hsz h1) (HD.out.turn (A := fun _ => False) ((Turn.refl _ _).then hb (Nat.le_refl _)) (fun _ _ => not_false)) hf (Nat.le_refl _) ⟨hz fb h1, hz fg h2⟩ hw.sane e5 hpp hal' o1
 rw [hpl] at hpc
 rw [hcz] at hck
 rw [hla] at hlv
 rw [hfz] at hfi
 generalize hFL : (frL D).take (ndT n t) = FL at *
 generalize hnd : ndT n t = nd at *
 generalize htT n t = ht at *
 generalize (growD n t (arD D wh a) D).1 = E at *
 generalize (growD n t (arD D wh a) D).2 = H at *
 generalize arD D wh a = p at *
 clear hd hv h hw hcz hla o1 o2 hlv0 hwl hpp hlive hfz hnd hFL hz e1 e2 e3 e4 e5 f1 f2 f3 f4 hgn k1 k2 HPUT haN hpN hslA hlE harE hppE hwhE hllE hro
 go_enter Tryz.func46, Tryz.ntmps46
 go_wp2_with fail
 refine (hpc _).mono ?_
 rintro e w1 ⟨rfl, rfl⟩
 clear hpc
 have hck1 := hck _ HBX.out
 clear hck
 go_wp2_with fail
 refine hck1.mono ?_
 rintro e w2 ⟨rfl, hb⟩
 have HB2 : Hid (Below w.heap.size w w2) := HBX.out.trans (hb.mono HBX.out.size)
 have HC2 : Hid (IsCells w2 w.heap.size #[.int .i64 tk, .string nm, .slice aa al ac, .string tx, .slice ka kl kc]) := HBC.out.of_block (hb.block w.heap.size (by simp))
 clear hb hck1
 have hlv2 := hlv w2 HB2.out
 clear hlv
 go_wp2_with fail
 refine hlv2.mono ?_
 rintro e w3 ⟨rfl, hb⟩
 have HB3 : Hid (Below w.heap.size w w3) := HB2.out.trans (hb.mono HB2.out.size)
 have HC3 : Hid (IsCells w3 w.heap.size #[.int .i64 tk, .string nm, .slice aa al ac, .string tx, .slice ka kl kc]) := HC2.out.of_block (hb.block w.heap.size HC2.out.lt)
 clear hb hlv2
 have har3 := har w3 HB3.out
 clear har
 go_wp2_with fail
 refine har3.mono ?_
 rintro e w4 ⟨rfl, hb⟩
 have HB4 : Hid (Below w.heap.size w w4) := HB3.out.trans (hb.mono HB3.out.size)
 have HC4 : Hid (IsCells w4 w.heap.size #[.int .i64 tk, .string nm, .slice aa al ac, .string tx, .slice ka kl kc]) := HC3.out.of_block (hb.block w.heap.size HC3.out.lt)
 clear hb har3
 have hx0 := HC4.out.cell 0
 have hx1 := HC4.out.cell 1
 have hx2 := HC4.out.cell 2
 have hx3 := HC4.out.cell 3
 have hx4 := HC4.out.cell 4
 simp at hx0 hx1 hx2 hx3 hx4
 have hme4 := hme w4 HB4.out
 clear hme
 go_wp2_with fail
 refine hme4.mono ?_
 rintro e w5 ⟨rfl, hb⟩
 have HB5 : Hid (Below w.heap.size w w5) := HB4.out.trans (hb.mono HB4.out.size)
 have HC5 : Hid (IsCells w5 w.heap.size #[.int .i64 tk, .string nm, .slice aa al ac, .string tx, .slice ka kl kc]) := HC4.out.of_block (hb.block w.heap.size HC4.out.lt)
 clear hb hme4 hx0 hx1 hx2 hx3 hx4
 have hfi5 := hfi w5 HB5.out
 clear hfi
 go_wp2_with fail
 refine hfi5.mono ?_
 rintro e w6 ⟨rfl, hb⟩
 have HB6 : Hid (Below w.heap.size w w6) := HB5.out.trans (hb.mono HB5.out.size)
 have HC6 : Hid (IsCells w6 w.heap.size #[.int .i64 tk, .string nm, .slice aa al ac, .string tx, .slice ka kl kc]) := HC5.out.of_block (hb.block w.heap.size HC5.out.lt)
 clear hb hfi5
 have hfe6 := hfe w6 HB6.out
 clear hfe
 go_wp2_with fail
 refine hfe6.mono ?_
 rintro e w7 ⟨fa, fc, rfl, hown, hb⟩
 have HB7 : Hid (Below w.heap.size w w7) := HB6.out.trans (hb.mono HB6.out.size)
 have HC7 : Hid (IsCells w7 w.heap.size #[.int .i64 tk, .string nm, .slice aa al ac, .string tx, .slice ka kl kc]) := HC6.out.of_block (hb.block w.heap.size HC6.out.lt)
 obtain ⟨fg, hfa, hfg⟩ : ∃ fg, fa = some ⟨fg, 0, none⟩ /\ w6.heap.size <= fg /\ fg < w7.heap.size /\ nd <= fc /\ ∀ (j x : Nat), FL[j]? = some x -> w7.cell? ⟨fg, 0 + j, none⟩ = some (.int .i64 (x : Int)) := by
  obtain ⟨r1, r2, r3⟩ := row_cell hown
  obtain ⟨x0, hx0⟩ : ∃ x, FL[0]? = some x := ⟨_, List.getElem?_eq_getElem (by omega)⟩
  obtain ⟨g0, q1, q2, q3, q4⟩ := r3 0 (.int .i64 (x0 : Int)) (by simp [ivals, hx0])
  refine ⟨g0, q1, q2, q3, by omega, fun j x hx => ?_⟩
  obtain ⟨g1, q1', _, _, q4'⟩ := r3 j (.int .i64 (x : Int)) (by simp [ivals, hx])
  rw [q1] at q1'
  cases q1'
  rw [Nat.zero_add]
  exact q4'
 subst hfa
 rw [hfl]
 have hs67 := hb.size
 have hs6 := HB6.out.size
 have HFA : Hid (FrAt (w7.alloc (.cells #[.slice (some ⟨fg, 0, none⟩) nd fc] 54)) w7.heap.size fg FL) := by
  refine ⟨⟨0, fc, ?_, by rw [hfl]; exact hfg.2.2.1, fun j x hx => ?_⟩, by omega, by simp; omega⟩
  ·rw [hfl]
   exact isCells_new w7 _ 54
  ·exact (World.cell?_of_block (w := w7) (a := ⟨fg, 0 + j, none⟩) (Below.heap_alloc _ _ _ hfg.2.1)).trans (hfg.2.2.2 j x hx)
 have HB8 : Hid (Below w.heap.size w (w7.alloc (.cells #[.slice (some ⟨fg, 0, none⟩) nd fc] 54))) := HB7.out.alloc HB7.out.size _
 have HC8 : Hid (IsCells (w7.alloc (.cells #[.slice (some ⟨fg, 0, none⟩) nd fc] 54)) w.heap.size #[.int .i64 tk, .string nm, .slice aa al ac, .string tx, .slice ka kl kc]) := HC7.out.alloc _
 have hga := HGA.out _ _ _ HB8.out HFA.out (by omega) (by omega)
 have hx0 := HC7.out.cell 0
 have hx1 := HC7.out.cell 1
 have hx2 := HC7.out.cell 2
 have hx3 := HC7.out.cell 3
 have hx4 := HC7.out.cell 4
 simp at hx0 hx1 hx2 hx3 hx4
 have hwl7 : w.heap.size < w7.heap.size := HC7.out.lt
 have hnn : ¬ (nd : Int) < (nd : Int) := by omega
 clear hown hb hfe6 hfg HFA HGA
 go_wp2_with fail
 refine hga.mono ?_
 rintro e w9 ⟨rfl, ro9, hp9⟩
 have hlk := HLK.out w9 ro9 hp9.doc
 have HP9 : Hid (PG (w7.alloc (.cells #[.slice (some ⟨fg, 0, none⟩) nd fc] 54)) ro db w7.heap.size fg E _ w9 ro9) := hp9
 clear hga hp9 HLK hx0 hx1 hx2 hx3 hx4
 go_wp2_with fail
 refine hlk.mono ?_
 rintro e w10 ⟨rfl, ht, ro10, hd10, hf10⟩
 have HFIN : Hid (Turn (fun b => ro b ≠ 0) w w10 /\ ∃ ro', PDoc w10 ro' db (putD E H p wh a) /\ ∀ b, ro' b ≠ 0 -> ro b ≠ 0 \/ w.heap.size <= b) := by
  have h8 := HB8.out
  have h9 := HP9.out
  have hs8 := h8.size
  refine ⟨⟨ht.os.trans (h9.turn.os.trans h8.os), ht.tape.trans (h9.turn.tape.trans h8.tape), ht.output.trans (h9.turn.output.trans h8.output), Nat.le_trans hs8 (Nat.le_trans h9.turn.size ht.size), fun b hb hn => ?_⟩, ro10, hd10, fun b hb => ?_⟩
  ·rw [ht.block b (by have := h9.turn.size; omega) (fun e => ?_), h9.turn.block b (by omega) (fun e => ?_), h8.block b hb]
   ·rcases e with e | e
    ·exact hn e
    ·omega
   ·rcases h9.from' b e with h1 | h1
    ·exact hn h1
    ·omega
  ·rcases hf10 b hb with h1 | h1
   ·rcases h9.from' b h1 with h2 | h2
    ·exact .inl h2
    ·exact .inr (by omega)
   ·exact .inr (by have := h9.turn.size; omega)
 clear ht hd10 hf10 hlk
 go_wp2
 go_ret2
 exact ⟨rfl, HFIN.out⟩
theorem pins_any (n : Nat) (w : World) (v : Array Value) (t : T n) (lo hi : Nat) (ro : Nat -> Nat) (db a : Nat) (wh : Int) (D : Dc) (h : TreeAt w lo hi n v t) (hsz : hi <= w.heap.size) (hro : ∀ b, ro b ≠ 0 -> ¬ (lo <= b /\ b < hi)) (hd : PDoc w ro db D) (hw : WF D) (hal : a < 18446744073709551616) :
  Calls Tryz.prog 46 #[.pointer (some ⟨db, 0, none⟩), .int .i64 wh, .int .u64 (a : Int), .agg v] w (InsP w ro db (insD D wh a n t).1 (insD D wh a n t).2 (insE D wh a n t)) := by
 have hbad : insE D wh a n t ≠ 0 -> insD D wh a n t = (D, 0) := fun h => by unfold insD; rw [if_neg h]
 cases hpl : isPlaceB wh a with
 | false =>
  have e : insE D wh a n t = 1 := by unfold insE; rw [if_pos hpl]
  rw [hbad (by rw [e]; decide), e]
  exact ins_place n w v t lo hi ro db a wh D h hsz hro hd hw hal hpl
 | true =>
  by_cases hcz : (chk n t 1 0).2 = 0
  ·have e := insE_eq hw (a := a) (wh := wh) hpl hcz
   have o := chk_ok n t 1 0 (by omega) (by omega) (by omega) hcz
   have hN4 : ndT n t <= 4096 := by
    have := chk_le n t 1 0 (by omega)
    omega
   cases hla : liveB D a with
   | false =>
    rw [if_pos hla] at e
    rw [hbad (by rw [e]; decide), e]
    exact ins_live n w v t lo hi ro db a wh D h hsz hro hd hw hal hpl hcz hla
   | true =>
    rw [if_neg (by simp [hla])] at e
    by_cases hfz : fitsE D (arD D wh a) (htT n t) = 0
    ·rw [if_neg (by simp [hfz])] at e
     by_cases hmn : 4096 < cnt takenB D.S + ndT n t
     ·rw [if_pos hmn] at e
      rw [hbad (by rw [e]; decide), e]
      exact ins_many n w v t lo hi ro db a wh D h hsz hro hd hw hal hpl hcz hla hN4 hfz hmn
     ·rw [if_neg hmn] at e
      have hz := e
      have f3 := (place_facts hw (insE_ok e).2.2.1 hpl).2.2.1
      have ei : insD D wh a n t = (putD (growD n t (arD D wh a) D).1 (growD n t (arD D wh a) D).2 (arD D wh a) wh a, (growD n t (arD D wh a) D).2) := by
       unfold insD
       rw [if_pos e, f3]
      rw [ei, e]
      exact ins_ok n w v t lo hi ro db a wh D h hsz hro hd hw hal hz hpl hcz hla hN4 hfz
    ·rw [if_pos (by simpa using hfz)] at e
     rw [hbad (by rw [e]; exact hfz), e]
     exact ins_fits n w v t lo hi ro db a wh D h hsz hro hd hw hal hpl hcz hla hN4 hfz
  ·have e : insE D wh a n t = (chk n t 1 0).2 := by unfold insE; rw [if_neg (by simp [hpl]), if_pos hcz]
   rw [hbad (by rw [e]; exact hcz), e]
   exact ins_check n w v t lo hi ro db a wh D h hsz hro hd hw hal hpl hcz
end Go.Proofs.YtjkgjckkglfokaaGreat.Gr
/- Does: Insert. -/
namespace Go.Proofs.YtjkgjckkglfokaaGreat.Gr
open Go.RowKit
set_option linter.unusedVariables false
set_option linter.unusedSimpArgs false
set_option maxRecDepth 100000
set_option maxHeartbeats 4000000
theorem DoP.spoil {w z w4 w5 : World} {ro : Nat -> Nat} {db : Nat} {Q : Nat -> Prop} {rb : Nat} {D : Dc} {e : Ending} (ht : Turn (fun _ => False) w z) (hbo : Bo w ro db Q rb D) (h : DoP z ro db Q rb e w4) {R : Nat -> Prop} (hs : Turn R w4 w5) (hR : ∀ b, R b -> w.heap.size <= b /\ b < z.heap.size) : DoP w ro db Q rb e w5 := by
 obtain ⟨h1, h2, ro', Q', D', hB, h4, h5⟩ := h
 have hz := ht.size
 refine ⟨h1, ?_, ro', Q', D', hB.turn hs (fun b hb hr => ?_) (fun b hb hr => ?_) (fun hr => ?_), fun b hb => (h4 b hb).imp_right (Nat.le_trans hz), fun b hb => (h5 b hb).imp_right (Nat.le_trans hz)⟩
 ·have h3 := (ht.mono (B := fun b => ro b ≠ 0 \/ b = rb) (fun _ _ h => h.elim)).trans h2
  exact ⟨hs.os.trans h3.os, hs.tape.trans h3.tape, hs.output.trans h3.output, Nat.le_trans h3.size hs.size, fun k hk hn => (hs.block k (Nat.lt_of_lt_of_le hk h3.size) (fun hr => by have := (hR k hr).1; omega)).trans (h3.block k hk hn)⟩
 ·have := hR b hr
  rcases h4 b hb with h | h
  ·have := PdocLt hbo.p b h
   omega
  ·omega
 ·have := hR b hr
  rcases h5 b hb with h | h
  ·have := hbo.r.lt b h
   omega
  ·omega
 ·have := hR rb hr
  have := hbo.r.rbl
  omega
theorem does_ins (w : World) (ro : Nat -> Nat) (db : Nat) (Q : Nat -> Prop) (rb : Nat) (D : Dc) (hbo : Bo w ro db Q rb D) (wh : Int) (how : Bool) (n a : Nat) (nm vl : ByteArray) (xk : Int) (xn : ByteArray) (xa : Option Addr) (xal xac : Nat) (xt : ByteArray) (xka : Option Addr) (xkl xkc : Nat) (hn : n < 18446744073709551616) (ha : a < 18446744073709551616)
  (m : Nat) (t : T m) (lo hi : Nat) (htr : TreeAt w lo hi m #[.int .i64 xk, .string xn, .slice xa xal xac, .string xt, .slice xka xkl xkc] t) (hrb : hi <= rb) (hro : ∀ b, ro b ≠ 0 -> hi <= b) :
  Calls Tryz.prog 15 #[.iface 34 (.pointer (some ⟨db, 0, none⟩)), .pointer (some ⟨rb, 0, none⟩), .agg (actv 0 wh how n a nm vl xk xn xa xal xac xt xka xkl xkc)] w (DoP w ro db Q rb) := by
 have hme := meant_any (w.alloc (.cells (actv 0 wh how n a nm vl xk xn xa xal xac xt xka xkl xkc) 33)) _ rb D (hbo.r.view.below (below_new' w _)) hbo.wf 0 wh how n a nm vl xk xn xa xal xac xt xka xkl xkc hn ha
 have HX : Hid (IsCells (w.alloc (.cells (actv 0 wh how n a nm vl xk xn xa xal xac xt xka xkl xkc) 33)) w.heap.size (actv 0 wh how n a nm vl xk xn xa xal xac xt xka xkl xkc)) := isCells_new _ _ _
 have HBO : Hid (Bo w ro db Q rb D) := hbo
 have HTR : Hid (TreeAt w lo hi m #[.int .i64 xk, .string xn, .slice xa xal xac, .string xt, .slice xka xkl xkc] t) := htr
 have HRO : Hid (∀ b, ro b ≠ 0 -> hi <= b) := hro
 have hhi : hi <= w.heap.size := by have := hbo.r.rbl; omega
 clear hbo htr hro
 unfold actv at HX hme ⊢
 go_enter Tryz.func15, Tryz.ntmps15
 go_upto_region 1 with fail
 go_cut [6] (fun p wx => p = .bool false /\ ∃ (how' : Bool) (n' a' : Nat), n' < 18446744073709551616 /\ a' < 18446744073709551616 /\ Hid (Turn (fun _ => False) w wx) /\ Hid (IsCells wx w.heap.size #[.int .i64 0, .int .i64 wh, .bool how', .int .u64 (n' : Int), .int .u64 (a' : Int), .string nm, .string vl, .int .i64 xk, .string xn, .slice xa xal xac, .string xt, .slice xka xkl xkc]))
 case first =>
  go_wp2_with fail
  refine hme.mono ?_
  rintro e w1 ⟨how', n', a', hn', ha', rfl, hb1⟩
  unfold actv
  have HX1 : Hid (IsCells w1 w.heap.size _) := HX.out.of_block (hb1.block _ HX.out.lt)
  have hc := HX1.out.cell
  have hf := HX1.out.frozen
  have hl := HX1.out.lt
  have HT : Hid (Turn (fun _ => False) w w1) := ((Turn.refl _ _).alloc _).then hb1 (by simp)
  clear hme hb1
  go_wp2_with fail
  go_meet
  exact ⟨rfl, how', n', a', hn', ha', turn12n HT.out (Nat.le_refl _) _ _ _ _ _ _ _ _ _ _ _ _, set12 HX1.out _ _ _ _ _ _ _ _ _ _ _ _⟩
 case rest =>
  obtain ⟨rfl, how', n', a', hn', ha', HT, HX1⟩ := hcut
  clear HX hme
  have hs1 := HT.out.size
  have HB1 : Hid (Bo wc ro db Q rb D) := HBO.out.turn HT.out (fun _ _ h => h) (fun _ _ h => h) (fun h => h)
  have hc := HX1.out.cell
  have hl := HX1.out.lt
  have hm : ∀ w : World, (method 303 34 (.pointer (some ⟨db, 0, none⟩)) "Insert").run Tryz.prog w = .ok (46, .pointer (some ⟨db, 0, none⟩)) w := fun _ => by kernel_rfl
  have HTR1 : Hid (TreeAt wc lo hi m #[.int .i64 xk, .string xn, .slice xa xal xac, .string xt, .slice xka xkl xkc] t) := HTR.out.of_cells (fun b o h1 h2 => World.cell?_of_block (w := w) (a := ⟨b, o, none⟩) (HT.out.block b (by omega) (fun h => h)))
  have hcopy := copied_own m wc _ t lo hi HTR1.out (by omega)
  clear HTR
  go_wp2_with fail
  refine hcopy.mono ?_
  rintro e w2 ⟨v, rfl, htv, hb2⟩
  obtain ⟨kk, nk, ak, alk, ack, tk, kak, klk, kck, rfl⟩ := htv.form
  have hs2 := hb2.size
  have HTV : Hid (TreeR w2 (Fw w2 wc.heap.size) m #[.int .i64 kk, .string nk, .slice ak alk ack, .string tk, .slice kak klk kck] t) := htv
  obtain ⟨W2, hW2⟩ : ∃ W2, W2 = w2.alloc (.cells #[.int .i64 kk, .string nk, .slice ak alk ack, .string tk, .slice kak klk kck] 31) := ⟨_, rfl⟩
  have hsW : W2.heap.size = w2.heap.size + 1 := by rw [hW2]; simp
  have hbW : Below w2.heap.size w2 W2 := by rw [hW2]; exact below_new' w2 _
  have HTZ : Hid (Turn (fun _ => False) w W2) := (HT.out.then hb2 hs1).then hbW (by omega)
  have HBW : Hid (Bo W2 ro db Q rb D) := HBO.out.turn HTZ.out (fun _ _ h => h) (fun _ _ h => h) (fun h => h)
  have HBX : Hid (IsCells W2 w2.heap.size #[.int .i64 kk, .string nk, .slice ak alk ack, .string tk, .slice kak klk kck]) := by rw [hW2]; exact isCells_new _ _ _
  have HXW : Hid (IsCells W2 w.heap.size _) := HX1.out.of_block ((hbW.block _ (by omega)).trans (hb2.block _ hl))
  have HNR : Hid (∀ b, ro b ≠ 0 -> b < w.heap.size) := fun b hb => PdocLt HBO.out.p b hb
  have HTVW : Hid (TreeAt W2 wc.heap.size w2.heap.size m #[.int .i64 kk, .string nk, .slice ak alk ack, .string tk, .slice kak klk kck] t) := (TreeR.to (R' := fun b => wc.heap.size <= b /\ b < w2.heap.size) (fun b hb => ⟨hb.1, hb.2.1⟩) (fun b o hb => hbW.cell (p := ⟨b, o, none⟩) hb.2.1) HTV.out).toAt
  have hcp := pins_any m W2 _ t wc.heap.size w2.heap.size ro db a' wh D HTVW.out (by omega) (fun b hb h => by have := HNR.out b hb; omega) HBW.out.p HBW.out.wf ha'
  rw [hW2] at hcp
  have hcx := HXW.out.cell
  rw [hW2] at hcx
  have hc2 : ∀ o, w2.cell? ⟨w.heap.size, o, none⟩ = wc.cell? ⟨w.heap.size, o, none⟩ := fun o => hb2.cell (p := ⟨w.heap.size, o, none⟩) hl
  have HW2 : Hid (W2 = w2.alloc (.cells #[.int .i64 kk, .string nk, .slice ak alk ack, .string tk, .slice kak klk kck] 31)) := hW2
  clear htv hcopy hW2 hcx
  have hl2 : w.heap.size < w2.heap.size := by omega
  go_wp2_with fail
  refine hcp.mono ?_
  rw [<- HW2.out]
  rintro e w3 ⟨rfl, ht3, ro3, hp3, hn3⟩
  have HH3 : Hid (Bh W2 w3 ro db Q rb D (insD D wh a' m t).1 ro3) := HBW.out.half ht3 hp3 hn3
  have hs3 := ht3.size
  have HX3 : Hid (IsCells w3 w.heap.size #[.int .i64 0, .int .i64 wh, .bool how', .int .u64 (n' : Int), .int .u64 (a' : Int), .string nm, .string vl, .int .i64 xk, .string xn, .slice xa xal xac, .string xt, .slice xka xkl xkc]) := HXW.out.of_block (ht3.block _ HXW.out.lt (fun e => by have := HNR.out _ e; omega))
  have HBX3 : Hid (IsCells w3 w2.heap.size #[.int .i64 kk, .string nk, .slice ak alk ack, .string tk, .slice kak klk kck]) := HBX.out.of_block (ht3.block _ HBX.out.lt (fun e => by have := HNR.out _ e; omega))
  have HTR3 : Hid (TreeAt w3 lo hi m #[.int .i64 xk, .string xn, .slice xa xal xac, .string xt, .slice xka xkl xkc] t) := HTR1.out.of_cells (fun b o h1 h2 => World.cell?_of_block (w := wc) (a := ⟨b, o, none⟩) (((ht3.block b (by omega) (fun e => by have := HRO.out _ e; omega)).trans (hbW.block b (by omega))).trans (hb2.block b (by omega))))
  have hcr := rins_any m w3 _ t lo hi Q rb a' wh D HTR3.out (by omega) hrb HH3.out.r HBO.out.wf ha'
  have hc3 := HX3.out.cell
  have hl3 := HX3.out.lt
  have HFR3 : Hid (∀ b, Fw w2 wc.heap.size b -> w3.heap[b]? = w2.heap[b]?) := fun b hb => (ht3.block b (by have := hb.2.1; omega) (fun e => by have := HNR.out _ e; have := hb.1; omega)).trans (hbW.block b hb.2.1)
  clear hc2 hc hcp ht3 hp3 hn3 HW2 HTR1
  go_wp2_with fail
  refine hcr.mono ?_
  rintro e w4 ⟨rfl, ht4, hr4⟩
  have hrl := HBO.out.r.rbl
  have hs4 := ht4.size
  have HBX4 : Hid (IsCells w4 w2.heap.size #[.int .i64 kk, .string nk, .slice ak alk ack, .string tk, .slice kak klk kck]) := HBX3.out.of_block (ht4.block _ HBX3.out.lt (fun e => by omega))
  have HFR4 : Hid (∀ b, Fw w2 wc.heap.size b -> w4.heap[b]? = w2.heap[b]?) := fun b hb => (ht4.block b (by have := hb.2.1; omega) (fun e => by have := hb.1; omega)).trans (HFR3.out b hb)
  have HD4 : Hid (DoP W2 ro db Q rb (.returned (.bool true)) w4) := HH3.out.whole (HBO.out.wf.insD wh a' m t) ht4 hr4
  have hsp := spoilT_any m w4 (Fw w2 wc.heap.size) _ (fun b hb => hb.2.2.of_block (HFR4.out b hb)) (TreeR.weak (TreeR.to (R' := Fw w2 wc.heap.size) (fun b hb => hb) (fun b o hb => World.cell?_of_block (w := w2) (a := ⟨b, o, none⟩) (HFR4.out b hb)) HTV.out))
  have hc4 := HBX4.out.cell
  have hl4 := HBX4.out.lt
  clear hc3 hcr ht4 hr4
  go_wp2_with fail
  refine hsp.mono ?_
  rintro e w5 ⟨rfl, hs5⟩
  have HD5 : Hid (DoP w ro db Q rb (.returned (.bool true)) w5) := HD4.out.spoil HTZ.out HBO.out hs5.turn (fun b hb => ⟨by have := hb.1; omega, by have := hb.2.1; omega⟩)
  clear hs5 hsp
  go_wp2
  go_ret
  exact HD5.out
end Go.Proofs.YtjkgjckkglfokaaGreat.Gr
/- Does: any act. -/
namespace Go.Proofs.YtjkgjckkglfokaaGreat.Gr
open Go.RowKit
set_option linter.unusedVariables false
set_option linter.unusedSimpArgs false
theorem does_any (w : World) (ro : Nat -> Nat) (db : Nat) (Q : Nat -> Prop) (rb : Nat) (D : Dc) (hbo : Bo w ro db Q rb D) (k wh : Int) (how : Bool) (n a : Nat) (nm vl : ByteArray) (xk : Int) (xn : ByteArray) (xa : Option Addr) (xal xac : Nat) (xt : ByteArray) (xka : Option Addr) (xkl xkc : Nat) (hn : n < 18446744073709551616) (ha : a < 18446744073709551616)
  (m : Nat) (t : T m) (lo hi : Nat) (htr : TreeAt w lo hi m #[.int .i64 xk, .string xn, .slice xa xal xac, .string xt, .slice xka xkl xkc] t) (hrb : hi <= rb) (hro : ∀ b, ro b ≠ 0 -> hi <= b) :
  Calls Tryz.prog 15 #[.iface 34 (.pointer (some ⟨db, 0, none⟩)), .pointer (some ⟨rb, 0, none⟩), .agg (actv k wh how n a nm vl xk xn xa xal xac xt xka xkl xkc)] w (DoP w ro db Q rb) := by
 by_cases h0 : k = 0
 ·subst h0; exact does_ins w ro db Q rb D hbo wh how n a nm vl xk xn xa xal xac xt xka xkl xkc hn ha m t lo hi htr hrb hro
 by_cases h1 : k = 1
 ·subst h1; exact does_mov w ro db Q rb D hbo wh how n a nm vl xk xn xa xal xac xt xka xkl xkc hn ha
 by_cases h2 : k = 2
 ·subst h2; exact does_del w ro db Q rb D hbo wh how n a nm vl xk xn xa xal xac xt xka xkl xkc hn ha
 by_cases h3 : k = 3
 ·subst h3; exact does_name w ro db Q rb D hbo wh how n a nm vl xk xn xa xal xac xt xka xkl xkc hn ha
 by_cases h4 : k = 4
 ·subst h4; exact does_text w ro db Q rb D hbo wh how n a nm vl xk xn xa xal xac xt xka xkl xkc hn ha
 by_cases h5 : k = 5
 ·subst h5; exact does_attr w ro db Q rb D hbo wh how n a nm vl xk xn xa xal xac xt xka xkl xkc hn ha
 by_cases h6 : k = 6
 ·subst h6; exact does_drop w ro db Q rb D hbo wh how n a nm vl xk xn xa xal xac xt xka xkl xkc hn ha
 exact does_none w ro db Q rb D hbo k wh how n a nm vl xk xn xa xal xac xt xka xkl xkc hn ha ⟨h0, h1, h2, h3, h4, h5, h6⟩
end Go.Proofs.YtjkgjckkglfokaaGreat.Gr
/- Tells: both documents tell the same. -/
namespace Go.Proofs.YtjkgjckkglfokaaGreat.Gr
open Go.RowKit
set_option linter.unusedVariables false
set_option linter.unusedSimpArgs false
end Go.Proofs.YtjkgjckkglfokaaGreat.Gr
/- TreeOn: what holds all along. -/
namespace Go.Proofs.YtjkgjckkglfokaaGreat.Gr
open Go.RowKit
set_option linter.unusedVariables false
set_option linter.unusedSimpArgs false
def D0 : Dc := ⟨[], []⟩
theorem sl_D0 (h : Nat) : sl D0 h = none := by
 cases e : sl D0 h with
 | none => rfl
 | some s =>
  obtain ⟨i, -, h2, -⟩ := sl_live e
  simp [D0] at h2
theorem lst_D0 (p : Nat) : lst D0 p = [] := by
 by_cases h : p = 0
 ·subst h; rfl
 ·simp [lst, h, sl_D0]
theorem wf_D0 : WF D0 := by
 refine ⟨⟨by simp [D0], fun i s h => by simp [D0] at h⟩, fun i s h => by simp [D0] at h, fun i s h => by simp [D0] at h, fun i s h => by simp [D0] at h, fun i s h => by simp [D0] at h, ⟨fun _ => 0, fun h s e => (by rw [sl_D0] at e; cases e)⟩, fun h s e => (by rw [sl_D0] at e; cases e), fun p _ h hh => (by rw [lst_D0] at hh; cases hh), fun p => (by rw [lst_D0]; exact List.nodup_nil)⟩
theorem start_bo (w : World) : Bo ((w.alloc (.cells #[.slice none 0 0, .slice none 0 0, .int .i64 0] 66)).alloc (.cells #[.slice none 0 0, .slice none 0 0] 68)) (fun b => if b = w.heap.size then 1 else 0) w.heap.size (fun _ => False) (w.heap.size + 1) D0 := by
 have hx := (isCells_new w #[.slice none 0 0, .slice none 0 0, .int .i64 0] 66).alloc (.cells #[.slice none 0 0, .slice none 0 0] 68)
 have hy := isCells_new (w.alloc (.cells #[.slice none 0 0, .slice none 0 0, .int .i64 0] 66)) #[.slice none 0 0, .slice none 0 0] 68
 rw [show (w.alloc (.cells #[.slice none 0 0, .slice none 0 0, .int .i64 0] 66)).heap.size = w.heap.size + 1 from by simp] at hy
 refine ⟨wf_D0, ⟨none, 0, none, 0, [], ?_⟩, ⟨fun b h => h.elim, fun h => h, none, 0, none, 0, hy, Nat.le_refl _, Nat.le_refl _, fun i s h => by simp [D0] at h, fun i x h => by simp [D0] at h⟩, fun b hb => ⟨fun h => h, fun e => ?_⟩⟩
 ·exact ⟨hx, own_nil _ _ _ _, own_nil _ _ _ _, rfl, fun i s p h => by simp [D0] at h, by simp, fun b h => by simp [Value.ownBlock] at h, fun b h => by simp [Value.ownBlock] at h, fun i p b h => by simp at h, fun i p b h => by simp at h, fun b hb => by
   by_cases e : b = w.heap.size
   ·subst e; simp; omega
   ·simp [e] at hb⟩
 ·subst e
  simp at hb
def ActAt (w : World) (hi b o : Nat) : Prop :=
 ∃ k wh how n a nm vl xk xn xa xal xac xt xka xkl xkc, n < 18446744073709551616 /\ a < 18446744073709551616 /\ (∀ j, j < 12 -> w.cell? ⟨b, o + j, none⟩ = (actv k wh how n a nm vl xk xn xa xal xac xt xka xkl xkc)[j]?) /\
  ∃ (m : Nat) (t : T m), TreeAt w 0 hi m #[.int .i64 xk, .string xn, .slice xa xal xac, .string xt, .slice xka xkl xkc] t
def ActsAt (w : World) (hi : Nat) (a : Option Addr) (n : Nat) : Prop := ∀ i, i < n -> ∃ b o, a = some ⟨b, o, none⟩ /\ b < hi /\ ActAt w hi b (o + i * 12)
theorem ActsAt.below {w w' : World} {hi n : Nat} {a : Option Addr} (h : ActsAt w hi a n) (hb : Below hi w w') : ActsAt w' hi a n := by
 intro i hi'
 obtain ⟨b, o, h1, h2, k, wh, how, n, a, nm, vl, xk, xn, xa, xal, xac, xt, xka, xkl, xkc, g1, g2, g3, m, t, g4⟩ := h i hi'
 exact ⟨b, o, h1, h2, k, wh, how, n, a, nm, vl, xk, xn, xa, xal, xac, xt, xka, xkl, xkc, g1, g2, fun j hj => (hb.cell (p := ⟨b, _, none⟩) h2).trans (g3 j hj), m, t, g4.of_cells (fun b o _ hb' => hb.cell (p := ⟨b, o, none⟩) hb')⟩
structure Pr (w wr : World) (ro : Nat -> Nat) (db : Nat) (Q : Nat -> Prop) (rb : Nat) (D : Dc) : Prop where
 bel : Below w.heap.size w wr
 bo : Bo wr ro db Q rb D
 lo : ∀ b, ro b ≠ 0 -> w.heap.size <= b
 rlo : w.heap.size <= rb
theorem Pr.step {w wr w' : World} {ro : Nat -> Nat} {db : Nat} {Q : Nat -> Prop} {rb : Nat} {D : Dc} {e : Ending} (h : Pr w wr ro db Q rb D) (hd : DoP wr ro db Q rb e w') : e = .returned (.bool true) /\ ∃ ro' Q' D', Pr w w' ro' db Q' rb D' := by
 obtain ⟨h1, h2, ro', Q', D', h3, h4, h5⟩ := hd
 refine ⟨h1, ro', Q', D', h.bel.trans (h2.below h.bel.size (fun b hb => ?_)), h3, fun b hb => ?_, h.rlo⟩
 ·rcases hb with hb | rfl
  ·exact h.lo b hb
  ·exact h.rlo
 ·rcases h4 b hb with hb | hb
  ·exact h.lo b hb
  ·exact Nat.le_trans h.bel.size hb
theorem Pr.does {w wr : World} {ro : Nat -> Nat} {db : Nat} {Q : Nat -> Prop} {rb : Nat} {D : Dc} (h : Pr w wr ro db Q rb D) {k wh : Int} {how : Bool} {n a : Nat} {nm vl : ByteArray} {xk : Int} {xn : ByteArray} {xa : Option Addr} {xal xac : Nat} {xt : ByteArray} {xka : Option Addr} {xkl xkc : Nat} (hn : n < 18446744073709551616) (ha : a < 18446744073709551616)
  {m : Nat} {t : T m} (htr : TreeAt wr 0 w.heap.size m #[.int .i64 xk, .string xn, .slice xa xal xac, .string xt, .slice xka xkl xkc] t) :
  Calls Tryz.prog 15 #[.iface 34 (.pointer (some ⟨db, 0, none⟩)), .pointer (some ⟨rb, 0, none⟩), .agg (actv k wh how n a nm vl xk xn xa xal xac xt xka xkl xkc)] wr (DoP wr ro db Q rb) :=
 does_any wr ro db Q rb D h.bo k wh how n a nm vl xk xn xa xal xac xt xka xkl xkc hn ha m t 0 w.heap.size htr h.rlo h.lo
end Go.Proofs.YtjkgjckkglfokaaGreat.Gr
/- A tree that is read as data lies in memory as a tree. -/
namespace Go.Proofs.YtjkgjckkglfokaaGreat.Gr
open Go.RowKit Go.Deep
set_option linter.unusedVariables false
set_option linter.unusedSimpArgs false
set_option maxRecDepth 100000
theorem cells46 : Tryz.prog.cellsOf 31 = 5 := by kernel_rfl
theorem cells128 : Tryz.prog.cellsOf 124 = 2 := by kernel_rfl
theorem cells3 : Tryz.prog.cellsOf 3 = 1 := by kernel_rfl
theorem cells9 : Tryz.prog.cellsOf 9 = 1 := by kernel_rfl
theorem cells43 : Tryz.prog.cellsOf 28 = 1 := by kernel_rfl
theorem cells44 : Tryz.prog.cellsOf 29 = 1 := by kernel_rfl
theorem bytes46 : Tryz.prog.bytesOf 31 = 88 := by kernel_rfl
theorem bytes128 : Tryz.prog.bytesOf 124 = 32 := by kernel_rfl
def Wt {H : Type} (t : TypeId) (d : DataW H) : Prop := ∀ y ∈ d.weights Tryz.prog t, y <= reachBytes
theorem wt_slice {H : Type} {t e : TypeId} {es sp : List (DataW H)} (hu : Tryz.prog.underlying t = some (.slice e)) (h : Wt t (.slice es sp)) : (es.length + sp.length) * Tryz.prog.bytesOf e <= reachBytes /\ ∀ d ∈ es, Wt e d := by
 unfold Wt at h
 simp only [DataW.weights, hu] at h
 refine ⟨h _ (by simp), fun d hd y hy => h y ?_⟩
 refine List.mem_cons_of_mem _ (List.mem_append_left _ ?_)
 clear h
 induction es with
 | nil => simp at hd
 | cons a r ih =>
  simp only [DataW.weightsAll, List.mem_append]
  rcases List.mem_cons.1 hd with rfl | hd
  ·exact .inl hy
  ·exact .inr (ih hd)
theorem wt_each {H : Type} : ∀ {ts : List TypeId} {ds : List (DataW H)}, (∀ y ∈ DataW.weightsEach Tryz.prog ts ds, y <= reachBytes) -> ∀ {j : Nat} {t : TypeId} {d : DataW H}, ts[j]? = some t -> ds[j]? = some d -> Wt t d
 | [], ds, h, j, t, d, ht, hd => by simp at ht
 | t0 :: ts, [], h, j, t, d, ht, hd => by simp at hd
 | t0 :: ts, d0 :: ds, h, j, t, d, ht, hd => by
  simp only [DataW.weightsEach, List.mem_append] at h
  cases j with
  | zero =>
   simp at ht hd
   subst ht hd
   exact fun y hy => h y (.inl hy)
  | succ j => exact wt_each (fun y hy => h y (.inr hy)) (j := j) (by simpa using ht) (by simpa using hd)
theorem listOf9 {α : Type} : ∀ (len : Nat) (p : Nat -> α -> Prop), (∀ i, i < len -> ∃ k, p i k) -> ∃ L : List α, L.length = len /\ ∀ i k, L[i]? = some k -> p i k
 | 0, p, h => ⟨[], rfl, fun i k hk => by simp at hk⟩
 | len + 1, p, h => by
  obtain ⟨L, hl, hL⟩ := listOf9 len p (fun i hi => h i (by omega))
  obtain ⟨x, hx⟩ := h len (by omega)
  refine ⟨L ++ [x], by simp [hl], fun i k hk => ?_⟩
  rcases Nat.lt_or_ge i len with hi | hi
  ·rw [List.getElem?_append_left (by omega)] at hk
   exact hL i k hk
  ·have : i = len := by
    have := (List.getElem?_eq_some_iff.1 hk).1
    simp at this
    omega
   subst this
   rw [List.getElem?_append_right (by omega), hl] at hk
   simp at hk
   subst hk
   exact hx
theorem slice_cells {H : Type} {enc : TypeId × Value -> H} {W : World} {held : Bool} {fuel : Nat} {t e : TypeId} {sz : Nat} {a : Option Addr} {len cap : Nat} {x : DataW H × List MemPlace} (hu : Tryz.prog.underlying t = some (.slice e)) (hc : Tryz.prog.cellsOf e = sz) (hsz : 0 < sz)
  (h : DataW.trod enc Tryz.prog W 0 (fun _ => true) held fuel t [.slice a len cap] = some x) (hw : Wt t x.1) : len <= cap /\ len * Tryz.prog.bytesOf e <= reachBytes /\ ∃ n, n + 1 <= fuel /\ ∀ i, i < len -> ∃ (b o : Nat) (cs : List Value) (y : DataW H × List MemPlace), a = some ⟨b, o, none⟩ /\ b < W.heap.size /\ cs.length = sz /\ (∀ j, j < sz -> W.cell? ⟨b, o + i * sz + j, none⟩ = cs[j]?) /\ DataW.trod enc Tryz.prog W 0 (fun _ => true) held n e cs = some y /\ Wt e y.1 := by
 rcases DataW.trod_slice hu h with ⟨hcs, hx⟩ | ⟨ad, l, c, elems, rest, n, hf, hcs, hx, hb, hl, hm, hlen, hel, hsp, _⟩
 ·simp at hcs
  obtain ⟨rfl, rfl, rfl⟩ := hcs
  refine ⟨Nat.le_refl _, by simp, 0, ?_, fun i hi => by omega⟩
  cases fuel with
  | zero => simp [DataW.trod] at h
  | succ n => omega
 ·simp at hcs
  obtain ⟨rfl, rfl, rfl⟩ := hcs
  subst hx
  obtain ⟨w1, w2⟩ := wt_slice hu hw
  simp only [List.length_map] at w1
  refine ⟨hl, Nat.le_trans (Nat.mul_le_mul_right _ (by omega)) w1, n, by omega, fun i hi => ?_⟩
  have h1 := hel i hi
  rw [List.getElem?_eq_getElem (by omega), hc] at h1
  obtain ⟨cs, h2, h3⟩ := Option.bind_eq_some_iff.1 h1
  obtain ⟨_, h4, h5⟩ := World.cells?_some h2
  have h6 := h5 0 hsz
  rw [List.getElem?_eq_getElem (by omega)] at h6
  have hspot : ad.spot = none := by
   have g1 := hel 0 (by omega)
   rw [List.getElem?_eq_getElem (by omega), hc] at g1
   obtain ⟨cs0, g2, _⟩ := Option.bind_eq_some_iff.1 g1
   obtain ⟨_, g4, g5⟩ := World.cells?_some g2
   have g6 := g5 0 hsz
   rw [List.getElem?_eq_getElem (by omega)] at g6
   simpa [Addr.add] using World.cell?_spot g6
  obtain ⟨b, o, spot⟩ := ad
  simp only at hspot
  subst hspot
  refine ⟨b, o, cs, elems[i], rfl, ?_, h4, fun j hj => ?_, h3, w2 _ (List.mem_map_of_mem (List.getElem_mem _))⟩
  ·rw [addr_plus, addr_plus] at h6
   exact World.block_lt_of_cell? W _ h6
  ·have := h5 j hj
   rw [addr_plus, addr_plus] at this
   exact this
theorem reach_a {n : Nat} (h : n * 32 <= reachBytes) : n <= maxA := by unfold reachBytes at h; unfold maxA; omega
theorem reach_k {n : Nat} (h : n * 88 <= reachBytes) : n <= maxK := by unfold reachBytes at h; unfold maxK; omega
theorem attrs_of {H : Type} {enc : TypeId × Value -> H} {W : World} {held : Bool} {fuel : Nat} {a : Option Addr} {len cap : Nat} {x : DataW H × List MemPlace} (h : DataW.trod enc Tryz.prog W 0 (fun _ => true) held fuel 28 [.slice a len cap] = some x) (hw : Wt 28 x.1) :
  ∃ l : List (ByteArray × ByteArray), l.length = len /\ len <= cap /\ len <= maxA /\ AttrsAt W 0 W.heap.size a l := by
 obtain ⟨h1, h2, n, _, h3⟩ := slice_cells Tryz.underlying28 cells128 (by decide) h hw
 rw [bytes128] at h2
 obtain ⟨l, hl, hL⟩ := listOf9 len (fun i (p : ByteArray × ByteArray) => ∃ (b o : Nat), a = some ⟨b, o, none⟩ /\ b < W.heap.size /\ W.cell? ⟨b, o + i * 2, none⟩ = some (.string p.1) /\ W.cell? ⟨b, o + i * 2 + 1, none⟩ = some (.string p.2)) (fun i hi => by
  obtain ⟨b, o, cs, y, e1, e2, e3, e4, e5, _⟩ := h3 i hi
  obtain ⟨xs, n', _, _, _, g4, g5⟩ := DataW.trod_struct Tryz.underlying124 e5
  have x2 : xs.length = 2 := g4
  have f0 : DataW.trod enc Tryz.prog W 0 (fun _ => true) held n' 9 ((cs.drop 0).take (Tryz.prog.cellsOf 9)) = xs[0]? := g5 0 _ rfl
  have f1 : DataW.trod enc Tryz.prog W 0 (fun _ => true) held n' 9 ((cs.drop 1).take (Tryz.prog.cellsOf 9)) = xs[1]? := g5 1 _ rfl
  rw [cells9, List.getElem?_eq_getElem (by omega)] at f0 f1
  obtain ⟨s0, q0, _⟩ := DataW.trod_string Tryz.underlying9 f0
  obtain ⟨s1, q1, _⟩ := DataW.trod_string Tryz.underlying9 f1
  obtain ⟨c0, c1, rfl⟩ : ∃ c0 c1, cs = [c0, c1] := by
   match cs, e3 with
   | [c0, c1], _ => exact ⟨c0, c1, rfl⟩
  simp at q0 q1
  subst q0 q1
  exact ⟨(s0, s1), b, o, e1, e2, e4 0 (by omega), e4 1 (by omega)⟩)
 refine ⟨l, hl, h1, reach_a h2, fun i p hp => ?_⟩
 obtain ⟨b, o, e1, e2, e3, e4⟩ := hL i p hp
 exact ⟨b, o, e1, Nat.zero_le _, e2, e3, e4⟩
theorem tree_of {H : Type} {enc : TypeId × Value -> H} {W : World} {held : Bool} : ∀ (N fuel : Nat) (cs : List Value) (x : DataW H × List MemPlace), fuel <= N -> DataW.trod enc Tryz.prog W 0 (fun _ => true) held fuel 31 cs = some x -> Wt 31 x.1 -> ∃ t : T N, TreeAt W 0 W.heap.size N cs.toArray t
 | 0, fuel, cs, x, hN, h, hw => by
  have : fuel = 0 := by omega
  subst this
  simp [DataW.trod] at h
 | N + 1, fuel, cs, x, hN, h, hw => by
  obtain ⟨xs, n', hf, rfl, hl, g4, g5⟩ := DataW.trod_struct Tryz.underlying31 h
  have x5 : xs.length = 5 := g4
  rw [cells46] at hl
  have f0 : DataW.trod enc Tryz.prog W 0 (fun _ => true) held n' 3 ((cs.drop 0).take (Tryz.prog.cellsOf 3)) = xs[0]? := g5 0 _ rfl
  have f1 : DataW.trod enc Tryz.prog W 0 (fun _ => true) held n' 9 ((cs.drop 1).take (Tryz.prog.cellsOf 9)) = xs[1]? := g5 1 _ rfl
  have f2 : DataW.trod enc Tryz.prog W 0 (fun _ => true) held n' 28 ((cs.drop 2).take (Tryz.prog.cellsOf 28)) = xs[2]? := g5 2 _ rfl
  have f3 : DataW.trod enc Tryz.prog W 0 (fun _ => true) held n' 9 ((cs.drop 3).take (Tryz.prog.cellsOf 9)) = xs[3]? := g5 3 _ rfl
  have f4 : DataW.trod enc Tryz.prog W 0 (fun _ => true) held n' 29 ((cs.drop 4).take (Tryz.prog.cellsOf 29)) = xs[4]? := g5 4 _ rfl
  have hww : ∀ y ∈ DataW.weightsEach Tryz.prog [3, 9, 28, 9, 29] (xs.map (·.1)), y <= reachBytes := by
   intro y hy
   refine hw y ?_
   simp only [DataW.weights, Tryz.underlying31]
   exact hy
  have w2 : Wt 28 (xs[2]'(by omega)).1 := wt_each hww (j := 2) rfl (by rw [List.getElem?_map, List.getElem?_eq_getElem (by omega)]; rfl)
  have w4 : Wt 29 (xs[4]'(by omega)).1 := wt_each hww (j := 4) rfl (by rw [List.getElem?_map, List.getElem?_eq_getElem (by omega)]; rfl)
  rw [List.getElem?_eq_getElem (by omega)] at f0 f1 f2 f3 f4
  rw [cells3] at f0
  rw [cells9] at f1 f3
  rw [cells43] at f2
  rw [cells44] at f4
  obtain ⟨c0, c1, c2, c3, c4, rfl⟩ : ∃ c0 c1 c2 c3 c4, cs = [c0, c1, c2, c3, c4] := by
   match cs, hl with
   | [c0, c1, c2, c3, c4], _ => exact ⟨c0, c1, c2, c3, c4, rfl⟩
  simp at f0 f1 f2 f3 f4
  obtain ⟨k, q0, _⟩ := DataW.trod_int Tryz.underlying3 f0
  obtain ⟨nm, q1, _⟩ := DataW.trod_string Tryz.underlying9 f1
  obtain ⟨tx, q3, _⟩ := DataW.trod_string Tryz.underlying9 f3
  simp at q0 q1 q3
  subst q0 q1 q3
  obtain ⟨a, al, ac, rfl⟩ : ∃ a al ac, c2 = .slice a al ac := by
   rcases DataW.trod_slice Tryz.underlying28 f2 with ⟨e, _⟩ | ⟨ad, l, c, _, _, _, _, e, _⟩
   ·simp at e; exact ⟨_, _, _, e⟩
   ·simp at e; exact ⟨_, _, _, e⟩
  obtain ⟨ka, kl, kc, rfl⟩ : ∃ a al ac, c4 = .slice a al ac := by
   rcases DataW.trod_slice Tryz.underlying29 f4 with ⟨e, _⟩ | ⟨ad, l, c, _, _, _, _, e, _⟩
   ·simp at e; exact ⟨_, _, _, e⟩
   ·simp at e; exact ⟨_, _, _, e⟩
  obtain ⟨l, rfl, la, lb, hat⟩ := attrs_of f2 w2
  obtain ⟨ka1, ka2, n, hn, hkid⟩ := slice_cells Tryz.underlying29 cells46 (by decide) f4 w4
  rw [bytes46] at ka2
  obtain ⟨L, rfl, hL⟩ := listOf9 kl (fun i (q : T N) => ∃ (b o : Nat) (u : Array Value), ka = some ⟨b, o, none⟩ /\ 0 <= b /\ b < W.heap.size /\ u.size = 5 /\ (∀ j, j < 5 -> W.cell? ⟨b, o + i * 5 + j, none⟩ = u[j]?) /\ TreeAt W 0 W.heap.size N u q) (fun i hi => by
   obtain ⟨b, o, cs, y, e1, e2, e3, e4, e5, e6⟩ := hkid i hi
   obtain ⟨q, hq⟩ := tree_of N n cs y (by omega) e5 e6
   exact ⟨q, b, o, cs.toArray, e1, Nat.zero_le _, e2, by simpa using e3, fun j hj => by rw [e4 j hj]; simp, hq⟩)
  exact ⟨({ kind := k, name := nm, attrs := l, text := tx, kids := L } : Nd (T N)), a, ac, ka, kc, rfl, lb, reach_k ka2, la, ka1, hat, hL⟩
theorem cells48 : Tryz.prog.cellsOf 33 = 12 := by kernel_rfl
theorem bytes48 : Tryz.prog.bytesOf 33 = 160 := by kernel_rfl
theorem cells4 : Tryz.prog.cellsOf 4 = 1 := by kernel_rfl
theorem cells42 : Tryz.prog.cellsOf 27 = 1 := by kernel_rfl
theorem u64_of {n : Int} (h : (Lit.int .u64 n).wf = true) : ∃ m : Nat, n = (m : Int) /\ m < 18446744073709551616 := by
 have hb := bounds_u64 h
 exact ⟨n.toNat, by omega, by omega⟩
theorem act_form {H : Type} {enc : TypeId × Value -> H} {W : World} {held : Bool} {fuel : Nat} {cs : List Value} {x : DataW H × List MemPlace} (h : DataW.trod enc Tryz.prog W 0 (fun _ => true) held fuel 33 cs = some x) (hw : Wt 33 x.1) (hl : cs.length = 12) : ∃ k wh how n a nm vl xk xn xa xal xac xt xka xkl xkc, n < 18446744073709551616 /\ a < 18446744073709551616 /\ cs = (actv k wh how n a nm vl xk xn xa xal xac xt xka xkl xkc).toList /\ ∃ (m : Nat) (t : T m), TreeAt W 0 W.heap.size m #[.int .i64 xk, .string xn, .slice xa xal xac, .string xt, .slice xka xkl xkc] t := by
 obtain ⟨xs, n', hf, rfl, _, g4, g5⟩ := DataW.trod_struct Tryz.underlying33 h
 have x8 : xs.length = 8 := g4
 have f0 : DataW.trod enc Tryz.prog W 0 (fun _ => true) held n' 3 ((cs.drop 0).take (Tryz.prog.cellsOf 3)) = xs[0]? := g5 0 _ rfl
 have f1 : DataW.trod enc Tryz.prog W 0 (fun _ => true) held n' 3 ((cs.drop 1).take (Tryz.prog.cellsOf 3)) = xs[1]? := g5 1 _ rfl
 have f2 : DataW.trod enc Tryz.prog W 0 (fun _ => true) held n' 4 ((cs.drop 2).take (Tryz.prog.cellsOf 4)) = xs[2]? := g5 2 _ rfl
 have f3 : DataW.trod enc Tryz.prog W 0 (fun _ => true) held n' 27 ((cs.drop 3).take (Tryz.prog.cellsOf 27)) = xs[3]? := g5 3 _ rfl
 have f4 : DataW.trod enc Tryz.prog W 0 (fun _ => true) held n' 27 ((cs.drop 4).take (Tryz.prog.cellsOf 27)) = xs[4]? := g5 4 _ rfl
 have f5 : DataW.trod enc Tryz.prog W 0 (fun _ => true) held n' 9 ((cs.drop 5).take (Tryz.prog.cellsOf 9)) = xs[5]? := g5 5 _ rfl
 have f6 : DataW.trod enc Tryz.prog W 0 (fun _ => true) held n' 9 ((cs.drop 6).take (Tryz.prog.cellsOf 9)) = xs[6]? := g5 6 _ rfl
 have f7 : DataW.trod enc Tryz.prog W 0 (fun _ => true) held n' 31 ((cs.drop 7).take (Tryz.prog.cellsOf 31)) = xs[7]? := g5 7 _ rfl
 have hww : ∀ y ∈ DataW.weightsEach Tryz.prog [3, 3, 4, 27, 27, 9, 9, 31] (xs.map (·.1)), y <= reachBytes := by
  intro y hy
  refine hw y ?_
  simp only [DataW.weights, Tryz.underlying33]
  exact hy
 have w7 : Wt 31 (xs[7]'(by omega)).1 := wt_each hww (j := 7) rfl (by rw [List.getElem?_map, List.getElem?_eq_getElem (by omega)]; rfl)
 rw [List.getElem?_eq_getElem (by omega)] at f0 f1 f2 f3 f4 f5 f6 f7
 rw [cells3] at f0 f1
 rw [cells4] at f2
 rw [cells42] at f3 f4
 rw [cells9] at f5 f6
 rw [cells46] at f7
 obtain ⟨c0, c1, c2, c3, c4, c5, c6, c7, c8, c9, c10, c11, rfl⟩ : ∃ c0 c1 c2 c3 c4 c5 c6 c7 c8 c9 c10 c11, cs = [c0, c1, c2, c3, c4, c5, c6, c7, c8, c9, c10, c11] := by
  match cs, hl with
  | [c0, c1, c2, c3, c4, c5, c6, c7, c8, c9, c10, c11], _ => exact ⟨c0, c1, c2, c3, c4, c5, c6, c7, c8, c9, c10, c11, rfl⟩
 simp at f0 f1 f2 f3 f4 f5 f6 f7
 obtain ⟨k, q0, _⟩ := DataW.trod_int Tryz.underlying3 f0
 obtain ⟨wh, q1, _⟩ := DataW.trod_int Tryz.underlying3 f1
 obtain ⟨how, q2, _⟩ := DataW.trod_bool Tryz.underlying4 f2
 obtain ⟨n, q3, _, hn⟩ := DataW.trod_int Tryz.underlying27 f3
 obtain ⟨a, q4, _, ha⟩ := DataW.trod_int Tryz.underlying27 f4
 obtain ⟨nm, q5, _⟩ := DataW.trod_string Tryz.underlying9 f5
 obtain ⟨vl, q6, _⟩ := DataW.trod_string Tryz.underlying9 f6
 simp at q0 q1 q2 q3 q4 q5 q6
 subst q0 q1 q2 q3 q4 q5 q6
 obtain ⟨n, rfl, hn9⟩ := u64_of hn
 obtain ⟨a, rfl, ha9⟩ := u64_of ha
 obtain ⟨t, ht⟩ := tree_of n' n' _ _ (Nat.le_refl _) f7 w7
 obtain ⟨xk, xn, xa, xal, xac, xt, xka, xkl, xkc, e⟩ := ht.toR.form
 simp at e
 obtain ⟨rfl, rfl, rfl, rfl, rfl⟩ := e
 exact ⟨k, wh, how, n, a, nm, vl, xk, xn, xa, xal, xac, xt, xka, xkl, xkc, hn9, ha9, rfl, n', t, ht⟩
theorem act_of {H : Type} {enc : TypeId × Value -> H} {W : World} {held : Bool} {fuel : Nat} {cs : List Value} {x : DataW H × List MemPlace} {b o : Nat} (h : DataW.trod enc Tryz.prog W 0 (fun _ => true) held fuel 33 cs = some x) (hw : Wt 33 x.1) (hl : cs.length = 12) (hc : ∀ j, j < 12 -> W.cell? ⟨b, o + j, none⟩ = cs[j]?) : ActAt W W.heap.size b o := by
 obtain ⟨k, wh, how, n, a, nm, vl, xk, xn, xa, xal, xac, xt, xka, xkl, xkc, g1, g2, rfl, m, t, ht⟩ := act_form h hw hl
 exact ⟨k, wh, how, n, a, nm, vl, xk, xn, xa, xal, xac, xt, xka, xkl, xkc, g1, g2, fun j hj => by rw [hc j hj]; simp, m, t, ht⟩
theorem acts_of {H : Type} {enc : TypeId × Value -> H} {W : World} {held : Bool} {fuel : Nat} {a : Option Addr} {len cap : Nat} {x : DataW H × List MemPlace} (h : DataW.trod enc Tryz.prog W 0 (fun _ => true) held fuel 50 [.slice a len cap] = some x) (hw : Wt 50 x.1) : ActsAt W W.heap.size a len /\ len < 4611686018427387904 := by
 obtain ⟨h1, h2, n, _, h3⟩ := slice_cells Tryz.underlying50 cells48 (by decide) h hw
 rw [bytes48] at h2
 refine ⟨fun i hi => ?_, by unfold reachBytes at h2; omega⟩
 obtain ⟨b, o, cs, y, e1, e2, e3, e4, e5, e6⟩ := h3 i hi
 exact ⟨b, o, e1, e2, act_of e5 e6 e3 e4⟩
end Go.Proofs.YtjkgjckkglfokaaGreat.Gr
