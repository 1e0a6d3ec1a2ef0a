/- Insert of the document. -/
import Derived.Test.YtmapmkogjhinmaaGreatA21
namespace Go.Proofs.YtmapmkogjhinmaaGreat
open Go.RowKit
set_option maxRecDepth 100000
set_option maxHeartbeats 2000000
set_option linter.unusedVariables false
set_option linter.unusedSimpArgs false
def RInsP (w : World) (Q : Nat -> Prop) (rb : Nat) (D' : Dc) (h : Nat) (z : Int) (e : Ending) (w' : World) : Prop :=
 e = .returned (.tuple #[.int .u64 (h : Int), .int .i64 z]) /\ Turn (fun b => b = rb) w w' /\ RDoc w' (fun b => Q b \/ (w.heap.size <= b /\ b < w'.heap.size)) rb D'
theorem rinsp_same {w w' : World} {Q : Nat -> Prop} {rb : Nat} {D : Dc} {z : Int} (h : RDoc w Q rb D) (hb : Below w.heap.size w w') : RInsP w Q rb D 0 z (.returned (.tuple #[.int .u64 0, .int .i64 z])) w' := ⟨rfl, (rpost_same (z := 0) h hb).2⟩
theorem rins_arg (n : Nat) (w : World) (v : Array Value) (t : T n) (lo hi : Nat) (Q : Nat -> Prop) (rb a : Nat) (wh : Int) (D : Dc) (h : TreeAt w lo hi n v t) (hsz : hi <= w.heap.size) (hrb : hi <= rb) (hd : RDoc w Q rb D) (hw : WF D) (hal : a < 18446744073709551616) (hpl : isPlaceB wh a = false) :
  Calls Tryz.prog 31 #[.pointer (some ⟨rb, 0, none⟩), .int .i64 wh, .int .u64 (a : Int), .agg v] w (RInsP w Q rb D 0 1) := by
 have hv := hd.view
 have HD : Hid (RDoc w Q rb D) := hd
 obtain ⟨tk, nm, aa, al, ac, tx, ka, kl, kc, rfl⟩ := h.form
 have HBX : Hid (Below w.heap.size w (w.alloc (.cells #[.int .i64 tk, .string nm, .slice aa al ac, .string tx, .slice ka kl kc] 35))) := below_new' w _
 have HBC : Hid (IsCells (w.alloc (.cells #[.int .i64 tk, .string nm, .slice aa al ac, .string tx, .slice ka kl kc] 35)) w.heap.size #[.int .i64 tk, .string nm, .slice aa al ac, .string tx, .slice ka kl kc]) := isCells_new w _ _
 have hvx : View (w.alloc (.cells #[.int .i64 tk, .string nm, .slice aa al ac, .string tx, .slice ka kl kc] 35)) _ rb D := hv.below (below_new' w _)
 have hpc := rplace_arg (w.alloc (.cells #[.int .i64 tk, .string nm, .slice aa al ac, .string tx, .slice ka kl kc] 35)) rb wh a hpl
 clear hd hv hvx h hw hpl
 go_enter Tryz.func31, Tryz.ntmps31
 go_wp2_with fail
 refine (hpc).mono ?_
 rintro e w1 ⟨rfl, hb⟩
 have HB1 : Hid (Below w.heap.size w w1) := HBX.out.trans (hb.mono HBX.out.size)
 have HC1 : Hid (IsCells w1 w.heap.size #[.int .i64 tk, .string nm, .slice aa al ac, .string tx, .slice ka kl kc]) := HBC.out.of_block (hb.block w.heap.size HBC.out.lt)
 clear hb
 go_wp2
 go_ret2
 exact rinsp_same HD.out HB1.out
theorem rins_check (n : Nat) (w : World) (v : Array Value) (t : T n) (lo hi : Nat) (Q : Nat -> Prop) (rb a : Nat) (wh : Int) (D : Dc) (h : TreeAt w lo hi n v t) (hsz : hi <= w.heap.size) (hrb : hi <= rb) (hd : RDoc w Q rb D) (hw : WF D) (hal : a < 18446744073709551616) (hpl : isPlaceB wh a = true) (hcz : (chk n t 1 0).2 ≠ 0) :
  Calls Tryz.prog 31 #[.pointer (some ⟨rb, 0, none⟩), .int .i64 wh, .int .u64 (a : Int), .agg v] w (RInsP w Q rb D 0 (chk n t 1 0).2) := by
 have hv := hd.view
 have HD : Hid (RDoc w Q rb D) := hd
 obtain ⟨tk, nm, aa, al, ac, tx, ka, kl, kc, rfl⟩ := h.form
 have HBX : Hid (Below w.heap.size w (w.alloc (.cells #[.int .i64 tk, .string nm, .slice aa al ac, .string tx, .slice ka kl kc] 35))) := below_new' w _
 have HBC : Hid (IsCells (w.alloc (.cells #[.int .i64 tk, .string nm, .slice aa al ac, .string tx, .slice ka kl kc] 35)) w.heap.size #[.int .i64 tk, .string nm, .slice aa al ac, .string tx, .slice ka kl kc]) := isCells_new w _ _
 have hvx : View (w.alloc (.cells #[.int .i64 tk, .string nm, .slice aa al ac, .string tx, .slice ka kl kc] 35)) _ rb D := hv.below (below_new' w _)
 have hpc := rplace_any (w.alloc (.cells #[.int .i64 tk, .string nm, .slice aa al ac, .string tx, .slice ka kl kc] 35)) _ rb D wh a hvx hw hal hpl
 have hck := fun W (hb : Below w.heap.size w W) => rCheck_any n W _ t lo hi (h.below hb hsz) (Nat.le_trans hsz hb.size)
 have hz1 : ((placeE D wh a).2 == 1) = false := by rcases placeE_err D wh a with e | e | e <;> rw [e] <;> decide
 generalize (chk n t 1 0).2 = z at *
 have hzb : (z == 0) = false := beq_eq_false_iff_ne.2 hcz
 generalize (placeE D wh a).1 = p at *
 generalize (placeE D wh a).2 = y at *
 clear hd hv hvx h hw hpl
 go_enter Tryz.func31, Tryz.ntmps31
 go_wp2_with fail
 refine (hpc).mono ?_
 rintro e w1 ⟨rfl, hb⟩
 have HB1 : Hid (Below w.heap.size w w1) := HBX.out.trans (hb.mono HBX.out.size)
 have HC1 : Hid (IsCells w1 w.heap.size #[.int .i64 tk, .string nm, .slice aa al ac, .string tx, .slice ka kl kc]) := HBC.out.of_block (hb.block w.heap.size HBC.out.lt)
 clear hb
 have hck1 := hck w1 HB1.out
 clear hck hpc
 have hx0 := HC1.out.cell 0
 have hx1 := HC1.out.cell 1
 have hx2 := HC1.out.cell 2
 have hx3 := HC1.out.cell 3
 have hx4 := HC1.out.cell 4
 simp at hx0 hx1 hx2 hx3 hx4
 go_wp2_with fail
 refine (hck1).mono ?_
 rintro e w2 ⟨rfl, hb⟩
 have HB2 : Hid (Below w.heap.size w w2) := HB1.out.trans (hb.mono HB1.out.size)
 have HC2 : Hid (IsCells w2 w.heap.size #[.int .i64 tk, .string nm, .slice aa al ac, .string tx, .slice ka kl kc]) := HC1.out.of_block (hb.block w.heap.size HC1.out.lt)
 clear hb
 clear hck1
 clear hx0 hx1 hx2 hx3 hx4
 go_wp2
 go_ret2
 exact rinsp_same HD.out HB2.out
theorem rins_place (n : Nat) (w : World) (v : Array Value) (t : T n) (lo hi : Nat) (Q : Nat -> Prop) (rb a : Nat) (wh : Int) (D : Dc) (h : TreeAt w lo hi n v t) (hsz : hi <= w.heap.size) (hrb : hi <= rb) (hd : RDoc w Q rb D) (hw : WF D) (hal : a < 18446744073709551616) (hpl : isPlaceB wh a = true) (hcz : (chk n t 1 0).2 = 0) (hpz : (placeE D wh a).2 ≠ 0) :
  Calls Tryz.prog 31 #[.pointer (some ⟨rb, 0, none⟩), .int .i64 wh, .int .u64 (a : Int), .agg v] w (RInsP w Q rb D 0 (placeE D wh a).2) := by
 have hv := hd.view
 have HD : Hid (RDoc w Q rb D) := hd
 obtain ⟨tk, nm, aa, al, ac, tx, ka, kl, kc, rfl⟩ := h.form
 have HBX : Hid (Below w.heap.size w (w.alloc (.cells #[.int .i64 tk, .string nm, .slice aa al ac, .string tx, .slice ka kl kc] 35))) := below_new' w _
 have HBC : Hid (IsCells (w.alloc (.cells #[.int .i64 tk, .string nm, .slice aa al ac, .string tx, .slice ka kl kc] 35)) w.heap.size #[.int .i64 tk, .string nm, .slice aa al ac, .string tx, .slice ka kl kc]) := isCells_new w _ _
 have hvx : View (w.alloc (.cells #[.int .i64 tk, .string nm, .slice aa al ac, .string tx, .slice ka kl kc] 35)) _ rb D := hv.below (below_new' w _)
 have hpc := rplace_any (w.alloc (.cells #[.int .i64 tk, .string nm, .slice aa al ac, .string tx, .slice ka kl kc] 35)) _ rb D wh a hvx hw hal hpl
 have hck := fun W (hb : Below w.heap.size w W) => rCheck_any n W _ t lo hi (h.below hb hsz) (Nat.le_trans hsz hb.size)
 have hz1 : ((placeE D wh a).2 == 1) = false := by rcases placeE_err D wh a with e | e | e <;> rw [e] <;> decide
 rw [hcz] at hck
 generalize (placeE D wh a).1 = p at *
 generalize (placeE D wh a).2 = y at *
 have hzb : (y == 0) = false := beq_eq_false_iff_ne.2 hpz
 clear hd hv hvx h hw hpl hcz
 go_enter Tryz.func31, Tryz.ntmps31
 go_wp2_with fail
 refine (hpc).mono ?_
 rintro e w1 ⟨rfl, hb⟩
 have HB1 : Hid (Below w.heap.size w w1) := HBX.out.trans (hb.mono HBX.out.size)
 have HC1 : Hid (IsCells w1 w.heap.size #[.int .i64 tk, .string nm, .slice aa al ac, .string tx, .slice ka kl kc]) := HBC.out.of_block (hb.block w.heap.size HBC.out.lt)
 clear hb
 have hck1 := hck w1 HB1.out
 clear hck hpc
 have hx0 := HC1.out.cell 0
 have hx1 := HC1.out.cell 1
 have hx2 := HC1.out.cell 2
 have hx3 := HC1.out.cell 3
 have hx4 := HC1.out.cell 4
 simp at hx0 hx1 hx2 hx3 hx4
 go_wp2_with fail
 refine (hck1).mono ?_
 rintro e w2 ⟨rfl, hb⟩
 have HB2 : Hid (Below w.heap.size w w2) := HB1.out.trans (hb.mono HB1.out.size)
 have HC2 : Hid (IsCells w2 w.heap.size #[.int .i64 tk, .string nm, .slice aa al ac, .string tx, .slice ka kl kc]) := HC1.out.of_block (hb.block w.heap.size HC1.out.lt)
 clear hb
 clear hck1
 clear hx0 hx1 hx2 hx3 hx4
 go_wp2
 go_ret2
 exact rinsp_same HD.out HB2.out
theorem rins_deep (n : Nat) (w : World) (v : Array Value) (t : T n) (lo hi : Nat) (Q : Nat -> Prop) (rb a : Nat) (wh : Int) (D : Dc) (h : TreeAt w lo hi n v t) (hsz : hi <= w.heap.size) (hrb : hi <= rb) (hd : RDoc w Q rb D) (hw : WF D) (hal : a < 18446744073709551616) (hpl : isPlaceB wh a = true) (hcz : (chk n t 1 0).2 = 0) (hpz : (placeE D wh a).2 = 0) (hdp : 64 < (ups D (placeE D wh a).1).length + htT n t) :
  Calls Tryz.prog 31 #[.pointer (some ⟨rb, 0, none⟩), .int .i64 wh, .int .u64 (a : Int), .agg v] w (RInsP w Q rb D 0 32) := by
 have hv := hd.view
 have HD : Hid (RDoc w Q rb D) := hd
 obtain ⟨tk, nm, aa, al, ac, tx, ka, kl, kc, rfl⟩ := h.form
 have HBX : Hid (Below w.heap.size w (w.alloc (.cells #[.int .i64 tk, .string nm, .slice aa al ac, .string tx, .slice ka kl kc] 35))) := below_new' w _
 have HBC : Hid (IsCells (w.alloc (.cells #[.int .i64 tk, .string nm, .slice aa al ac, .string tx, .slice ka kl kc] 35)) w.heap.size #[.int .i64 tk, .string nm, .slice aa al ac, .string tx, .slice ka kl kc]) := isCells_new w _ _
 have hvx : View (w.alloc (.cells #[.int .i64 tk, .string nm, .slice aa al ac, .string tx, .slice ka kl kc] 35)) _ rb D := hv.below (below_new' w _)
 have hpc := rplace_any (w.alloc (.cells #[.int .i64 tk, .string nm, .slice aa al ac, .string tx, .slice ka kl kc] 35)) _ rb D wh a hvx hw hal hpl
 have hck := fun W (hb : Below w.heap.size w W) => rCheck_any n W _ t lo hi (h.below hb hsz) (Nat.le_trans hsz hb.size)
 have hz1 : ((placeE D wh a).2 == 1) = false := by rcases placeE_err D wh a with e | e | e <;> rw [e] <;> decide
 obtain ⟨o1, o2, o3⟩ := chk_ok n t 1 0 (by omega) (by omega) (by omega) hcz
 have hn4 : ndT n t <= 4096 := by
  have := chk_le n t 1 0 (by omega)
  omega
 have hpp := (placeE_live hw hpz).1
 obtain ⟨lv, hlv0⟩ := hw.lev
 have hul : (ups D (placeE D wh a).1).length <= 64 := by rw [ups_length hlv0 hpp]; exact dep_le hlv0 hpp
 have hme := fun W (hb : Below w.heap.size w W) => rsizeT_any n W _ t lo hi (h.below hb hsz) (Nat.le_trans hsz hb.size) o1 hn4 (by omega)
 have hle := fun W (hb : Below w.heap.size w W) => rlevel_any W _ rb D (placeE D wh a).1 (hv.below hb) hw hpp
 rw [hcz] at hck
 rw [hpz] at hpc hz1
 generalize (ups D (placeE D wh a).1).length = ul at *
 generalize (placeE D wh a).1 = p at *
 generalize htT n t = ht at *
 generalize ndT n t = nd at *
 have hdb : (64 : Int) < (ul : Int) - 1 + 1 + (ht : Int) := by omega
 clear hd hv hvx h hw hpl hcz hpz o1 o2 hlv0 hpp
 go_enter Tryz.func31, Tryz.ntmps31
 go_wp2_with fail
 refine (hpc).mono ?_
 rintro e w1 ⟨rfl, hb⟩
 have HB1 : Hid (Below w.heap.size w w1) := HBX.out.trans (hb.mono HBX.out.size)
 have HC1 : Hid (IsCells w1 w.heap.size #[.int .i64 tk, .string nm, .slice aa al ac, .string tx, .slice ka kl kc]) := HBC.out.of_block (hb.block w.heap.size HBC.out.lt)
 clear hb
 have hck1 := hck w1 HB1.out
 clear hck hpc
 have hx0 := HC1.out.cell 0
 have hx1 := HC1.out.cell 1
 have hx2 := HC1.out.cell 2
 have hx3 := HC1.out.cell 3
 have hx4 := HC1.out.cell 4
 simp at hx0 hx1 hx2 hx3 hx4
 go_wp2_with fail
 refine (hck1).mono ?_
 rintro e w2 ⟨rfl, hb⟩
 have HB2 : Hid (Below w.heap.size w w2) := HB1.out.trans (hb.mono HB1.out.size)
 have HC2 : Hid (IsCells w2 w.heap.size #[.int .i64 tk, .string nm, .slice aa al ac, .string tx, .slice ka kl kc]) := HC1.out.of_block (hb.block w.heap.size HC1.out.lt)
 clear hb
 clear hck1
 clear hx0 hx1 hx2 hx3 hx4
 have hx0 := HC2.out.cell 0
 have hx1 := HC2.out.cell 1
 have hx2 := HC2.out.cell 2
 have hx3 := HC2.out.cell 3
 have hx4 := HC2.out.cell 4
 simp at hx0 hx1 hx2 hx3 hx4
 have hme2 := hme w2 HB2.out
 clear hme
 go_wp2_with fail
 refine (hme2).mono ?_
 rintro e w3 ⟨rfl, hb⟩
 have HB3 : Hid (Below w.heap.size w w3) := HB2.out.trans (hb.mono HB2.out.size)
 have HC3 : Hid (IsCells w3 w.heap.size #[.int .i64 tk, .string nm, .slice aa al ac, .string tx, .slice ka kl kc]) := HC2.out.of_block (hb.block w.heap.size HC2.out.lt)
 clear hb
 clear hme2
 clear hx0 hx1 hx2 hx3 hx4
 have hle3 := hle w3 HB3.out
 clear hle
 go_wp2_with fail
 refine (hle3).mono ?_
 rintro e w4 ⟨rfl, hb⟩
 have HB4 : Hid (Below w.heap.size w w4) := HB3.out.trans (hb.mono HB3.out.size)
 have HC4 : Hid (IsCells w4 w.heap.size #[.int .i64 tk, .string nm, .slice aa al ac, .string tx, .slice ka kl kc]) := HC3.out.of_block (hb.block w.heap.size HC3.out.lt)
 clear hb
 clear hle3
 go_wp2
 go_ret2
 exact rinsp_same HD.out HB4.out
theorem rins_many (n : Nat) (w : World) (v : Array Value) (t : T n) (lo hi : Nat) (Q : Nat -> Prop) (rb a : Nat) (wh : Int) (D : Dc) (h : TreeAt w lo hi n v t) (hsz : hi <= w.heap.size) (hrb : hi <= rb) (hd : RDoc w Q rb D) (hw : WF D) (hal : a < 18446744073709551616) (hpl : isPlaceB wh a = true) (hcz : (chk n t 1 0).2 = 0) (hpz : (placeE D wh a).2 = 0) (hdp : (ups D (placeE D wh a).1).length + htT n t <= 64) (hmn : 4096 < cnt takenB D.S + ndT n t) :
  Calls Tryz.prog 31 #[.pointer (some ⟨rb, 0, none⟩), .int .i64 wh, .int .u64 (a : Int), .agg v] w (RInsP w Q rb D 0 33) := by
 have hv := hd.view
 have HD : Hid (RDoc w Q rb D) := hd
 obtain ⟨tk, nm, aa, al, ac, tx, ka, kl, kc, rfl⟩ := h.form
 have HBX : Hid (Below w.heap.size w (w.alloc (.cells #[.int .i64 tk, .string nm, .slice aa al ac, .string tx, .slice ka kl kc] 35))) := below_new' w _
 have HBC : Hid (IsCells (w.alloc (.cells #[.int .i64 tk, .string nm, .slice aa al ac, .string tx, .slice ka kl kc] 35)) w.heap.size #[.int .i64 tk, .string nm, .slice aa al ac, .string tx, .slice ka kl kc]) := isCells_new w _ _
 have hvx : View (w.alloc (.cells #[.int .i64 tk, .string nm, .slice aa al ac, .string tx, .slice ka kl kc] 35)) _ rb D := hv.below (below_new' w _)
 have hpc := rplace_any (w.alloc (.cells #[.int .i64 tk, .string nm, .slice aa al ac, .string tx, .slice ka kl kc] 35)) _ rb D wh a hvx hw hal hpl
 have hck := fun W (hb : Below w.heap.size w W) => rCheck_any n W _ t lo hi (h.below hb hsz) (Nat.le_trans hsz hb.size)
 have hz1 : ((placeE D wh a).2 == 1) = false := by rcases placeE_err D wh a with e | e | e <;> rw [e] <;> decide
 obtain ⟨o1, o2, o3⟩ := chk_ok n t 1 0 (by omega) (by omega) (by omega) hcz
 have hn4 : ndT n t <= 4096 := by
  have := chk_le n t 1 0 (by omega)
  omega
 have hpp := (placeE_live hw hpz).1
 obtain ⟨lv, hlv0⟩ := hw.lev
 have hul : (ups D (placeE D wh a).1).length <= 64 := by rw [ups_length hlv0 hpp]; exact dep_le hlv0 hpp
 have hme := fun W (hb : Below w.heap.size w W) => rsizeT_any n W _ t lo hi (h.below hb hsz) (Nat.le_trans hsz hb.size) o1 hn4 (by omega)
 have hle := fun W (hb : Below w.heap.size w W) => rlevel_any W _ rb D (placeE D wh a).1 (hv.below hb) hw hpp
 rw [hcz] at hck
 rw [hpz] at hpc hz1
 have htk := fun W (hb : Below w.heap.size w W) => rtaken_any W _ rb D (hv.below hb) hw.fits
 have hcl : cnt takenB D.S <= 4096 := Nat.le_trans (List.length_filter_le _ _) hw.fits.len
 generalize (ups D (placeE D wh a).1).length = ul at *
 generalize (placeE D wh a).1 = p at *
 generalize htT n t = ht at *
 generalize ndT n t = nd at *
 generalize cnt takenB D.S = ct at *
 have hdb : ¬ (64 : Int) < (ul : Int) - 1 + 1 + (ht : Int) := by omega
 have hmb : (4096 : Int) < (ct : Int) + (nd : Int) := by omega
 clear hd hv hvx h hw hpl hcz hpz o1 o2 hlv0 hpp
 go_enter Tryz.func31, Tryz.ntmps31
 go_wp2_with fail
 refine (hpc).mono ?_
 rintro e w1 ⟨rfl, hb⟩
 have HB1 : Hid (Below w.heap.size w w1) := HBX.out.trans (hb.mono HBX.out.size)
 have HC1 : Hid (IsCells w1 w.heap.size #[.int .i64 tk, .string nm, .slice aa al ac, .string tx, .slice ka kl kc]) := HBC.out.of_block (hb.block w.heap.size HBC.out.lt)
 clear hb
 have hck1 := hck w1 HB1.out
 clear hck hpc
 have hx0 := HC1.out.cell 0
 have hx1 := HC1.out.cell 1
 have hx2 := HC1.out.cell 2
 have hx3 := HC1.out.cell 3
 have hx4 := HC1.out.cell 4
 simp at hx0 hx1 hx2 hx3 hx4
 go_wp2_with fail
 refine (hck1).mono ?_
 rintro e w2 ⟨rfl, hb⟩
 have HB2 : Hid (Below w.heap.size w w2) := HB1.out.trans (hb.mono HB1.out.size)
 have HC2 : Hid (IsCells w2 w.heap.size #[.int .i64 tk, .string nm, .slice aa al ac, .string tx, .slice ka kl kc]) := HC1.out.of_block (hb.block w.heap.size HC1.out.lt)
 clear hb
 clear hck1
 clear hx0 hx1 hx2 hx3 hx4
 have hx0 := HC2.out.cell 0
 have hx1 := HC2.out.cell 1
 have hx2 := HC2.out.cell 2
 have hx3 := HC2.out.cell 3
 have hx4 := HC2.out.cell 4
 simp at hx0 hx1 hx2 hx3 hx4
 have hme2 := hme w2 HB2.out
 clear hme
 go_wp2_with fail
 refine (hme2).mono ?_
 rintro e w3 ⟨rfl, hb⟩
 have HB3 : Hid (Below w.heap.size w w3) := HB2.out.trans (hb.mono HB2.out.size)
 have HC3 : Hid (IsCells w3 w.heap.size #[.int .i64 tk, .string nm, .slice aa al ac, .string tx, .slice ka kl kc]) := HC2.out.of_block (hb.block w.heap.size HC2.out.lt)
 clear hb
 clear hme2
 clear hx0 hx1 hx2 hx3 hx4
 have hle3 := hle w3 HB3.out
 clear hle
 go_wp2_with fail
 refine (hle3).mono ?_
 rintro e w4 ⟨rfl, hb⟩
 have HB4 : Hid (Below w.heap.size w w4) := HB3.out.trans (hb.mono HB3.out.size)
 have HC4 : Hid (IsCells w4 w.heap.size #[.int .i64 tk, .string nm, .slice aa al ac, .string tx, .slice ka kl kc]) := HC3.out.of_block (hb.block w.heap.size HC3.out.lt)
 clear hb
 clear hle3
 have htk4 := htk w4 HB4.out
 clear htk
 go_wp2_with fail
 refine htk4.mono ?_
 rintro e w5 ⟨rfl, rfl⟩
 clear htk4
 go_wp2
 go_ret2
 exact rinsp_same HD.out HB4.out
theorem rins_ok (n : Nat) (w : World) (v : Array Value) (t : T n) (lo hi : Nat) (Q : Nat -> Prop) (rb a : Nat) (wh : Int) (D : Dc) (h : TreeAt w lo hi n v t) (hsz : hi <= w.heap.size) (hrb : hi <= rb) (hd : RDoc w Q rb D) (hw : WF D) (hal : a < 18446744073709551616) (hpl : isPlaceB wh a = true) (hcz : (chk n t 1 0).2 = 0) (hpz : (placeE D wh a).2 = 0) (hdp : (ups D (placeE D wh a).1).length + htT n t <= 64) (hmn : cnt takenB D.S + ndT n t <= 4096) :
  Calls Tryz.prog 31 #[.pointer (some ⟨rb, 0, none⟩), .int .i64 wh, .int .u64 (a : Int), .agg v] w (RInsP w Q rb (putD (growD n t (placeE D wh a).1 D).1 (growD n t (placeE D wh a).1 D).2 (placeE D wh a).1 wh a) (growD n t (placeE D wh a).1 D).2 0) := by
 have hv := hd.view
 have HD : Hid (RDoc w Q rb D) := hd
 obtain ⟨tk, nm, aa, al, ac, tx, ka, kl, kc, rfl⟩ := h.form
 have HBX : Hid (Below w.heap.size w (w.alloc (.cells #[.int .i64 tk, .string nm, .slice aa al ac, .string tx, .slice ka kl kc] 35))) := below_new' w _
 have HBC : Hid (IsCells (w.alloc (.cells #[.int .i64 tk, .string nm, .slice aa al ac, .string tx, .slice ka kl kc] 35)) w.heap.size #[.int .i64 tk, .string nm, .slice aa al ac, .string tx, .slice ka kl kc]) := isCells_new w _ _
 have hvx : View (w.alloc (.cells #[.int .i64 tk, .string nm, .slice aa al ac, .string tx, .slice ka kl kc] 35)) _ rb D := hv.below (below_new' w _)
 have hpc := rplace_any (w.alloc (.cells #[.int .i64 tk, .string nm, .slice aa al ac, .string tx, .slice ka kl kc] 35)) _ rb D wh a hvx hw hal hpl
 have hck := fun W (hb : Below w.heap.size w W) => rCheck_any n W _ t lo hi (h.below hb hsz) (Nat.le_trans hsz hb.size)
 have hz1 : ((placeE D wh a).2 == 1) = false := by rcases placeE_err D wh a with e | e | e <;> rw [e] <;> decide
 obtain ⟨o1, o2, o3⟩ := chk_ok n t 1 0 (by omega) (by omega) (by omega) hcz
 have hn4 : ndT n t <= 4096 := by
  have := chk_le n t 1 0 (by omega)
  omega
 have hpp := (placeE_live hw hpz).1
 obtain ⟨lv, hlv0⟩ := hw.lev
 have hul : (ups D (placeE D wh a).1).length <= 64 := by rw [ups_length hlv0 hpp]; exact dep_le hlv0 hpp
 have hme := fun W (hb : Below w.heap.size w W) => rsizeT_any n W _ t lo hi (h.below hb hsz) (Nat.le_trans hsz hb.size) o1 hn4 (by omega)
 have hle := fun W (hb : Below w.heap.size w W) => rlevel_any W _ rb D (placeE D wh a).1 (hv.below hb) hw hpp
 rw [hcz] at hck
 rw [hpz] at hpc hz1
 have htk := fun W (hb : Below w.heap.size w W) => rtaken_any W _ rb D (hv.below hb) hw.fits
 have hz : insE D wh a n t = 0 := by
  unfold insE
  rw [if_neg (by simp [hpl]), if_neg (by simp [hcz]), if_neg (by simp [hpz]), if_neg (by omega), if_neg (by omega)]
 obtain ⟨f1, f2, f3, f4⟩ := place_facts hw hpz hpl
 obtain ⟨N, hgn, sn, k1, k2⟩ := ins_grown hw hz
 have hpN : (placeE D wh a).1 ∉ N := hgn.notin hpp
 have hlE : lst (growD n t (placeE D wh a).1 D).1 (placeE D wh a).1 = lst D (placeE D wh a).1 := hgn.lst_old hpN
 have hppE : (placeE D wh a).1 = 0 \/ ∃ s, sl (growD n t (placeE D wh a).1 D).1 (placeE D wh a).1 = some s := hpp.imp id (fun ⟨s, hs⟩ => ⟨s, by rw [hgn.old _ hpN]; exact hs⟩)
 have hpl64 := hw.ltz hpp
 obtain ⟨iN, haN, hiN, -, hhN⟩ := sl_live k1
 have hnl : (growD n t (placeE D wh a).1 D).2 < 18446744073709551616 := by
  have h1 := hgn.sane.fits.gen iN sn hiN
  have h2 := (List.getElem?_eq_some_iff.1 hiN).1
  have h3 := hgn.sane.fits.len
  rw [hhN]
  unfold hnd
  omega
 have HPUT : Hid (∀ W base Q g cap ra rcap L, RdS W base Q rb (growD n t (placeE D wh a).1 D).1 g cap ra rcap L -> Calls Tryz.prog 67 #[.pointer (some ⟨rb, 0, none⟩), .int .u64 ((growD n t (placeE D wh a).1 D).2 : Int), .int .u64 ((placeE D wh a).1 : Int), .int .i64 wh, .int .u64 (a : Int)] W (OutP W base Q rb (putD (growD n t (placeE D wh a).1 D).1 (growD n t (placeE D wh a).1 D).2 (placeE D wh a).1 wh a) g cap)) := fun W base Q g cap ra rcap L hW =>
  rput_any W base Q rb _ g cap ra rcap L _ _ a iN wh hW hgn.sane.fits hppE hpl64 hnl (by rw [hlE]; exact lst_len hw hpp) haN (by
   rcases f4 with h | h | ⟨h1, h2⟩
   ·exact .inl h
   ·exact .inr (.inl h)
   ·exact .inr (.inr ⟨h1, by rw [hlE]; exact h2⟩))
 have HMK : Hid (∀ W base Q g cap ra rcap L, Below w.heap.size w W \/ True -> (∀ b o, lo <= b -> b < hi -> W.cell? ⟨b, o, none⟩ = w.cell? ⟨b, o, none⟩) -> hi <= W.heap.size -> RdS W base Q rb D g cap ra rcap L -> Calls Tryz.prog 66 #[.pointer (some ⟨rb, 0, none⟩), .agg #[.int .i64 tk, .string nm, .slice aa al ac, .string tx, .slice ka kl kc], .int .u64 ((placeE D wh a).1 : Int)] W (MakeP W base (fun _ => Q) rb g ra rcap D L (growD n t (placeE D wh a).1 D).1 (growD n t (placeE D wh a).1 D).2)) := fun W base Q g cap ra rcap L _ hc hs hW =>
  make_any n W _ t lo hi _ base _ rb D g cap ra rcap L (h.of_cells hc) hs hrb hW.toM hw.sane (by omega) hpp hpl64 o1
 have hcl : cnt takenB D.S <= 4096 := Nat.le_trans (List.length_filter_le _ _) hw.fits.len
 have hlen := hw.fits.len
 generalize (growD n t (placeE D wh a).1 D).1 = E at *
 generalize (growD n t (placeE D wh a).1 D).2 = H at *
 generalize (ups D (placeE D wh a).1).length = ul at *
 generalize (placeE D wh a).1 = p at *
 generalize htT n t = ht at *
 generalize ndT n t = nd at *
 generalize cnt takenB D.S = ct at *
 have hdb : ¬ (64 : Int) < (ul : Int) - 1 + 1 + (ht : Int) := by omega
 have hmb : ¬ (4096 : Int) < (ct : Int) + (nd : Int) := by omega
 have hrbl := hd.rbl
 clear hd hv hvx h hw hpl hcz hpz o1 o2 hlv0 hpp hz f1 f2 f3 f4 hgn k1 k2 hpN hlE hppE haN hiN hhN
 go_enter Tryz.func31, Tryz.ntmps31
 go_wp2_with fail
 refine (hpc).mono ?_
 rintro e w1 ⟨rfl, hb⟩
 have HB1 : Hid (Below w.heap.size w w1) := HBX.out.trans (hb.mono HBX.out.size)
 have HC1 : Hid (IsCells w1 w.heap.size #[.int .i64 tk, .string nm, .slice aa al ac, .string tx, .slice ka kl kc]) := HBC.out.of_block (hb.block w.heap.size HBC.out.lt)
 clear hb
 have hck1 := hck w1 HB1.out
 clear hck hpc
 have hx0 := HC1.out.cell 0
 have hx1 := HC1.out.cell 1
 have hx2 := HC1.out.cell 2
 have hx3 := HC1.out.cell 3
 have hx4 := HC1.out.cell 4
 simp at hx0 hx1 hx2 hx3 hx4
 go_wp2_with fail
 refine (hck1).mono ?_
 rintro e w2 ⟨rfl, hb⟩
 have HB2 : Hid (Below w.heap.size w w2) := HB1.out.trans (hb.mono HB1.out.size)
 have HC2 : Hid (IsCells w2 w.heap.size #[.int .i64 tk, .string nm, .slice aa al ac, .string tx, .slice ka kl kc]) := HC1.out.of_block (hb.block w.heap.size HC1.out.lt)
 clear hb
 clear hck1
 clear hx0 hx1 hx2 hx3 hx4
 have hx0 := HC2.out.cell 0
 have hx1 := HC2.out.cell 1
 have hx2 := HC2.out.cell 2
 have hx3 := HC2.out.cell 3
 have hx4 := HC2.out.cell 4
 simp at hx0 hx1 hx2 hx3 hx4
 have hme2 := hme w2 HB2.out
 clear hme
 go_wp2_with fail
 refine (hme2).mono ?_
 rintro e w3 ⟨rfl, hb⟩
 have HB3 : Hid (Below w.heap.size w w3) := HB2.out.trans (hb.mono HB2.out.size)
 have HC3 : Hid (IsCells w3 w.heap.size #[.int .i64 tk, .string nm, .slice aa al ac, .string tx, .slice ka kl kc]) := HC2.out.of_block (hb.block w.heap.size HC2.out.lt)
 clear hb
 clear hme2
 clear hx0 hx1 hx2 hx3 hx4
 have hle3 := hle w3 HB3.out
 clear hle
 go_wp2_with fail
 refine (hle3).mono ?_
 rintro e w4 ⟨rfl, hb⟩
 have HB4 : Hid (Below w.heap.size w w4) := HB3.out.trans (hb.mono HB3.out.size)
 have HC4 : Hid (IsCells w4 w.heap.size #[.int .i64 tk, .string nm, .slice aa al ac, .string tx, .slice ka kl kc]) := HC3.out.of_block (hb.block w.heap.size HC3.out.lt)
 clear hb
 clear hle3
 have htk4 := htk w4 HB4.out
 clear htk
 go_wp2_with fail
 refine htk4.mono ?_
 rintro e w5 ⟨rfl, rfl⟩
 clear htk4
 have hdd := HD.out.below HB4.out
 obtain ⟨sa, scap, ra, rcap, hh1, hsc, hrc, hsl, hra⟩ := id hdd.head
 obtain ⟨L, hL, hv, hnews⟩ := hsl.row
 have hz0 : w5.cell? ⟨rb, 0, none⟩ = some (.slice sa D.S.length scap) := by rw [hh1.cell]; rfl
 have HDD : Hid (RDoc w5 Q rb D) := hdd
 have HH : Hid (IsCells w5 rb #[.slice sa D.S.length scap, .slice ra D.roots.length rcap]) := hh1
 have HRA : Hid (HandsAt w5 Q ra D.roots) := hra
 have HV : Hid (∀ (i : Nat) (s : Sl) (p : Value × Value), D.S[i]? = some s -> L[i]? = some p -> SlotVals w5 Q s p) := hv
 have HL : Hid (L.length = D.S.length) := hL
 have HN : Hid (∀ j u, (rowOf D.S L)[j]? = some u -> ∃ ad, sa = some ad /\ (w5.alloc (.cells #[] 90)).cell? (ad.add j) = some u) := fun j u hu => by
  obtain ⟨ad, e1, e2⟩ := hnews j u hu
  refine ⟨ad, e1, ?_⟩
  rw [World.cell?_of_block (w := w5) (Below.heap_alloc _ _ _ (World.block_lt_of_cell? w5 _ e2))]
  exact e2
 clear hdd hh1 hra hv hL hnews hsl
 have hs5 := HB4.out.size
 have hrb1 : rb < w5.heap.size := by omega
 have hwl5 : w.heap.size < w5.heap.size := HC4.out.lt
 have hnr : ¬ w.heap.size = rb := by omega
 have hnr2 : ¬ rb = w.heap.size := by omega
 have tok : True := trivial
 go_wp2_with (at_builtin; have _t := tok; refine wpList_app rfl _ _ rfl Tryz.underlying55 info75 rfl (by decide) w5.heap.size (.slice (some ⟨w5.heap.size, 0, none⟩) 0 0) 0 [] rfl (own_new w5 90 8) sa D.S.length scap (rowOf D.S L) rfl (rowOf_len HL.out) HN.out (rows_vals HV.out) (by unfold maxLen; omega) (by omega) (by simp) ?_; intro v1 w7 hown1 hg1 hnil1 hat1; clear tok _t; rw [Nat.zero_add, List.nil_append] at hown1; have hb7 : Below w5.heap.size w5 w7 := ((below_new' w5 _).grown hg1 (by simp) (fun k hk => by simp only [Value.ownBlock, Option.some.injEq] at hk; omega)); obtain ⟨g, cap2, hv1, hrds, htn, hhd⟩ := HDD.out.copied HH.out hrc HRA.out HL.out HV.out (below_new' w5 _) (fun k hk => by simp only [Value.ownBlock, Option.some.injEq] at hk; omega) (by simp) hown1 hg1 hnil1; subst hv1; have hc0 := hhd.cell; have hf0 := hhd.frozen; have HRS : Hid (RdS (w7.setCell ⟨rb, 0, none⟩ (.slice (some ⟨g, 0, none⟩) D.S.length cap2)) w5.heap.size Q rb D g cap2 ra rcap L) := hrds; have HT : Hid (Turn (fun b => b = rb) w5 (w7.setCell ⟨rb, 0, none⟩ (.slice (some ⟨g, 0, none⟩) D.S.length cap2))) := htn; have hgb := hrds.gb; have HC7 : Hid (IsCells w7 w.heap.size #[.int .i64 tk, .string nm, .slice aa al ac, .string tx, .slice ka kl kc]) := (HC4.out.of_block (hb7.block _ hwl5)); have hx0 := HC7.out.cell 0; have hx1 := HC7.out.cell 1; have hx2 := HC7.out.cell 2; have hx3 := HC7.out.cell 3; have hx4 := HC7.out.cell 4; simp at hx0 hx1 hx2 hx3 hx4; have hw7l : w.heap.size < w7.heap.size := HC7.out.lt; have hrw7 : rb < w7.heap.size := Nat.lt_of_lt_of_le hrb1 hb7.size; clear hrds htn hown1 hg1 hnil1 hat1 hhd hb7)
 have hmk := HMK.out _ _ _ _ _ _ _ _ (.inr trivial) (fun b o h1 h2 => by
  have e1 : (w7.setCell ⟨rb, 0, none⟩ (.slice (some ⟨g, 0, none⟩) D.S.length cap2)).cell? ⟨b, o, none⟩ = w5.cell? ⟨b, o, none⟩ := World.cell?_of_block (w := w5) (a := ⟨b, o, none⟩) (HT.out.block b (by omega) (by omega))
  exact e1.trans (HB4.out.cell (p := ⟨b, o, none⟩) (show b < w.heap.size by omega))) (by have := HT.out.size; omega) HRS.out
 refine hmk.mono ?_
 rintro e w8 ⟨rfl, Q8, g8, L8, hm8⟩
 obtain ⟨cap8, hd8⟩ := hm8.doc
 have hput := HPUT.out _ _ _ _ _ _ _ _ hd8.toS
 have hsT := HT.out.size
 have hs8 := hm8.turn.size
 have HT8 : Hid (Turn (fun b => b = rb) w5 w8) := ((HT.out.mono (B := fun b => b = rb \/ b = g) (fun _ _ h => .inl h)).trans hm8.turn).mono (fun b hb h => by
  rcases h with h | h
  ·exact h
  ·omega)
 have HQ8 : Hid (∀ b, (∃ k, Q8 k b) -> Q b \/ w.heap.size <= b) := fun b ⟨k, hb⟩ => by
  rcases hm8.from' k b hb with h | h
  ·exact .inl h
  ·exact .inr (by omega)
 have hg8 : w5.heap.size <= g8 := by
  rcases hm8.gn with e | e
  ·omega
  ·omega
 clear hmk hm8 hd8 HMK HPUT HRS HT hc0 hf0 HN HL HV HRA HH HDD hz0 hrc hsc hx0 hx1 hx2 hx3 hx4
 go_wp2_with fail
 refine hput.mono ?_
 rintro e w9 ⟨rfl, ⟨Q9, ra9, rcap9, L9, hr9, hq9⟩, ht9⟩
 have HT9 : Hid (Turn (fun b => b = rb) w5 w9) := ((HT8.out.mono (B := fun b => b = rb \/ b = g8) (fun _ _ h => .inl h)).trans ht9).mono (fun b hb h => by
  rcases h with h | h
  ·exact h
  ·omega)
 have HQ9 : Hid (∀ b, Q9 b -> Q b \/ w.heap.size <= b) := fun b hb => by
  rcases hq9 b hb with h | h
  ·exact HQ8.out b h
  ·exact .inr (by omega)
 have HR9 : Hid (RdS w9 w5.heap.size Q9 rb (putD E H p wh a) g8 _ ra9 rcap9 L9) := hr9
 clear hr9 hq9 ht9 hput
 go_wp2
 go_ret2
 exact ⟨rfl, (HR9.out.close (z := 0) HB4.out HT9.out HQ9.out HD.out.lt HD.out.nrb hrbl).2⟩
theorem rins_any (n : Nat) (w : World) (v : Array Value) (t : T n) (lo hi : Nat) (Q : Nat -> Prop) (rb a : Nat) (wh : Int) (D : Dc) (h : TreeAt w lo hi n v t) (hsz : hi <= w.heap.size) (hrb : hi <= rb) (hd : RDoc w Q rb D) (hw : WF D) (hal : a < 18446744073709551616) :
  Calls Tryz.prog 31 #[.pointer (some ⟨rb, 0, none⟩), .int .i64 wh, .int .u64 (a : Int), .agg v] w (RInsP w Q rb (insD D wh a n t).1 (insD D wh a n t).2 (insE D wh a n t)) := by
 have hbad : insE D wh a n t ≠ 0 -> insD D wh a n t = (D, 0) := fun h => by unfold insD; rw [if_neg h]
 cases hpl : isPlaceB wh a with
 | false =>
  have e : insE D wh a n t = 1 := by unfold insE; rw [if_pos hpl]
  rw [hbad (by rw [e]; decide), e]
  exact rins_arg n w v t lo hi Q rb a wh D h hsz hrb hd hw hal hpl
 | true =>
  by_cases hcz : (chk n t 1 0).2 = 0
  ·by_cases hpz : (placeE D wh a).2 = 0
   ·by_cases hdp : 64 < (ups D (placeE D wh a).1).length + htT n t
    ·have e : insE D wh a n t = 32 := by unfold insE; rw [if_neg (by simp [hpl]), if_neg (by simp [hcz]), if_neg (by simp [hpz]), if_pos hdp]
     rw [hbad (by rw [e]; decide), e]
     exact rins_deep n w v t lo hi Q rb a wh D h hsz hrb hd hw hal hpl hcz hpz hdp
    ·by_cases hmn : 4096 < cnt takenB D.S + ndT n t
     ·have e : insE D wh a n t = 33 := by unfold insE; rw [if_neg (by simp [hpl]), if_neg (by simp [hcz]), if_neg (by simp [hpz]), if_neg hdp, if_pos hmn]
      rw [hbad (by rw [e]; decide), e]
      exact rins_many n w v t lo hi Q rb a wh D h hsz hrb hd hw hal hpl hcz hpz (by omega) hmn
     ·have e : insE D wh a n t = 0 := by unfold insE; rw [if_neg (by simp [hpl]), if_neg (by simp [hcz]), if_neg (by simp [hpz]), if_neg hdp, if_neg hmn]
      have ei : insD D wh a n t = (putD (growD n t (placeE D wh a).1 D).1 (growD n t (placeE D wh a).1 D).2 (placeE D wh a).1 wh a, (growD n t (placeE D wh a).1 D).2) := by unfold insD; rw [if_pos e]
      rw [ei, e]
      exact rins_ok n w v t lo hi Q rb a wh D h hsz hrb hd hw hal hpl hcz hpz (by omega) (by omega)
   ·have e : insE D wh a n t = (placeE D wh a).2 := by unfold insE; rw [if_neg (by simp [hpl]), if_neg (by simp [hcz]), if_pos hpz]
    rw [hbad (by rw [e]; exact hpz), e]
    exact rins_place n w v t lo hi Q rb a wh D h hsz hrb hd hw hal hpl hcz hpz
  ·have e : insE D wh a n t = (chk n t 1 0).2 := by unfold insE; rw [if_neg (by simp [hpl]), if_pos hcz]
   rw [hbad (by rw [e]; exact hcz), e]
   exact rins_check n w v t lo hi Q rb a wh D h hsz hrb hd hw hal hpl hcz
end Go.Proofs.YtmapmkogjhinmaaGreat
