/- Does: SetText, SetAttr, DropAttr. -/
import Derived.Test.YtjkgjckkglfokaaGreatU22
import Derived.Test.YtjkgjckkglfokaaGreatU15
import Derived.Test.YtjkgjckkglfokaaGreatU01
import Derived.Test.YtjkgjckkglfokaaGreatU21
import Derived.Test.YtjkgjckkglfokaaGreatU19
namespace Go.Proofs.YtjkgjckkglfokaaGreat.Gr
open Go.RowKit
set_option linter.unusedVariables false
set_option linter.unusedSimpArgs false
set_option maxRecDepth 100000
set_option maxHeartbeats 4000000
theorem does_text (w : World) (ro : Nat -> Nat) (db : Nat) (Q : Nat -> Prop) (rb : Nat) (D : Dc) (hbo : Bo w ro db Q rb D) (wh : Int) (how : Bool) (n a : Nat) (nm vl : ByteArray) (xk : Int) (xn : ByteArray) (xa : Option Addr) (xal xac : Nat) (xt : ByteArray) (xka : Option Addr) (xkl xkc : Nat) (hn : n < 18446744073709551616) (ha : a < 18446744073709551616) :
  Calls Tryz.prog 15 #[.iface 34 (.pointer (some ⟨db, 0, none⟩)), .pointer (some ⟨rb, 0, none⟩), .agg (actv 4 wh how n a nm vl xk xn xa xal xac xt xka xkl xkc)] w (DoP w ro db Q rb) := by
 have hme := meant_any (w.alloc (.cells (actv 4 wh how n a nm vl xk xn xa xal xac xt xka xkl xkc) 33)) _ rb D (hbo.r.view.below (below_new' w _)) hbo.wf 4 wh how n a nm vl xk xn xa xal xac xt xka xkl xkc hn ha
 have HX : Hid (IsCells (w.alloc (.cells (actv 4 wh how n a nm vl xk xn xa xal xac xt xka xkl xkc) 33)) w.heap.size (actv 4 wh how n a nm vl xk xn xa xal xac xt xka xkl xkc)) := isCells_new _ _ _
 have HBO : Hid (Bo w ro db Q rb D) := hbo
 clear hbo
 unfold actv at HX hme ⊢
 go_enter Tryz.func15, Tryz.ntmps15
 go_upto_region 1 with fail
 go_cut [6] (fun p wx => p = .bool false /\ ∃ (how' : Bool) (n' a' : Nat), n' < 18446744073709551616 /\ a' < 18446744073709551616 /\ Hid (Turn (fun _ => False) w wx) /\ Hid (IsCells wx w.heap.size #[.int .i64 4, .int .i64 wh, .bool how', .int .u64 (n' : Int), .int .u64 (a' : Int), .string nm, .string vl, .int .i64 xk, .string xn, .slice xa xal xac, .string xt, .slice xka xkl xkc]))
 case first =>
  go_wp2_with fail
  refine hme.mono ?_
  rintro e w1 ⟨how', n', a', hn', ha', rfl, hb1⟩
  unfold actv
  have HX1 : Hid (IsCells w1 w.heap.size _) := HX.out.of_block (hb1.block _ HX.out.lt)
  have hc := HX1.out.cell
  have hf := HX1.out.frozen
  have hl := HX1.out.lt
  have HT : Hid (Turn (fun _ => False) w w1) := ((Turn.refl _ _).alloc _).then hb1 (by simp)
  clear hme hb1
  go_wp2_with fail
  go_meet
  exact ⟨rfl, how', n', a', hn', ha', turn12n HT.out (Nat.le_refl _) _ _ _ _ _ _ _ _ _ _ _ _, set12 HX1.out _ _ _ _ _ _ _ _ _ _ _ _⟩
 case rest =>
  obtain ⟨rfl, how', n', a', hn', ha', HT, HX1⟩ := hcut
  clear HX hme
  have HB1 : Hid (Bo wc ro db Q rb D) := HBO.out.turn HT.out (fun _ _ h => h) (fun _ _ h => h) (fun h => h)
  have hc := HX1.out.cell
  have hl := HX1.out.lt
  have hm : ∀ w : World, (method 303 34 (.pointer (some ⟨db, 0, none⟩)) "SetText").run Tryz.prog w = .ok (162, .pointer (some ⟨db, 0, none⟩)) w := fun _ => by kernel_rfl
  have HBd : Hid (Bo wc.drew ro db Q rb D) := HB1.out.turn (A := fun _ => False) (Turn.refl _ _).drew (fun _ _ h => h) (fun _ _ h => h) (fun h => h)
  have hcp := psetText_any wc.drew ro db D n' vl HBd.out.p HBd.out.wf.fits hn'
  have hcr : ∀ W, RDoc W Q rb D -> Calls Tryz.prog 42 #[.pointer (some ⟨rb, 0, none⟩), .int .u64 (n' : Int), .string vl] W (RPost W Q rb (setTextD D n' vl).1 (setTextD D n' vl).2) := fun W h => rsetText_any W Q rb D n' vl h HB1.out.wf.fits hn'
  have HWF : Hid (WF (setTextD D n' vl).1) := HB1.out.wf.setText n' vl
  have hcd3 : wc.drew.cell? ⟨w.heap.size, 3, none⟩ = some (.int .u64 (n' : Int)) := hc 3
  have hcd6 : wc.drew.cell? ⟨w.heap.size, 6, none⟩ = some (.string vl) := hc 6
  have HNR : Hid (∀ b, ro b ≠ 0 -> b < w.heap.size) := fun b hb => PdocLt HBO.out.p b hb
  have HTd : Hid (Turn (fun _ => False) w wc.drew) := HT.out.drew
  have hrl := HBO.out.r.rbl
  have tok0 : True := trivial
  have tok1 : True := trivial
  go_upto_region 16 with fail
  go_region_held3 (fun W => W.cell? ⟨w.heap.size, 3, none⟩ = some (.int .u64 (n' : Int)) /\ W.cell? ⟨w.heap.size, 6, none⟩ = some (.string vl)) (first | exact ⟨hcd3, hcd6⟩ | exact ⟨hcq3, hcq6⟩ | exact ⟨hcs3, hcs6⟩ | go_keep)
   (first
    | (go_at_call 162; have _t := tok0; (with_reducible refine hcp.mono ?_); rintro e w2 ⟨rfl, ht2, ro2, hp2, hn2⟩; have HH := HBd.out.half ht2 hp2 hn2; have HHh : Hid (Bh wc.drew w2 ro db Q rb D (setTextD D n' vl).1 ro2) := HH; have hcq3 : w2.cell? ⟨w.heap.size, 3, none⟩ = some (.int .u64 (n' : Int)) := (HH.cell hl HNR.out 3).trans hcd3; have hcq6 : w2.cell? ⟨w.heap.size, 6, none⟩ = some (.string vl) := (HH.cell hl HNR.out 6).trans hcd6; have hcr2 := hcr w2 HH.r; have hl2 : w.heap.size < w2.heap.size := Nat.lt_of_lt_of_le hl HH.turn.size; clear tok0 _t HH ht2 hp2 hn2 hcp)
    | (go_at_call 42; have _t := tok1; (with_reducible refine hcr2.mono ?_); rintro e w3 ⟨rfl, ht3, hr3⟩; have HD3 : Hid (DoP w ro db Q rb (.returned (.bool true)) w3) := (HHh.out.whole HWF.out ht3 hr3).from HTd.out; have hcs3 := (turn_cellr ht3 hl2 hrl 3).trans hcq3; have hcs6 := (turn_cellr ht3 hl2 hrl 6).trans hcq6; clear tok1 _t hcr2 ht3 hr3))
  go_wp2
  go_ret
  exact HD3.out
theorem does_attr (w : World) (ro : Nat -> Nat) (db : Nat) (Q : Nat -> Prop) (rb : Nat) (D : Dc) (hbo : Bo w ro db Q rb D) (wh : Int) (how : Bool) (n a : Nat) (nm vl : ByteArray) (xk : Int) (xn : ByteArray) (xa : Option Addr) (xal xac : Nat) (xt : ByteArray) (xka : Option Addr) (xkl xkc : Nat) (hn : n < 18446744073709551616) (ha : a < 18446744073709551616) :
  Calls Tryz.prog 15 #[.iface 34 (.pointer (some ⟨db, 0, none⟩)), .pointer (some ⟨rb, 0, none⟩), .agg (actv 5 wh how n a nm vl xk xn xa xal xac xt xka xkl xkc)] w (DoP w ro db Q rb) := by
 have hme := meant_any (w.alloc (.cells (actv 5 wh how n a nm vl xk xn xa xal xac xt xka xkl xkc) 33)) _ rb D (hbo.r.view.below (below_new' w _)) hbo.wf 5 wh how n a nm vl xk xn xa xal xac xt xka xkl xkc hn ha
 have HX : Hid (IsCells (w.alloc (.cells (actv 5 wh how n a nm vl xk xn xa xal xac xt xka xkl xkc) 33)) w.heap.size (actv 5 wh how n a nm vl xk xn xa xal xac xt xka xkl xkc)) := isCells_new _ _ _
 have HBO : Hid (Bo w ro db Q rb D) := hbo
 clear hbo
 unfold actv at HX hme ⊢
 go_enter Tryz.func15, Tryz.ntmps15
 go_upto_region 1 with fail
 go_cut [6] (fun p wx => p = .bool false /\ ∃ (how' : Bool) (n' a' : Nat), n' < 18446744073709551616 /\ a' < 18446744073709551616 /\ Hid (Turn (fun _ => False) w wx) /\ Hid (IsCells wx w.heap.size #[.int .i64 5, .int .i64 wh, .bool how', .int .u64 (n' : Int), .int .u64 (a' : Int), .string nm, .string vl, .int .i64 xk, .string xn, .slice xa xal xac, .string xt, .slice xka xkl xkc]))
 case first =>
  go_wp2_with fail
  refine hme.mono ?_
  rintro e w1 ⟨how', n', a', hn', ha', rfl, hb1⟩
  unfold actv
  have HX1 : Hid (IsCells w1 w.heap.size _) := HX.out.of_block (hb1.block _ HX.out.lt)
  have hc := HX1.out.cell
  have hf := HX1.out.frozen
  have hl := HX1.out.lt
  have HT : Hid (Turn (fun _ => False) w w1) := ((Turn.refl _ _).alloc _).then hb1 (by simp)
  clear hme hb1
  go_wp2_with fail
  go_meet
  exact ⟨rfl, how', n', a', hn', ha', turn12n HT.out (Nat.le_refl _) _ _ _ _ _ _ _ _ _ _ _ _, set12 HX1.out _ _ _ _ _ _ _ _ _ _ _ _⟩
 case rest =>
  obtain ⟨rfl, how', n', a', hn', ha', HT, HX1⟩ := hcut
  clear HX hme
  have HB1 : Hid (Bo wc ro db Q rb D) := HBO.out.turn HT.out (fun _ _ h => h) (fun _ _ h => h) (fun h => h)
  have hc := HX1.out.cell
  have hl := HX1.out.lt
  have hm : ∀ w : World, (method 303 34 (.pointer (some ⟨db, 0, none⟩)) "SetAttr").run Tryz.prog w = .ok (160, .pointer (some ⟨db, 0, none⟩)) w := fun _ => by kernel_rfl
  have HBd : Hid (Bo wc.drew ro db Q rb D) := HB1.out.turn (A := fun _ => False) (Turn.refl _ _).drew (fun _ _ h => h) (fun _ _ h => h) (fun h => h)
  have hcp := psetA_any wc.drew ro db D n' nm vl HBd.out.p HBd.out.wf hn'
  have hcr : ∀ W, RDoc W Q rb D -> Calls Tryz.prog 43 #[.pointer (some ⟨rb, 0, none⟩), .int .u64 (n' : Int), .string nm, .string vl] W (RPost W Q rb (setAttrD D n' nm vl).1 (setAttrD D n' nm vl).2) := fun W h => rsetA_any W Q rb D n' nm vl h HB1.out.wf hn'
  have HWF : Hid (WF (setAttrD D n' nm vl).1) := HB1.out.wf.setAttr n' nm vl
  have hcd3 : wc.drew.cell? ⟨w.heap.size, 3, none⟩ = some (.int .u64 (n' : Int)) := hc 3
  have hcd5 : wc.drew.cell? ⟨w.heap.size, 5, none⟩ = some (.string nm) := hc 5
  have hcd6 : wc.drew.cell? ⟨w.heap.size, 6, none⟩ = some (.string vl) := hc 6
  have HNR : Hid (∀ b, ro b ≠ 0 -> b < w.heap.size) := fun b hb => PdocLt HBO.out.p b hb
  have HTd : Hid (Turn (fun _ => False) w wc.drew) := HT.out.drew
  have hrl := HBO.out.r.rbl
  have tok0 : True := trivial
  have tok1 : True := trivial
  go_upto_region 18 with fail
  go_region_held3 (fun W => W.cell? ⟨w.heap.size, 3, none⟩ = some (.int .u64 (n' : Int)) /\ W.cell? ⟨w.heap.size, 5, none⟩ = some (.string nm) /\ W.cell? ⟨w.heap.size, 6, none⟩ = some (.string vl)) (first | exact ⟨hcd3, hcd5, hcd6⟩ | exact ⟨hcq3, hcq5, hcq6⟩ | exact ⟨hcs3, hcs5, hcs6⟩ | go_keep)
   (first
    | (go_at_call 160; have _t := tok0; (with_reducible refine hcp.mono ?_); rintro e w2 ⟨rfl, ht2, ro2, hp2, hn2⟩; have HH := HBd.out.half ht2 hp2 hn2; have HHh : Hid (Bh wc.drew w2 ro db Q rb D (setAttrD D n' nm vl).1 ro2) := HH; have hcq3 : w2.cell? ⟨w.heap.size, 3, none⟩ = some (.int .u64 (n' : Int)) := (HH.cell hl HNR.out 3).trans hcd3; have hcq5 : w2.cell? ⟨w.heap.size, 5, none⟩ = some (.string nm) := (HH.cell hl HNR.out 5).trans hcd5; have hcq6 : w2.cell? ⟨w.heap.size, 6, none⟩ = some (.string vl) := (HH.cell hl HNR.out 6).trans hcd6; have hcr2 := hcr w2 HH.r; have hl2 : w.heap.size < w2.heap.size := Nat.lt_of_lt_of_le hl HH.turn.size; clear tok0 _t HH ht2 hp2 hn2 hcp)
    | (go_at_call 43; have _t := tok1; (with_reducible refine hcr2.mono ?_); rintro e w3 ⟨rfl, ht3, hr3⟩; have HD3 : Hid (DoP w ro db Q rb (.returned (.bool true)) w3) := (HHh.out.whole HWF.out ht3 hr3).from HTd.out; have hcs3 := (turn_cellr ht3 hl2 hrl 3).trans hcq3; have hcs5 := (turn_cellr ht3 hl2 hrl 5).trans hcq5; have hcs6 := (turn_cellr ht3 hl2 hrl 6).trans hcq6; clear tok1 _t hcr2 ht3 hr3))
  go_wp2
  go_ret
  exact HD3.out
theorem does_drop (w : World) (ro : Nat -> Nat) (db : Nat) (Q : Nat -> Prop) (rb : Nat) (D : Dc) (hbo : Bo w ro db Q rb D) (wh : Int) (how : Bool) (n a : Nat) (nm vl : ByteArray) (xk : Int) (xn : ByteArray) (xa : Option Addr) (xal xac : Nat) (xt : ByteArray) (xka : Option Addr) (xkl xkc : Nat) (hn : n < 18446744073709551616) (ha : a < 18446744073709551616) :
  Calls Tryz.prog 15 #[.iface 34 (.pointer (some ⟨db, 0, none⟩)), .pointer (some ⟨rb, 0, none⟩), .agg (actv 6 wh how n a nm vl xk xn xa xal xac xt xka xkl xkc)] w (DoP w ro db Q rb) := by
 have hme := meant_any (w.alloc (.cells (actv 6 wh how n a nm vl xk xn xa xal xac xt xka xkl xkc) 33)) _ rb D (hbo.r.view.below (below_new' w _)) hbo.wf 6 wh how n a nm vl xk xn xa xal xac xt xka xkl xkc hn ha
 have HX : Hid (IsCells (w.alloc (.cells (actv 6 wh how n a nm vl xk xn xa xal xac xt xka xkl xkc) 33)) w.heap.size (actv 6 wh how n a nm vl xk xn xa xal xac xt xka xkl xkc)) := isCells_new _ _ _
 have HBO : Hid (Bo w ro db Q rb D) := hbo
 clear hbo
 unfold actv at HX hme ⊢
 go_enter Tryz.func15, Tryz.ntmps15
 go_upto_region 1 with fail
 go_cut [6] (fun p wx => p = .bool false /\ ∃ (how' : Bool) (n' a' : Nat), n' < 18446744073709551616 /\ a' < 18446744073709551616 /\ Hid (Turn (fun _ => False) w wx) /\ Hid (IsCells wx w.heap.size #[.int .i64 6, .int .i64 wh, .bool how', .int .u64 (n' : Int), .int .u64 (a' : Int), .string nm, .string vl, .int .i64 xk, .string xn, .slice xa xal xac, .string xt, .slice xka xkl xkc]))
 case first =>
  go_wp2_with fail
  refine hme.mono ?_
  rintro e w1 ⟨how', n', a', hn', ha', rfl, hb1⟩
  unfold actv
  have HX1 : Hid (IsCells w1 w.heap.size _) := HX.out.of_block (hb1.block _ HX.out.lt)
  have hc := HX1.out.cell
  have hf := HX1.out.frozen
  have hl := HX1.out.lt
  have HT : Hid (Turn (fun _ => False) w w1) := ((Turn.refl _ _).alloc _).then hb1 (by simp)
  clear hme hb1
  go_wp2_with fail
  go_meet
  exact ⟨rfl, how', n', a', hn', ha', turn12n HT.out (Nat.le_refl _) _ _ _ _ _ _ _ _ _ _ _ _, set12 HX1.out _ _ _ _ _ _ _ _ _ _ _ _⟩
 case rest =>
  obtain ⟨rfl, how', n', a', hn', ha', HT, HX1⟩ := hcut
  clear HX hme
  have HB1 : Hid (Bo wc ro db Q rb D) := HBO.out.turn HT.out (fun _ _ h => h) (fun _ _ h => h) (fun h => h)
  have hc := HX1.out.cell
  have hl := HX1.out.lt
  have hm : ∀ w : World, (method 303 34 (.pointer (some ⟨db, 0, none⟩)) "DropAttr").run Tryz.prog w = .ok (157, .pointer (some ⟨db, 0, none⟩)) w := fun _ => by kernel_rfl
  have HBd : Hid (Bo wc.drew ro db Q rb D) := HB1.out.turn (A := fun _ => False) (Turn.refl _ _).drew (fun _ _ h => h) (fun _ _ h => h) (fun h => h)
  have hcp := pdropA_any wc.drew ro db D n' nm HBd.out.p HBd.out.wf hn'
  have hcr : ∀ W, RDoc W Q rb D -> Calls Tryz.prog 44 #[.pointer (some ⟨rb, 0, none⟩), .int .u64 (n' : Int), .string nm] W (RPost W Q rb (dropD D n' nm).1 (dropD D n' nm).2) := fun W h => rdrop_any W Q rb D n' nm h HB1.out.wf hn'
  have HWF : Hid (WF (dropD D n' nm).1) := HB1.out.wf.dropAttr n' nm
  have hcd3 : wc.drew.cell? ⟨w.heap.size, 3, none⟩ = some (.int .u64 (n' : Int)) := hc 3
  have hcd5 : wc.drew.cell? ⟨w.heap.size, 5, none⟩ = some (.string nm) := hc 5
  have HNR : Hid (∀ b, ro b ≠ 0 -> b < w.heap.size) := fun b hb => PdocLt HBO.out.p b hb
  have HTd : Hid (Turn (fun _ => False) w wc.drew) := HT.out.drew
  have hrl := HBO.out.r.rbl
  have tok0 : True := trivial
  have tok1 : True := trivial
  go_upto_region 20 with fail
  go_region_held3 (fun W => W.cell? ⟨w.heap.size, 3, none⟩ = some (.int .u64 (n' : Int)) /\ W.cell? ⟨w.heap.size, 5, none⟩ = some (.string nm)) (first | exact ⟨hcd3, hcd5⟩ | exact ⟨hcq3, hcq5⟩ | exact ⟨hcs3, hcs5⟩ | go_keep)
   (first
    | (go_at_call 157; have _t := tok0; (with_reducible refine hcp.mono ?_); rintro e w2 ⟨rfl, ht2, ro2, hp2, hn2⟩; have HH := HBd.out.half ht2 hp2 hn2; have HHh : Hid (Bh wc.drew w2 ro db Q rb D (dropD D n' nm).1 ro2) := HH; have hcq3 : w2.cell? ⟨w.heap.size, 3, none⟩ = some (.int .u64 (n' : Int)) := (HH.cell hl HNR.out 3).trans hcd3; have hcq5 : w2.cell? ⟨w.heap.size, 5, none⟩ = some (.string nm) := (HH.cell hl HNR.out 5).trans hcd5; have hcr2 := hcr w2 HH.r; have hl2 : w.heap.size < w2.heap.size := Nat.lt_of_lt_of_le hl HH.turn.size; clear tok0 _t HH ht2 hp2 hn2 hcp)
    | (go_at_call 44; have _t := tok1; (with_reducible refine hcr2.mono ?_); rintro e w3 ⟨rfl, ht3, hr3⟩; have HD3 : Hid (DoP w ro db Q rb (.returned (.bool true)) w3) := (HHh.out.whole HWF.out ht3 hr3).from HTd.out; have hcs3 := (turn_cellr ht3 hl2 hrl 3).trans hcq3; have hcs5 := (turn_cellr ht3 hl2 hrl 5).trans hcq5; clear tok1 _t hcr2 ht3 hr3))
  go_wp2
  go_ret
  exact HD3.out
end Go.Proofs.YtjkgjckkglfokaaGreat.Gr
/- A tree in memory of its own that may be stored into: what Copied makes. -/
namespace Go.Proofs.YtjkgjckkglfokaaGreat.Gr
open Go.RowKit
set_option linter.unusedVariables false
set_option linter.unusedSimpArgs false
set_option maxRecDepth 100000
set_option maxHeartbeats 1000000
def CowP (w : World) (n : Nat) (t : T n) (e : Ending) (w' : World) : Prop :=
 ∃ v, e = .returned (.agg v) /\ TreeR w' (Fw w' w.heap.size) n v t /\ Below w.heap.size w w'
def CowAll (n : Nat) : Prop := ∀ (w : World) (v : Array Value) (t : T n) (lo hi : Nat), TreeAt w lo hi n v t -> hi <= w.heap.size -> Calls Tryz.prog 36 #[.agg v] w (CowP w n t)
structure CowSt (w wr : World) (n : Nat) (t : T (n + 1)) (a1 : Option Addr) (cap1 : Nat) (ka : Option Addr) (kc : Nat) (i : Nat) (la : Option Addr) (lcap : Nat) (xs : List Value) : Prop where
 box : IsCells wr w.heap.size #[.int .i64 t.kind, .string t.name, .slice a1 t.attrs.length cap1, .string t.text, .slice ka t.kids.length kc]
 res : IsCells wr (w.heap.size + 1) #[.int .i64 0, .string ⟨#[]⟩, .slice none 0 0, .string ⟨#[]⟩, .slice none 0 0]
 attrs : AttrsR wr (fun b => Fw wr (w.heap.size + 2) b /\ (Value.slice la i lcap).ownBlock ≠ some b) a1 t.attrs
 own : wr.ownsRow (w.heap.size + 2) 31 5 (.slice la i lcap) i xs
 kids : CopiesAt wr (fun b => Fw wr (w.heap.size + 2) b /\ (Value.slice la i lcap).ownBlock ≠ some b) n xs (t.kids.take i)
 bel : Below w.heap.size w wr
theorem CowSt.step {w wr w2 w3 : World} {n : Nat} {t : T (n + 1)} {a1 : Option Addr} {cap1 : Nat} {ka : Option Addr} {kc i : Nat} {la : Option Addr} {lcap : Nat} {xs : List Value} (h : CowSt w wr n t a1 cap1 ka kc i la lcap xs) {k : T n} (hk : t.kids[i]? = some k)
  {u : Array Value} (hu : TreeR w2 (Fw w2 wr.heap.size) n u k) (hb : Below wr.heap.size wr w2) {o : Obj} {la' : Option Addr} {lcap' : Nat} (hown : w3.ownsRow (w.heap.size + 2) 31 5 (.slice la' (i + 1) lcap') (i + 1) (xs ++ u.toList))
  (hg : (w2.alloc o).grownBy w3 (Value.slice la i lcap).ownBlock) (hat : (Value.slice la' (i + 1) lcap').ownBlock = (Value.slice la i lcap).ownBlock \/ (Value.slice la' (i + 1) lcap').ownBlock = some (w2.heap.size + 1)) :
  CowSt w w3 n t a1 cap1 ka kc (i + 1) la' lcap' (xs ++ u.toList) := by
 have hs := hb.size
 have hs3 : w2.heap.size + 1 <= w3.heap.size := by have := hg.size; simpa using this
 have hbl := h.bel.size
 have hox := own_block_lt h.own
 have hbx := h.box.lt
 have hrx := h.res.lt
 have far : ∀ b, b < w2.heap.size -> (Value.slice la i lcap).ownBlock ≠ some b -> w3.heap[b]? = w2.heap[b]? := fun b hb1 hb2 =>
  (hg.block b (by simp; omega) (fun e => hb2 e.symm)).trans (Below.heap_alloc _ _ _ hb1)
 have far2 : ∀ b, b < wr.heap.size -> (Value.slice la i lcap).ownBlock ≠ some b -> w3.heap[b]? = wr.heap[b]? := fun b hb1 hb2 => (far b (by omega) hb2).trans (hb.block b hb1)
 have hnew : ∀ b, b < w2.heap.size -> (Value.slice la i lcap).ownBlock ≠ some b -> (Value.slice la' (i + 1) lcap').ownBlock ≠ some b := fun b h1 h2 e => by
  rcases hat with hat | hat
  ·rw [hat] at e; exact h2 e
  ·rw [hat] at e; simp only [Option.some.injEq] at e; omega
 refine ⟨h.box.of_block (far2 _ hbx (fun e => by have := hox _ e; omega)), h.res.of_block (far2 _ hrx (fun e => by have := hox _ e; omega)), h.attrs.to (fun b hb' => ⟨hb'.1.to hb'.1.1 (far2 b hb'.1.2.1 hb'.2) (by omega), hnew b (by have := hb'.1.2.1; omega) hb'.2⟩) (fun b o hb' => World.cell?_of_block (w := wr) (a := ⟨b, o, none⟩) (far2 b hb'.1.2.1 hb'.2)), hown, ?_, ?_⟩
 ·rw [take_more hk]
  refine CopiesAt.snoc (h.kids.to (fun b hb' => ⟨hb'.1.to hb'.1.1 (far2 b hb'.1.2.1 hb'.2) (by omega), hnew b (by have := hb'.1.2.1; omega) hb'.2⟩) (fun b o hb' => World.cell?_of_block (w := wr) (a := ⟨b, o, none⟩) (far2 b hb'.1.2.1 hb'.2))) ?_
  have hne : ∀ b, wr.heap.size <= b -> (Value.slice la i lcap).ownBlock ≠ some b := fun b h1 e => by have := hox _ e; omega
  exact hu.to (fun b hb' => ⟨hb'.to (by have := hb'.1; omega) (far b hb'.2.1 (hne b hb'.1)) (by omega), hnew b hb'.2.1 (hne b hb'.1)⟩) (fun b o hb' => World.cell?_of_block (w := w2) (a := ⟨b, o, none⟩) (far b hb'.2.1 (hne b hb'.1)))
 ·exact (h.bel.trans (hb.mono hbl)).trans ⟨hg.os, hg.tape, hg.output, by omega, fun k hk => far k (by omega) (fun e => by have := hox _ e; omega)⟩
theorem CowSt.start {w w1 : World} {n : Nat} {t : T (n + 1)} {a : Option Addr} {ac : Nat} {a1 : Option Addr} {cap1 : Nat} {ka : Option Addr} {kc : Nat} (hbx : IsCells w1 w.heap.size #[.int .i64 t.kind, .string t.name, .slice a t.attrs.length ac, .string t.text, .slice ka t.kids.length kc])
  (hrs : IsCells w1 (w.heap.size + 1) #[.int .i64 0, .string ⟨#[]⟩, .slice none 0 0, .string ⟨#[]⟩, .slice none 0 0]) (hat : AttrsR w1 (Fw w1 (w.heap.size + 2)) a1 t.attrs) (hb : Below w.heap.size w w1) :
  CowSt w ((w1.setCell ⟨w.heap.size, 2, none⟩ (.slice a1 t.attrs.length cap1)).alloc (.cells #[] 31)) n t a1 cap1 ka kc 0 (some ⟨w1.heap.size, 0, none⟩) 0 [] := by
 have hs : (w1.setCell ⟨w.heap.size, 2, none⟩ (.slice a1 t.attrs.length cap1)).heap.size = w1.heap.size := by simp [World.setCell]
 have hrl := hrs.lt
 have same : ∀ b, b < w1.heap.size -> b ≠ w.heap.size -> ((w1.setCell ⟨w.heap.size, 2, none⟩ (.slice a1 t.attrs.length cap1)).alloc (.cells #[] 31)).heap[b]? = w1.heap[b]? := fun b h1 h2 => (Below.heap_alloc _ _ _ (by rw [hs]; exact h1)).trans (Below.heap_setCell _ _ _ _ h2)
 have cellsame : ∀ b o, b < w1.heap.size -> b ≠ w.heap.size -> ((w1.setCell ⟨w.heap.size, 2, none⟩ (.slice a1 t.attrs.length cap1)).alloc (.cells #[] 31)).cell? ⟨b, o, none⟩ = w1.cell? ⟨b, o, none⟩ := fun b o h1 h2 =>
  World.cell?_of_block (w := w1) (a := ⟨b, o, none⟩) ((Below.heap_alloc _ _ _ (by rw [hs]; exact h1)).trans (Below.heap_setCell _ _ _ _ h2))
 refine ⟨(hbx.set 2 _).alloc _, (hrs.other (by simp) _).alloc _, hat.to (fun b hb' => ⟨hb'.to hb'.1 (same b hb'.2.1 (by have := hb'.1; omega)) (by simp [World.setCell]), by have := hb'.2.1; simp [Value.ownBlock]; omega⟩) (fun b o hb' => cellsame b o hb'.2.1 (by have := hb'.1; omega)), ?_, CopiesAt.nil _ _ _, ?_⟩
 ·have := own_new (w1.setCell ⟨w.heap.size, 2, none⟩ (.slice a1 t.attrs.length cap1)) 31 5
  rw [hs] at this
  exact own_base this (fun k hk => by simp only [Value.ownBlock, Option.some.injEq] at hk; omega)
 ·exact (hb.setCell (p := ⟨w.heap.size, 2, none⟩) (Nat.le_refl _) _).alloc (by rw [hs]; exact hb.size) _
theorem CowSt.done {w wr w' : World} {n : Nat} {t : T (n + 1)} {a1 : Option Addr} {cap1 : Nat} {ka : Option Addr} {kc : Nat} {la : Option Addr} {lcap : Nat} {xs : List Value} (h : CowSt w wr n t a1 cap1 ka kc t.kids.length la lcap xs) (ha : t.attrs.length <= maxA) (hk : t.kids.length <= maxK) (hc : t.attrs.length <= cap1)
  (ht : Turn (fun b => b = w.heap.size \/ b = w.heap.size + 1) wr w') : TreeR w' (Fw w' w.heap.size) (n + 1) #[.int .i64 t.kind, .string t.name, .slice a1 t.attrs.length cap1, .string t.text, .slice la t.kids.length lcap] t /\ Below w.heap.size w w' := by
 have hs := ht.size
 have hbs := h.bel.size
 have hcell : ∀ b o, w.heap.size + 2 <= b -> b < wr.heap.size -> w'.cell? ⟨b, o, none⟩ = wr.cell? ⟨b, o, none⟩ := fun b o h1 h2 => World.cell?_of_block (w := wr) (a := ⟨b, o, none⟩) (ht.block b h2 (by omega))
 obtain ⟨hlc, hxl, hrow⟩ := row_cell h.own
 refine ⟨⟨a1, cap1, la, lcap, rfl, ha, hk, hc, hlc, (h.attrs.to (R' := Fw w' w.heap.size) (fun b hb => (hb.1.to hb.1.1 (ht.block b hb.1.2.1 (by have := hb.1.1; omega)) hs).low (by omega)) (fun b o hb => hcell b o hb.1.1 hb.1.2.1)), fun i k hk => ?_⟩, h.bel.trans (ht.below hbs (fun k hk => by omega))⟩
 obtain ⟨_, _, hkids⟩ := h.kids
 obtain ⟨u, h1, h2, h3⟩ := hkids i k (by rw [List.take_length]; exact hk)
 have hj : ∀ j, j < 5 -> ∃ g, la = some ⟨g, 0, none⟩ /\ w.heap.size + 2 <= g /\ g < wr.heap.size /\ wr.cell? ⟨g, i * 5 + j, none⟩ = u[j]? := fun j hj => by
  have hu := h2 j hj
  rw [Array.getElem?_eq_getElem (by omega)] at hu
  obtain ⟨g, e1, e2, e3, e4⟩ := hrow _ _ hu
  exact ⟨g, e1, e2, e3, by rw [e4, Array.getElem?_eq_getElem (by omega)]⟩
 obtain ⟨g, rfl, hg1, hg2, _⟩ := hj 0 (by omega)
 have hwr : Fw w' w.heap.size g := ⟨by omega, by omega, (own_wr h.own rfl).of_block (ht.block g hg2 (by omega))⟩
 refine ⟨g, 0, u, rfl, hwr, h1, fun j hj' => ?_, h3.to (R' := Fw w' w.heap.size) (fun b hb => (hb.1.to hb.1.1 (ht.block b hb.1.2.1 (by have := hb.1.1; omega)) hs).low (by omega)) (fun b o hb => hcell b o hb.1.1 hb.1.2.1)⟩
 obtain ⟨g', e1, _, _, e4⟩ := hj j hj'
 cases e1
 rw [Nat.zero_add, hcell g _ hg1 hg2, e4]
theorem copied_own : ∀ (n : Nat), CowAll n
 | 0 => fun _ _ _ _ _ h => h.elim
 | n + 1 => by
  intro w v t lo hi h hsz
  have ih := copied_own n
  obtain ⟨a, ac, ka, kc, rfl, hal, hkl, hac, hkc, hat, hkt⟩ := id h
  unfold tv at h ⊢
  unfold maxA at hal
  unfold maxK at hkl
  obtain ⟨W1, hW1⟩ : ∃ W1, W1 = ((w.alloc (.cells #[.int .i64 t.kind, .string t.name, .slice a t.attrs.length ac, .string t.text, .slice ka t.kids.length kc] 31)).alloc (.cells #[.int .i64 0, .string ⟨#[]⟩, .slice none 0 0, .string ⟨#[]⟩, .slice none 0 0] 31)).alloc (.cells #[] 124) := ⟨_, rfl⟩
  have hs1 : W1.heap.size = w.heap.size + 3 := by rw [hW1]; simp
  have hbel1 : Below w.heap.size w W1 := by rw [hW1]; exact (((below_new' w _).alloc (by simp) _).alloc (by simp; omega) _)
  have hbox : IsCells W1 w.heap.size #[.int .i64 t.kind, .string t.name, .slice a t.attrs.length ac, .string t.text, .slice ka t.kids.length kc] := by rw [hW1]; exact ((isCells_new w _ 31).alloc _).alloc _
  have hres : IsCells W1 (w.heap.size + 1) #[.int .i64 0, .string ⟨#[]⟩, .slice none 0 0, .string ⟨#[]⟩, .slice none 0 0] := by
   rw [hW1]
   have := isCells_new (w.alloc (.cells #[.int .i64 t.kind, .string t.name, .slice a t.attrs.length ac, .string t.text, .slice ka t.kids.length kc] 31)) #[.int .i64 0, .string ⟨#[]⟩, .slice none 0 0, .string ⟨#[]⟩, .slice none 0 0] 31
   simp only [World.alloc, Array.size_push] at this ⊢
   exact IsCells.alloc this _
  have hown : W1.ownsRow (w.heap.size + 2) 124 2 (.slice (some ⟨w.heap.size + 1 + 1, 0, none⟩) 0 0) 0 [] := by
   rw [hW1]
   have := own_new ((w.alloc (.cells #[.int .i64 t.kind, .string t.name, .slice a t.attrs.length ac, .string t.text, .slice ka t.kids.length kc] 31)).alloc (.cells #[.int .i64 0, .string ⟨#[]⟩, .slice none 0 0, .string ⟨#[]⟩, .slice none 0 0] 31)) 124 2
   simpa using this
  have HS1 := hid hs1
  have HW1 := hid hW1
  have HB1 := hid hbel1
  have HBX := hid hbox
  have HRS : Hid (IsCells W1 (w.heap.size + 1) #[.int .i64 0, .string ⟨#[]⟩, .slice none 0 0, .string ⟨#[]⟩, .slice none 0 0]) := hres
  have HOW : Hid (W1.ownsRow (w.heap.size + 2) 124 2 (.slice (some ⟨w.heap.size + 1 + 1, 0, none⟩) 0 0) 0 []) := hown
  have HNW : Hid (∀ j u, (attrCells t.attrs)[j]? = some u -> ∃ ad, a = some ad /\ W1.cell? (ad.add j) = some u) := (hat.below hbel1 hsz).news
  have HKT : Hid (KidsAt w lo hi n ka t.kids) := hkt
  clear hat hkt h hs1 hbel1 hbox hres hown hW1
  have tok1 : True := trivial
  go_enter Tryz.func36, Tryz.ntmps36
  go_wp2_with (at_builtin; have _t := tok1; refine wpList_app rfl _ _ rfl Tryz.underlying28 info40 rfl (by decide) (w.heap.size + 2) (.slice (some ⟨w.heap.size + 1 + 1, 0, none⟩) 0 0) 0 [] rfl (HW1.out ▸ HOW.out) a t.attrs.length ac (attrCells t.attrs) rfl (attrCells_length _) (HW1.out ▸ HNW.out) (attrCells_one _) (by unfold maxLen; omega) (by omega) (by simp) ?_; rw [<- HW1.out]; intro v1 w1 hown1 hg1 _ hat1; clear tok1 _t; obtain ⟨a1, cap1, hv1⟩ := own_slice hown1; subst hv1; rw [Nat.zero_add, List.nil_append] at hown1; rw [Nat.zero_add] at hat1; rw [Nat.zero_add]; have hbx1 := HBX.out.of_block (hg1.block _ (by have := HS1.out; omega) (fun e => by simp only [Value.ownBlock, Option.some.injEq] at e; omega)); have hrs1 := HRS.out.of_block (hg1.block _ (by have := HS1.out; omega) (fun e => by simp only [Value.ownBlock, Option.some.injEq] at e; omega)); have hc0 := hbx1.cell; have hf0 := hbx1.frozen; have HCP : Hid (t.attrs.length <= cap1) := (attrs_row hown1 rfl).2.2; have HST : Hid (CowSt w ((w1.setCell ⟨w.heap.size, 2, none⟩ (.slice a1 t.attrs.length cap1)).alloc (.cells #[] 31)) n t a1 cap1 ka kc 0 (some ⟨w1.heap.size, 0, none⟩) 0 []) := CowSt.start hbx1 hrs1 ((attrs_own hown1 rfl).1.to (fun b hb => hb.2) (fun _ _ _ => rfl)) (HB1.out.grown hg1 (by have := HS1.out; omega) (fun k hk => by simp only [Value.ownBlock, Option.some.injEq] at hk; omega)); clear hbx1 hrs1 hat1 HOW HNW hown1 hg1 HW1 HS1 HB1 HBX HRS)
  go_loopw [3, 4] (fun lv v wr => ∃ (i : Nat) (la : Option Addr) (lcap : Nat) (xs : List Value), i <= t.kids.length /\ v = .int .i64 (i : Int) /\ lv = .slice la i lcap /\ Hid (CowSt w wr n t a1 cap1 ka kc i la lcap xs)) (fun _ v _ => t.kids.length - (intOf v).toNat)
  case atStart => exact ⟨0, _, _, _, Nat.zero_le _, rfl, rfl, HST⟩
  case round =>
   obtain ⟨i, la, lcap, xs, hi', rfl, rfl, hst⟩ := hrel
   have hc := hst.out.box.cell
   have hf := hst.out.box.frozen
   have hr := hst.out.res.cell
   have hrf := hst.out.res.frozen
   have hbs := hst.out.bel.size
   have hrl := hst.out.res.lt
   clear hc0 hf0 HST
   by_cases hlt : i < t.kids.length
   ·obtain ⟨k, hk⟩ : ∃ k, t.kids[i]? = some k := ⟨_, List.getElem?_eq_getElem hlt⟩
    have hkt' := HKT.out.below hst.out.bel hsz
    obtain ⟨b, o, kk, nm, a', al', ac', tx, ka2, kl2, kc2, rfl, hb1, hb2, c0, c1, c2, c3, c4, htr⟩ := hkt'.get hk
    have hbr : b < wr.heap.size := by omega
    have HTR := hid htr
    have HK := hid hk
    clear HKT hkt' hk htr
    go_wp2_with fail
    refine (ih wr _ k lo hi HTR.out (by omega)).mono ?_
    rintro e w2 ⟨u, rfl, htu, hbu⟩
    obtain ⟨hcb, hfb⟩ := bcell hbu
    have hs2 := hbu.size
    obtain ⟨kk', nm', a'', al'', ac'', tx', ka3, kl3, kc3, rfl⟩ := htu.form
    have HTU := hid htu
    have HBU := hid hbu
    clear htu hbu c0 c1 c2 c3 c4 HTR
    have tok2 : True := trivial
    go_wp2_with (at_builtin; have _t := tok2; refine wpList_app rfl _ _ rfl Tryz.underlying29 info25 rfl (by decide) (w.heap.size + 2) (.slice la i lcap) i xs rfl (own_of_block hst.out.own (fun k hk => (Below.heap_alloc _ _ _ (by have := (own_block_lt hst.out.own k hk).2; omega)).trans (HBU.out.block k (own_block_lt hst.out.own k hk).2))) (some ⟨w2.heap.size, 0, none⟩) 1 1 [.int .i64 kk', .string nm', .slice a'' al'' ac'', .string tx', .slice ka3 kl3 kc3] rfl rfl (news_new w2 #[.int .i64 kk', .string nm', .slice a'' al'' ac'', .string tx', .slice ka3 kl3 kc3] 31) (tree_one _ _ _ _ _ _ _ _ _) (by unfold maxLen; omega) (by omega) (by simp; omega) ?_; intro v3 w3 hown3 hg3 _ hat3; clear tok2 _t; obtain ⟨la', lcap', hv3⟩ := own_slice hown3; subst hv3; have HST3 := hid (hst.out.step HK.out HTU.out HBU.out hown3 hg3 (by simpa using hat3)); clear hown3 hg3 hat3 HTU HBU HK hst)
    go_roundw
    case rel => exact ⟨i + 1, la', lcap', _, by omega, by go_num, rfl, HST3⟩
    case measure => simp [intOf]; omega
   ·have hie : i = t.kids.length := by omega
    subst hie
    clear HKT ih hlt
    go_wp2
    have hcp1 : t.attrs.length <= cap1 := HCP.out
    refine bodyPost_ret (v := .agg #[.int .i64 t.kind, .string t.name, .slice a1 t.attrs.length cap1, .string t.text, .slice la t.kids.length lcap]) (by simp [results, Tryz.results36, go_sem, hr]) rfl ⟨_, rfl, ?_⟩
    exact hst.out.done (by unfold maxA; omega) (by unfold maxK; omega) hcp1 (((((((Turn.refl _ wr).setCell (p := ⟨w.heap.size, 4, none⟩) (.inl rfl) _).setCell (p := ⟨w.heap.size + 1, 0, none⟩) (.inr rfl) _).setCell (p := ⟨w.heap.size + 1, 1, none⟩) (.inr rfl) _).setCell (p := ⟨w.heap.size + 1, 2, none⟩) (.inr rfl) _).setCell (p := ⟨w.heap.size + 1, 3, none⟩) (.inr rfl) _).setCell (p := ⟨w.heap.size + 1, 4, none⟩) (.inr rfl) _)
end Go.Proofs.YtjkgjckkglfokaaGreat.Gr
/- Insert of the program. -/
namespace Go.Proofs.YtjkgjckkglfokaaGreat.Gr
open Go.RowKit
set_option linter.unusedVariables false
set_option linter.unusedSimpArgs false
set_option maxRecDepth 100000
set_option maxHeartbeats 2000000
def InsP (w : World) (ro : Nat -> Nat) (db : Nat) (D' : Dc) (h : Nat) (z : Int) (e : Ending) (w' : World) : Prop :=
 e = .returned (.tuple #[.int .u64 (h : Int), .int .i64 z]) /\ Turn (fun b => ro b ≠ 0) w w' /\ ∃ ro', PDoc w' ro' db D' /\ ∀ b, ro' b ≠ 0 -> ro b ≠ 0 \/ w.heap.size <= b
theorem insp_same {w w' : World} {ro : Nat -> Nat} {db : Nat} {D : Dc} {z : Int} (h : PDoc w ro db D) (hb : Below w.heap.size w w') : InsP w ro db D 0 z (.returned (.tuple #[.int .u64 0, .int .i64 z])) w' :=
 ⟨rfl, (Turn.refl _ _).then hb (Nat.le_refl _), ro, h.turn (A := fun _ => False) ((Turn.refl _ _).then hb (Nat.le_refl _)) (fun _ _ => not_false), fun b hb => .inl hb⟩
theorem ins_place (n : Nat) (w : World) (v : Array Value) (t : T n) (lo hi : Nat) (ro : Nat -> Nat) (db a : Nat) (wh : Int) (D : Dc) (h : TreeAt w lo hi n v t) (hsz : hi <= w.heap.size) (hro : ∀ b, ro b ≠ 0 -> ¬ (lo <= b /\ b < hi)) (hd : PDoc w ro db D) (hw : WF D) (hal : a < 18446744073709551616) (hpl : isPlaceB wh a = false) :
  Calls Tryz.prog 46 #[.pointer (some ⟨db, 0, none⟩), .int .i64 wh, .int .u64 (a : Int), .agg v] w (InsP w ro db D 0 1) := by
 have hv := hd.view
 have hpc := fun W => isPlace_any W wh a
 have HD : Hid (PDoc w ro db D) := hd
 obtain ⟨tk, nm, aa, al, ac, tx, ka, kl, kc, rfl⟩ := h.form
 have HBX : Hid (Below w.heap.size w (w.alloc (.cells #[.int .i64 tk, .string nm, .slice aa al ac, .string tx, .slice ka kl kc] 31))) := below_new' w _
 have HBC : Hid (IsCells (w.alloc (.cells #[.int .i64 tk, .string nm, .slice aa al ac, .string tx, .slice ka kl kc] 31)) w.heap.size #[.int .i64 tk, .string nm, .slice aa al ac, .string tx, .slice ka kl kc]) := isCells_new w _ _
 rw [hpl] at hpc
 clear hd hv h hw
 go_enter Tryz.func46, Tryz.ntmps46
 go_wp2_with fail
 refine (hpc _).mono ?_
 rintro e w1 ⟨rfl, rfl⟩
 clear hpc
 go_wp2
 go_ret2
 exact insp_same HD.out HBX.out
theorem ins_check (n : Nat) (w : World) (v : Array Value) (t : T n) (lo hi : Nat) (ro : Nat -> Nat) (db a : Nat) (wh : Int) (D : Dc) (h : TreeAt w lo hi n v t) (hsz : hi <= w.heap.size) (hro : ∀ b, ro b ≠ 0 -> ¬ (lo <= b /\ b < hi)) (hd : PDoc w ro db D) (hw : WF D) (hal : a < 18446744073709551616) (hpl : isPlaceB wh a = true) (hcz : (chk n t 1 0).2 ≠ 0) :
  Calls Tryz.prog 46 #[.pointer (some ⟨db, 0, none⟩), .int .i64 wh, .int .u64 (a : Int), .agg v] w (InsP w ro db D 0 (chk n t 1 0).2) := by
 have hv := hd.view
 have hpc := fun W => isPlace_any W wh a
 have HD : Hid (PDoc w ro db D) := hd
 obtain ⟨tk, nm, aa, al, ac, tx, ka, kl, kc, rfl⟩ := h.form
 have HBX : Hid (Below w.heap.size w (w.alloc (.cells #[.int .i64 tk, .string nm, .slice aa al ac, .string tx, .slice ka kl kc] 31))) := below_new' w _
 have HBC : Hid (IsCells (w.alloc (.cells #[.int .i64 tk, .string nm, .slice aa al ac, .string tx, .slice ka kl kc] 31)) w.heap.size #[.int .i64 tk, .string nm, .slice aa al ac, .string tx, .slice ka kl kc]) := isCells_new w _ _
 have hck := fun W (hb : Below w.heap.size w W) => Check_any n W _ t lo hi (h.below hb hsz) (Nat.le_trans hsz hb.size)
 rw [hpl] at hpc
 generalize (chk n t 1 0).2 = z at *
 have hzb : (z == 0) = false := beq_eq_false_iff_ne.2 hcz
 clear hd hv h hw
 go_enter Tryz.func46, Tryz.ntmps46
 go_wp2_with fail
 refine (hpc _).mono ?_
 rintro e w1 ⟨rfl, rfl⟩
 clear hpc
 have hck1 := hck _ HBX.out
 clear hck
 go_wp2_with fail
 refine hck1.mono ?_
 rintro e w2 ⟨rfl, hb⟩
 have HB2 : Hid (Below w.heap.size w w2) := HBX.out.trans (hb.mono HBX.out.size)
 have HC2 : Hid (IsCells w2 w.heap.size #[.int .i64 tk, .string nm, .slice aa al ac, .string tx, .slice ka kl kc]) := HBC.out.of_block (hb.block w.heap.size (by simp))
 clear hb hck1
 go_wp2
 go_ret2
 exact insp_same HD.out HB2.out
theorem ins_live (n : Nat) (w : World) (v : Array Value) (t : T n) (lo hi : Nat) (ro : Nat -> Nat) (db a : Nat) (wh : Int) (D : Dc) (h : TreeAt w lo hi n v t) (hsz : hi <= w.heap.size) (hro : ∀ b, ro b ≠ 0 -> ¬ (lo <= b /\ b < hi)) (hd : PDoc w ro db D) (hw : WF D) (hal : a < 18446744073709551616) (hpl : isPlaceB wh a = true) (hcz : (chk n t 1 0).2 = 0) (hla : liveB D a = false) :
  Calls Tryz.prog 46 #[.pointer (some ⟨db, 0, none⟩), .int .i64 wh, .int .u64 (a : Int), .agg v] w (InsP w ro db D 0 8) := by
 have hv := hd.view
 have hpc := fun W => isPlace_any W wh a
 have HD : Hid (PDoc w ro db D) := hd
 obtain ⟨tk, nm, aa, al, ac, tx, ka, kl, kc, rfl⟩ := h.form
 have HBX : Hid (Below w.heap.size w (w.alloc (.cells #[.int .i64 tk, .string nm, .slice aa al ac, .string tx, .slice ka kl kc] 31))) := below_new' w _
 have HBC : Hid (IsCells (w.alloc (.cells #[.int .i64 tk, .string nm, .slice aa al ac, .string tx, .slice ka kl kc] 31)) w.heap.size #[.int .i64 tk, .string nm, .slice aa al ac, .string tx, .slice ka kl kc]) := isCells_new w _ _
 have hck := fun W (hb : Below w.heap.size w W) => Check_any n W _ t lo hi (h.below hb hsz) (Nat.le_trans hsz hb.size)
 have hlv := fun W (hb : Below w.heap.size w W) => isLive_any W _ db D a (hv.below hb) hw.fits hal
 rw [hpl] at hpc
 rw [hcz] at hck
 rw [hla] at hlv
 clear hd hv h hw hcz hla
 go_enter Tryz.func46, Tryz.ntmps46
 go_wp2_with fail
 refine (hpc _).mono ?_
 rintro e w1 ⟨rfl, rfl⟩
 clear hpc
 have hck1 := hck _ HBX.out
 clear hck
 go_wp2_with fail
 refine hck1.mono ?_
 rintro e w2 ⟨rfl, hb⟩
 have HB2 : Hid (Below w.heap.size w w2) := HBX.out.trans (hb.mono HBX.out.size)
 have HC2 : Hid (IsCells w2 w.heap.size #[.int .i64 tk, .string nm, .slice aa al ac, .string tx, .slice ka kl kc]) := HBC.out.of_block (hb.block w.heap.size (by simp))
 clear hb hck1
 have hlv2 := hlv w2 HB2.out
 clear hlv
 go_wp2_with fail
 refine hlv2.mono ?_
 rintro e w3 ⟨rfl, hb⟩
 have HB3 : Hid (Below w.heap.size w w3) := HB2.out.trans (hb.mono HB2.out.size)
 have HC3 : Hid (IsCells w3 w.heap.size #[.int .i64 tk, .string nm, .slice aa al ac, .string tx, .slice ka kl kc]) := HC2.out.of_block (hb.block w.heap.size HC2.out.lt)
 clear hb hlv2
 go_wp2
 go_ret2
 exact insp_same HD.out HB3.out
theorem ins_fits (n : Nat) (w : World) (v : Array Value) (t : T n) (lo hi : Nat) (ro : Nat -> Nat) (db a : Nat) (wh : Int) (D : Dc) (h : TreeAt w lo hi n v t) (hsz : hi <= w.heap.size) (hro : ∀ b, ro b ≠ 0 -> ¬ (lo <= b /\ b < hi)) (hd : PDoc w ro db D) (hw : WF D) (hal : a < 18446744073709551616) (hpl : isPlaceB wh a = true) (hcz : (chk n t 1 0).2 = 0) (hla : liveB D a = true) (hN4 : ndT n t <= 4096) (hfz : fitsE D (arD D wh a) (htT n t) ≠ 0) :
  Calls Tryz.prog 46 #[.pointer (some ⟨db, 0, none⟩), .int .i64 wh, .int .u64 (a : Int), .agg v] w (InsP w ro db D 0 (fitsE D (arD D wh a) (htT n t))) := by
 have hv := hd.view
 have hpc := fun W => isPlace_any W wh a
 have HD : Hid (PDoc w ro db D) := hd
 obtain ⟨tk, nm, aa, al, ac, tx, ka, kl, kc, rfl⟩ := h.form
 have HBX : Hid (Below w.heap.size w (w.alloc (.cells #[.int .i64 tk, .string nm, .slice aa al ac, .string tx, .slice ka kl kc] 31))) := below_new' w _
 have HBC : Hid (IsCells (w.alloc (.cells #[.int .i64 tk, .string nm, .slice aa al ac, .string tx, .slice ka kl kc] 31)) w.heap.size #[.int .i64 tk, .string nm, .slice aa al ac, .string tx, .slice ka kl kc]) := isCells_new w _ _
 have hck := fun W (hb : Below w.heap.size w W) => Check_any n W _ t lo hi (h.below hb hsz) (Nat.le_trans hsz hb.size)
 have hlv := fun W (hb : Below w.heap.size w W) => isLive_any W _ db D a (hv.below hb) hw.fits hal
 obtain ⟨o1, o2, o3⟩ := chk_ok n t 1 0 (by omega) (by omega) (by omega) hcz
 have hn1 : 1 <= ndT n t := by
  cases n with
  | zero => cases t
  | succ n => exact ndT_pos n t
 have hn4 : ndT n t <= 4096 := hN4
 obtain ⟨lv, hlv0⟩ := hw.lev
 have hlive := live_of hla
 have hwl : wh = 3 \/ wh = 4 -> ∃ t, sl D a = some t := fun h => by
  refine hlive.resolve_left (fun e => ?_)
  subst e
  rcases h with rfl | rfl <;> simp [isPlaceB] at hpl
 have hpp : arD D wh a = 0 \/ ∃ t, sl D (arD D wh a) = some t := by
  unfold arD
  split
  ·rename_i h
   obtain ⟨t, ht⟩ := hwl h
   have := (dep_par hlv0 ht).2
   simpa [par, ht] using this
  ·exact hlive
 have hal' : arD D wh a < 18446744073709551616 := by
  rcases hpp with e | ⟨t, ht⟩
  ·omega
  ·exact (hw.lt ht).1
 have har := fun W (hb : Below w.heap.size w W) => around_any W _ db D wh a (hv.below hb) hw.fits hal hwl
 have hme := fun W (hb : Below w.heap.size w W) => measure_any n W _ t lo hi (h.below hb hsz) (Nat.le_trans hsz hb.size) o1 hn4 (by omega)
 have hfi := fun W (hb : Below w.heap.size w W) => fits_any W _ db D (arD D wh a) (htT n t) (hv.below hb) hw hpp (by omega) _ rfl
 have hfe := fun W (hb : Below w.heap.size w W) => pfree_any W _ db D (ndT n t) (hv.below hb) hw.fits hn4
 rw [hpl] at hpc
 rw [hcz] at hck
 rw [hla] at hlv
 generalize fitsE D (arD D wh a) (htT n t) = z at *
 generalize arD D wh a = p at *
 generalize htT n t = ht at *
 generalize ndT n t = nd at *
 have hzb : (z == 0) = false := beq_eq_false_iff_ne.2 hfz
 clear hd hv h hw hcz hla hfe o1 o2 hlv0 hwl hpp hlive
 go_enter Tryz.func46, Tryz.ntmps46
 go_wp2_with fail
 refine (hpc _).mono ?_
 rintro e w1 ⟨rfl, rfl⟩
 clear hpc
 have hck1 := hck _ HBX.out
 clear hck
 go_wp2_with fail
 refine hck1.mono ?_
 rintro e w2 ⟨rfl, hb⟩
 have HB2 : Hid (Below w.heap.size w w2) := HBX.out.trans (hb.mono HBX.out.size)
 have HC2 : Hid (IsCells w2 w.heap.size #[.int .i64 tk, .string nm, .slice aa al ac, .string tx, .slice ka kl kc]) := HBC.out.of_block (hb.block w.heap.size (by simp))
 clear hb hck1
 have hlv2 := hlv w2 HB2.out
 clear hlv
 go_wp2_with fail
 refine hlv2.mono ?_
 rintro e w3 ⟨rfl, hb⟩
 have HB3 : Hid (Below w.heap.size w w3) := HB2.out.trans (hb.mono HB2.out.size)
 have HC3 : Hid (IsCells w3 w.heap.size #[.int .i64 tk, .string nm, .slice aa al ac, .string tx, .slice ka kl kc]) := HC2.out.of_block (hb.block w.heap.size HC2.out.lt)
 clear hb hlv2
 have har3 := har w3 HB3.out
 clear har
 go_wp2_with fail
 refine har3.mono ?_
 rintro e w4 ⟨rfl, hb⟩
 have HB4 : Hid (Below w.heap.size w w4) := HB3.out.trans (hb.mono HB3.out.size)
 have HC4 : Hid (IsCells w4 w.heap.size #[.int .i64 tk, .string nm, .slice aa al ac, .string tx, .slice ka kl kc]) := HC3.out.of_block (hb.block w.heap.size HC3.out.lt)
 clear hb har3
 have hx0 := HC4.out.cell 0
 have hx1 := HC4.out.cell 1
 have hx2 := HC4.out.cell 2
 have hx3 := HC4.out.cell 3
 have hx4 := HC4.out.cell 4
 simp at hx0 hx1 hx2 hx3 hx4
 have hme4 := hme w4 HB4.out
 clear hme
 go_wp2_with fail
 refine hme4.mono ?_
 rintro e w5 ⟨rfl, hb⟩
 have HB5 : Hid (Below w.heap.size w w5) := HB4.out.trans (hb.mono HB4.out.size)
 have HC5 : Hid (IsCells w5 w.heap.size #[.int .i64 tk, .string nm, .slice aa al ac, .string tx, .slice ka kl kc]) := HC4.out.of_block (hb.block w.heap.size HC4.out.lt)
 clear hb hme4 hx0 hx1 hx2 hx3 hx4
 have hfi5 := hfi w5 HB5.out
 clear hfi
 go_wp2_with fail
 refine hfi5.mono ?_
 rintro e w6 ⟨rfl, hb⟩
 have HB6 : Hid (Below w.heap.size w w6) := HB5.out.trans (hb.mono HB5.out.size)
 have HC6 : Hid (IsCells w6 w.heap.size #[.int .i64 tk, .string nm, .slice aa al ac, .string tx, .slice ka kl kc]) := HC5.out.of_block (hb.block w.heap.size HC5.out.lt)
 clear hb hfi5
 go_wp2
 go_ret2
 exact insp_same HD.out HB6.out
end Go.Proofs.YtjkgjckkglfokaaGreat.Gr
