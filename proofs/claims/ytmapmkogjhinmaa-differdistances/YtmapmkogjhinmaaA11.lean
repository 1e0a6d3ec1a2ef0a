/- The program's grow. -/
import Derived.Test.YtmapmkogjhinmaaA09
import Derived.Test.YtmapmkogjhinmaaA10
namespace Go.Proofs.Ytmapmkogjhinmaa
open Go.RowKit
set_option maxRecDepth 100000
set_option maxHeartbeats 4000000
set_option linter.unusedVariables false
set_option linter.unusedSimpArgs false
theorem grow_ne (n : Nat) (ih : GrowAll n) (w : World) (v : Array Value) (t : Nd (T n)) (lo hi p : Nat) (ro : Nat -> Nat) (db fb fg m : Nat) (D : Dc) (h : TreeAt w lo hi (n + 1) v t) (hsz : hi <= w.heap.size) (hro : ∀ b, ro b ≠ 0 -> ¬ (lo <= b /\ b < hi)) (hfb : hi <= fb) (hd : PDoc w ro db D) (hfr : FrAt w fb fg ((frL D).take m)) (hm : ndT (n + 1) t <= m) (hz : ro fb = 0 /\ ro fg = 0)
  (hs : Sane D) (hc : cnt takenB D.S + ndT (n + 1) t <= 4096) (hp : p = 0 \/ ∃ q, sl D p = some q) (hpl : p < 18446744073709551616) (hok : okT (n + 1) t) (hnew : (freeD D).1 = D.S.length) (hkd : t.kind ≠ 2) :
  Calls Try.prog 37 #[.pointer (some ⟨db, 0, none⟩), .agg v, .int .u64 (p : Int), .func (.func 38) #[] #[.pointer (some ⟨fb, 0, none⟩)]] w (GrowP w ro db fb fg (growD (n + 1) t p D).1 (growD (n + 1) t p D).2 (((frL D).take m).drop (ndT (n + 1) t))) := by
 obtain ⟨a, ac, ka, kc, rfl, hal, hkl, hac, hkc, hat, hkt⟩ := id h
 unfold tv at h ⊢
 obtain ⟨ho, hkk⟩ := hok
 obtain ⟨ka', kc', hk1, -, hkat, hkm⟩ := h.kids ho
 have hko := fun W => kidsOf_any W t.kind t.name a t.attrs.length ac t.text ka t.kids.length kc
 rw [hk1] at hko
 unfold maxK at hkm
 have hndt : ndT (n + 1) t = ((kidsT t).map (ndT n)).sum + 1 := rfl
 have hc1 : cnt takenB D.S + 1 <= 4096 := by omega
 have hfs := frL_seed hs hc1 t p
 obtain ⟨f1, f2, f3, f4, f5, f6, ⟨s0, f7, f8, f9, f10⟩, f11, f12⟩ := free_facts hs hc1
 obtain ⟨q1, q2, q3, q4, q5, q6, q7, q8, q9, q10⟩ := seed_facts hs hc1 t p ho
 have hEI := (show (growK (growD n) (seedH D) (kidsT t) (seed D t p)).1.S[(freeD D).1]? = some (mkS (genAt (freeD D).2 (freeD D).1 + 1) t p []) by
  obtain ⟨N, gg⟩ := growK_spec n (kidsT t) (seedH D) (seed D t p) q1 (by rw [q3]; omega) (.inr ⟨_, by unfold sl; rw [q6]; exact q7⟩) hkk
  exact (Grown.node hs hc1 t p hp ho gg (fun h2 => by have e0 : kidsT t = [] := (by unfold kidsT; rw [if_neg (by omega)]); rw [e0]; rfl)).2.2.2)
 obtain ⟨m', rfl⟩ : ∃ m', m = m' + 1 := ⟨m - 1, by omega⟩
 rw [hfs, List.take_succ_cons] at hfr
 have HG : Hid (growD (n + 1) t p D = (setKI (growK (growD n) (seedH D) (kidsT t) (seed D t p)).1 (freeD D).1 (growK (growD n) (seedH D) (kidsT t) (seed D t p)).2, seedH D)) := rfl
 have HDR : Hid (((frL D).take (m' + 1)).drop (ndT (n + 1) t) = ((frL (seed D t p)).take m').drop ((kidsT t).map (ndT n)).sum) := by show _ = _; rw [hfs, List.take_succ_cons, hndt, List.drop_succ_cons]
 rw [HG.out, HDR.out]
 have hD2 : (freeD D).2 = { D with S := D.S ++ [zeroSl 0] } := by
  unfold freeD at hnew ⊢
  cases hi : D.S.findIdx? freeB with
  | some i =>
   rw [hi] at hnew
   have := (List.findIdx?_eq_some_iff_getElem.1 hi).1
   simp only at hnew
   omega
  | none => rfl
 obtain ⟨D1, hD1⟩ : ∃ D1 : Dc, D1 = { D with S := D.S ++ [zeroSl 0] } := ⟨_, rfl⟩
 rw [<- hD1] at hD2
 have HD1 : Hid (D1 = { D with S := D.S ++ [zeroSl 0] }) := hD1
 clear hD1
 have hseed : seed D t p = { (freeD D).2 with S := (freeD D).2.S.set (freeD D).1 (mkS (genAt (freeD D).2 (freeD D).1 + 1) t p []) } := rfl
 have hH : seedH D = hnd (freeD D).1 (genAt (freeD D).2 (freeD D).1 + 1) := rfl
 rw [hD2] at hseed hH f3 f4 f5 f6 f7 f10 hEI
 generalize hi0 : (freeD D).1 = i at *
 have hil : i < 4096 := by omega
 have HSEED : Hid (seed D t p = { D1 with S := D1.S.set i (mkS (genAt D1 i + 1) t p []) }) := hseed
 have HH : Hid (seedH D = hnd i (genAt D1 i + 1)) := hH
 have HGEN : Hid (s0.gen = genAt D1 i) := f10
 have Hq1 : Hid (Sane (seed D t p)) := q1
 have Hq3 : Hid (cnt takenB (seed D t p).S = cnt takenB D.S + 1) := q3
 have Hq6 : Hid (atI (seed D t p).S (seedH D) = some i) := q6
 have Hq7 : Hid ((seed D t p).S[i]? = some (mkS (genAt D1 i + 1) t p [])) := by rw [hD2] at q7; exact q7
 have Hf7 : Hid (D1.S[i]? = some s0) := f7
 have HEI : Hid ((growK (growD n) (seedH D) (kidsT t) (seed D t p)).1.S[i]? = some (mkS (genAt D1 i + 1) t p [])) := hEI
 have Hf8 : Hid (s0.live = false) := f8
 have Hfs : Hid (frL D = i :: frL (seed D t p)) := hfs
 have hgl : s0.gen + 1 < 4294967296 := by omega
 have hHl : seedH D < 18446744073709551616 := q10
 have HOK : Hid (∀ k ∈ kidsT t, okT n k) := hkk
 have HKT : Hid (KidsAt w lo hi n ka' (kidsT t)) := hkat
 have HAT : Hid (AttrsAt w lo hi a t.attrs) := hat
 have HC : Hid (cnt takenB D.S + ((kidsT t).map (ndT n)).sum + 1 <= 4096) := by show _ <= _; omega
 have HM : Hid (((kidsT t).map (ndT n)).sum <= m') := by show _ <= _; omega
 have HIH : Hid (GrowAll n) := ih
 have HRO : Hid (∀ b, ro b ≠ 0 -> ¬ (lo <= b /\ b < hi)) := hro
 have HZ : Hid (ro fb = 0 /\ ro fg = 0) := hz
 have HOWN : Hid (ownE t = 0) := ho
 have heg : ∀ args w, (callFunc 38 args).run Try.prog w = .ok (.enter 38 args) w := enters_of Try.func38 (by kernel_rfl) rfl
 have heg2 : ∀ args w, (callFunc 37 args).run Try.prog w = .ok (.enter 37 args) w := enters_of Try.func37 (by kernel_rfl) rfl
 have hnx := next_any (w.alloc (.cells #[.int .i64 t.kind, .string t.name, .slice a t.attrs.length ac, .string t.text, .slice ka t.kids.length kc] 36)) fb fg i _ (hfr.of_blocks (Below.heap_alloc _ _ _ hfr.lt.1) (Below.heap_alloc _ _ _ hfr.lt.2) (by simp))
 have HD : Hid (PDoc w ro db D) := hd
 have HLT : Hid (∀ b, ro b ≠ 0 -> b < w.heap.size) := hd.view.lt
 have hdbw : db < w.heap.size := hd.view.lt db hd.view.docs
 have hclv : cnt Sl.live D1.S <= 4096 := Nat.le_trans (List.length_filter_le _ _) f4
 have HFR : Hid (FrAt w fb fg (i :: (frL (seed D t p)).take m')) := hfr
 have HS : Hid (Sane D) := hs
 have HBX : Hid (Below w.heap.size w (w.alloc (.cells #[.int .i64 t.kind, .string t.name, .slice a t.attrs.length ac, .string t.text, .slice ka t.kids.length kc] 36))) := below_new' w _
 have HBC : Hid (IsCells (w.alloc (.cells #[.int .i64 t.kind, .string t.name, .slice a t.attrs.length ac, .string t.text, .slice ka t.kids.length kc] 36)) w.heap.size #[.int .i64 t.kind, .string t.name, .slice a t.attrs.length ac, .string t.text, .slice ka t.kids.length kc]) := isCells_new w _ _
 have HNEW : Hid (i = D.S.length) := hnew
 have hdl : D.S.length + 1 <= 4096 := by rw [HD1.out] at f4; simpa using f4
 clear hnew
 clear hd hfr hs hseed hH f2 f3 f4 f5 f6 f7 f8 f9 f10 f11 f12 q1 q2 q3 q4 q5 q6 q7 q8 q9 q10 hfs hD2 hkk hkat hat hkt hk1 h ih hro hz hc hc1 hm HG HDR hndt ho hp hi0 hEI
 generalize hE0 : seed D t p = E0 at *
 generalize hH0 : seedH D = H at *
 clear hE0 hH0
 go_enter Try.func37, Try.ntmps37
 go_wp2_with fail
 refine hnx.mono ?_
 rintro e w1 hn1
 obtain ⟨rfl, hfr1, htn⟩ := id hn1
 have HP1 : Hid (PG w ro db fb fg D ((frL E0).take m') w1 ro) := ((PG.start HD.out HFR.out HZ.out).below HBX.out).trans (PG.next (HD.out.turn (A := fun _ => False) ((Turn.refl _ _).then HBX.out (Nat.le_refl _)) (fun _ _ => not_false)) HZ.out ⟨by have := HFR.out.lt; simp; omega, by have := HFR.out.lt; simp; omega⟩ hn1)
 have hbx : Hid (IsCells w1 w.heap.size #[.int .i64 t.kind, .string t.name, .slice a t.attrs.length ac, .string t.text, .slice ka t.kids.length kc]) := HBC.out.of_block (htn.block _ (by simp) (by have := HFR.out.lt; omega))
 have hw1 : w.heap.size < w1.heap.size := by have := htn.size; simp at this; omega
 clear hfr1 htn hnx hn1 HD HFR HBX HBC
 obtain ⟨sa, scap, ra, rcap, L, hpd⟩ := HP1.out.doc
 have hdc := hpd.head.cell 0
 have hdf := hpd.head.frozen 0
 simp at hdc
 have hdbl : db < w1.heap.size := hpd.lt db (by rw [hpd.rdb]; omega)
 have HPD0 : Hid (PdS w1 ro db D sa scap ra rcap L) := hpd
 have HSL : Hid (w1.ownsRow 0 77 8 (.slice sa D.S.length scap) D.S.length (rowOf D.S L)) := hpd.slots
 have hne : ((i : Int) == (D.S.length : Int)) = true := by have := HNEW.out; simp; omega
 have hix : (i : Int) < (D.S.length : Int) + 1 := by have := HNEW.out; omega
 clear hpd
 have tok : True := trivial
 go_wp2_with (at_builtin; have _t := tok; refine wpList_app rfl _ _ rfl Try.underlying48 info75 rfl (by decide) 0 (.slice sa D.S.length scap) D.S.length (rowOf D.S L) rfl (own_of_block HSL.out (fun k hk => Below.heap_alloc _ _ _ (own_block_lt HSL.out k hk).2)) (some ⟨w1.heap.size, 0, none⟩) 1 1 (slotCells (zeroSl 0) (.slice none 0 0, .slice none 0 0)) rfl rfl (news_new w1 #[.int .u32 0, .bool false, .int .i64 0, .string ⟨#[]⟩, .slice none 0 0, .string ⟨#[]⟩, .int .u64 0, .slice none 0 0] 77) (by intro u hu; simp only [slotCells, List.mem_cons, List.not_mem_nil, or_false] at hu; rcases hu with rfl | rfl | rfl | rfl | rfl | rfl | rfl | rfl <;> rfl) (by unfold maxLen; omega) (by omega) (by simp) ?_; intro v2 wa hown2 hgr _ hat2; clear tok _t; obtain ⟨a', c', hv2⟩ := own_slice hown2; subst hv2; obtain ⟨HPB, HPE, hgw1, hbb, hwB, hdbk⟩ := PdS.app HPD0.out HLT.out HP1.out hw1 hbx.out hgr hown2 hat2; rw [<- HD1.out] at HPB HPE; obtain ⟨g, q, rfl, hg2, hLq, hlc, hdc2, hcells⟩ := HPB.slot Hf7.out; have hdg0 : ¬ db = g := (fun e => by have hx := HPB.rdb; rw [e, hg2] at hx; cases hx); have hgw0 : ¬ w.heap.size = g := hgw1 g rfl; have hgl0 : g < wa.heap.size := (by have := HPB.lt g (by rw [hg2]; omega); simpa [World.setCell] using this); have hc0 : wa.cell? ⟨g, i * 8, none⟩ = some (.int .u32 (s0.gen : Int)) := (World.cell?_of_block (w' := wa.setCell ⟨db, 0, none⟩ (.slice (some ⟨g, 0, none⟩) (D.S.length + 1) c')) (a := ⟨g, i * 8, none⟩) (Below.heap_setCell _ _ _ _ (fun e => hdg0 e.symm))).symm.trans (hcells 0 _ rfl).1; have hda := (World.cell?_of_block (w := w1) (w' := wa) (a := ⟨db, 0, none⟩) hdbk).trans hdc; have hdaf := (World.frozen?_of_block (w := w1) (w' := wa) (a := ⟨db, 0, none⟩) hdbk).trans hdf; have hdbla : db < wa.heap.size := (by have := hgr.size; simp at this; omega); have hgd0 : ¬ g = db := (fun e => hdg0 e.symm); have HPBh : Hid (PdS (wa.setCell ⟨db, 0, none⟩ (.slice (some ⟨g, 0, none⟩) (D.S.length + 1) c')) _ db D1 (some ⟨g, 0, none⟩) c' ra rcap _) := HPB; have HPEh : Hid (PG w ro db fb fg D1 _ (wa.setCell ⟨db, 0, none⟩ (.slice (some ⟨g, 0, none⟩) (D.S.length + 1) c')) _) := HPE; have HBB : Hid (IsCells (wa.setCell ⟨db, 0, none⟩ (.slice (some ⟨g, 0, none⟩) (D.S.length + 1) c')) _ _) := hbb; have HWB : Hid (w.heap.size < (wa.setCell ⟨db, 0, none⟩ (.slice (some ⟨g, 0, none⟩) (D.S.length + 1) c')).heap.size) := hwB; clear HPB HPE hbb hwB hcells hown2 hgr hat2 hg2 hLq hlc hdc2 hdbk hgw1 hbx)
 obtain ⟨wB, hwB⟩ : ∃ wB, wB = wa.setCell ⟨db, 0, none⟩ (.slice (some ⟨g, 0, none⟩) (D.S.length + 1) c') := ⟨_, rfl⟩
 rw [<- hwB] at HPBh HPEh HBB HWB
 rw [<- hwB]
 obtain ⟨roB, hroB⟩ : ∃ roB, roB = roN ro 2 (.slice (some ⟨g, 0, none⟩) (D.S.length + 1) c') := ⟨_, rfl⟩
 rw [<- hroB] at HPBh HPEh
 clear HP1 hw1 HPD0 HSL hdc hdf hdbl hc0 hda hdaf hdbla hgl0 hwB hroB
 have HPD := HPBh
 have HP1 := HPEh
 have hbx := HBB
 have hw1 := HWB.out
 clear HPBh HPEh HBB HWB
 have hgl1 : g < wB.heap.size := HPD.out.lt g (by rw [HPD.out.rs g rfl]; omega)
 have hdbl : db < wB.heap.size := HPD.out.lt db (by rw [HPD.out.rdb]; omega)
 have hixB : (i : Int) < (D1.S.length : Int) := by have := (List.getElem?_eq_some_iff.1 Hf7.out).1; omega
 have hha : Calls Try.prog 50 #[.int .i64 (i : Int), .int .u32 ((s0.gen : Int) + 1)] wB (fun e w' => e = .returned (.int .u64 (H : Int)) /\ w' = wB) := by
  have := handle_any wB i (s0.gen + 1) (by omega) hgl
  rw [HH.out, <- HGEN.out]
  exact this
 refine hha.mono ?_
 rintro e w2 ⟨rfl, rfl⟩
 clear hha
 have hb0 := hbx.out.cell 0
 have hb1 := hbx.out.cell 1
 have hb2 := hbx.out.cell 2
 have hb3 := hbx.out.cell 3
 have hb4 := hbx.out.cell 4
 simp at hb0 hb1 hb2 hb3 hb4
 have hkb : (t.kind == 2) = false := beq_eq_false_iff_ne.2 hkd
 have hk32 : t.attrs.length <= 32 := by
  have := HOWN.out
  unfold ownE at this
  rw [if_neg hkd] at this
  by_cases e : t.kind = 1
  ·rw [if_pos e] at this
   split at this
   ·unfold attrsE at this
    split at this
    ·cases this
    ·omega
   ·cases this
  ·rw [if_neg e] at this
   cases this
 obtain ⟨W0, hW0⟩ : ∃ W0, W0 = w2.alloc (.cells #[.int .u32 ((s0.gen : Int) + 1), .bool true, .int .i64 t.kind, .string ⟨#[]⟩, .slice none 0 0, .string ⟨#[]⟩, .int .u64 (p : Int), .slice none 0 0] 77) := ⟨_, rfl⟩
 have HB0 : Hid (Below w2.heap.size w2 W0) := by rw [hW0]; exact below_new' w2 _
 have hs0 : W0.heap.size = w2.heap.size + 1 := by rw [hW0]; simp
 have HX2 : Hid (IsCells W0 w2.heap.size #[.int .u32 ((s0.gen : Int) + 1), .bool true, .int .i64 t.kind, .string ⟨#[]⟩, .slice none 0 0, .string ⟨#[]⟩, .int .u64 (p : Int), .slice none 0 0]) := by rw [hW0]; exact isCells_new w2 _ 77
 have HW0 : Hid (W0 = w2.alloc (.cells #[.int .u32 ((s0.gen : Int) + 1), .bool true, .int .i64 t.kind, .string ⟨#[]⟩, .slice none 0 0, .string ⟨#[]⟩, .int .u64 (p : Int), .slice none 0 0] 77)) := hW0
 have hfr9 := freshA_any W0.drew (fun b => lo <= b /\ b < hi) a t.attrs ac (HAT.out.toR.to (fun _ h => h) (fun b o hb => by
  have e1 : w2.cell? ⟨b, o, none⟩ = w.cell? ⟨b, o, none⟩ := World.cell?_of_block (w := w) (a := ⟨b, o, none⟩) (HP1.out.turn.block b (by omega) (fun e => by
   rcases e with e | e
   ·have := HRO.out b e; omega
   ·omega))
  exact ((HB0.out.drew.cell (p := ⟨b, o, none⟩) (show b < w2.heap.size by omega))).trans e1)) (by omega)
 clear hW0
 go_wp2_with fail
 rw [<- HW0.out]
 have hc2 := HX2.out.cell
 have hf2 := HX2.out.frozen
 have hwl : w.heap.size < W0.heap.size := by omega
 have hwn1 : ¬ w.heap.size = w2.heap.size := by omega
 have hwn2 : ¬ w2.heap.size = w.heap.size := by omega
 have q1 : W0.drew.cell? ⟨w.heap.size, 1, none⟩ = some (.string t.name) := (HB0.out.cell (p := ⟨w.heap.size, 1, none⟩) hw1).trans hb1
 have q2 : W0.drew.cell? ⟨w.heap.size, 2, none⟩ = some (.slice a t.attrs.length ac) := (HB0.out.cell (p := ⟨w.heap.size, 2, none⟩) hw1).trans hb2
 go_region_held3 (fun W => W.cell? ⟨w.heap.size, 1, none⟩ = some (.string t.name) /\ W.cell? ⟨w.heap.size, 2, none⟩ = some (.slice a t.attrs.length ac)) (go_keep)
  (first | (go_at_call 51; refine hfr9.mono ?_; rintro e w3 ⟨va, vc, rfl, hown, hb⟩; have r1 := (hb.cell (p := ⟨w.heap.size, 1, none⟩) (by show w.heap.size < W0.heap.size; omega)).trans q1; have r2 := (hb.cell (p := ⟨w.heap.size, 2, none⟩) (by show w.heap.size < W0.heap.size; omega)).trans q2; have HIC : Hid (IsCells w3 w2.heap.size #[.int .u32 ((s0.gen : Int) + 1), .bool true, .int .i64 t.kind, .string ⟨#[]⟩, .slice none 0 0, .string ⟨#[]⟩, .int .u64 (p : Int), .slice none 0 0]) := HX2.out.of_block (hb.block w2.heap.size (by show w2.heap.size < W0.heap.size; omega)); have y3 : w3.cell? ⟨w2.heap.size, 3, none⟩ = some (.string ⟨#[]⟩) := HIC.out.cell 3; have y4 : w3.cell? ⟨w2.heap.size, 4, none⟩ = some (.slice none 0 0) := HIC.out.cell 4; have z3 := HIC.out.frozen 3; have z4 := HIC.out.frozen 4; have HO : Hid (w3.ownsRow W0.heap.size 99 2 (.slice va t.attrs.length vc) t.attrs.length (attrCells t.attrs)) := hown; have HB3 : Hid (Below w2.heap.size w2 w3) := HB0.out.drew.trans (hb.mono (by show w2.heap.size <= W0.heap.size; omega)); have hs1 : W0.heap.size <= w3.heap.size := hb.size; clear hown hb q1 q2 hc2 hf2 hfr9))
 obtain ⟨al, hav⟩ : ∃ al, al = t.attrs.length := ⟨_, rfl⟩
 rw [<- hav] at HO
 rw [<- hav]
 obtain ⟨w4, hw4⟩ : ∃ w4, w4 = (w3.setCell ⟨w2.heap.size, 3, none⟩ (.string t.name)).setCell ⟨w2.heap.size, 4, none⟩ (.slice va al vc) := ⟨_, rfl⟩
 rw [<- hw4]
 have HI4 : Hid (IsCells w4 w2.heap.size #[.int .u32 ((s0.gen : Int) + 1), .bool true, .int .i64 t.kind, .string t.name, .slice va al vc, .string ⟨#[]⟩, .int .u64 (p : Int), .slice none 0 0]) := by
  show IsCells _ _ _
  rw [hw4]
  have := (HIC.out.set 3 (.string t.name)).set 4 (.slice va al vc)
  simpa using this
 have HT4 : Turn (fun b => b = w2.heap.size) w3 w4 := by
  rw [hw4]
  exact ((Turn.refl _ _).setCell (A := fun b => b = w2.heap.size) (p := ⟨w2.heap.size, 3, none⟩) rfl _).setCell (A := fun b => b = w2.heap.size) (p := ⟨w2.heap.size, 4, none⟩) rfl _
 have HB4 : Hid (Below w2.heap.size w2 w4) := HB3.out.trans (HT4.below (by omega) (fun k hk => by omega))
 have HO4 : Hid (w4.ownsRow w2.heap.size 99 2 (.slice va al vc) (mkS (genAt D1 i + 1) t p []).attrs.length (attrCells (mkS (genAt D1 i + 1) t p []).attrs)) := by
  have e : (mkS (genAt D1 i + 1) t p []).attrs = t.attrs := by show (if t.kind = 2 then [] else t.attrs) = _; rw [if_neg hkd]
  rw [e, <- hav]
  have h1 := own_of_block HO.out (fun k hk => HT4.block k (own_block_lt HO.out k hk).2 (by have := (own_block_lt HO.out k hk).1; omega))
  exact own_base h1 (fun k hk => by have := (own_block_lt HO.out k hk).1; omega)
 have HNM : Hid ((mkS (genAt D1 i + 1) t p []).name = t.name) := by show (if t.kind = 2 then _ else t.name) = _; rw [if_neg hkd]
 have HTX : Hid ((mkS (genAt D1 i + 1) t p []).text = ⟨#[]⟩) := by show (if t.kind = 2 then _ else _) = _; rw [if_neg hkd]
 clear hav hw4 HT4 HO HIC HB3 r1 r2 y3 y4 z3 z4 hs1 HB0 HX2 HW0 hs0 hwl
 obtain ⟨tn, htn⟩ : ∃ tn, tn = t.name := ⟨_, rfl⟩
 obtain ⟨tx, htx⟩ : ∃ tx, tx = (⟨#[]⟩ : ByteArray) := ⟨_, rfl⟩
 rw [<- htn] at HI4 HNM
 rw [<- htx] at HI4 HTX
 clear htn htx
 obtain ⟨g', q, hgg, hg2, hLq, hlc, hdc, hcells⟩ := HPD.out.slot Hf7.out
 obtain rfl : g = g' := by cases hgg; rfl
 have hi0 := HI4.out.cell 0
 have hi1 := HI4.out.cell 1
 have hi2 := HI4.out.cell 2
 have hi3 := HI4.out.cell 3
 have hi4 := HI4.out.cell 4
 have hi5 := HI4.out.cell 5
 have hi6 := HI4.out.cell 6
 have hi7 := HI4.out.cell 7
 simp at hi0 hi1 hi2 hi3 hi4 hi5 hi6 hi7
 have hdc4 := (HB4.out.cell (p := ⟨db, 0, none⟩) hdbl).trans hdc
 have hx0 := (HB4.out.cell (p := ⟨g, i * 8, none⟩) hgl1).trans (hcells 0 _ rfl).1
 have hx1 := (HB4.out.cell (p := ⟨g, i * 8 + 1, none⟩) hgl1).trans (hcells 1 _ rfl).1
 have hx2 := (HB4.out.cell (p := ⟨g, i * 8 + 2, none⟩) hgl1).trans (hcells 2 _ rfl).1
 have hx3 := (HB4.out.cell (p := ⟨g, i * 8 + 3, none⟩) hgl1).trans (hcells 3 _ rfl).1
 have hx4 := (HB4.out.cell (p := ⟨g, i * 8 + 4, none⟩) hgl1).trans (hcells 4 _ rfl).1
 have hx5 := (HB4.out.cell (p := ⟨g, i * 8 + 5, none⟩) hgl1).trans (hcells 5 _ rfl).1
 have hx6 := (HB4.out.cell (p := ⟨g, i * 8 + 6, none⟩) hgl1).trans (hcells 6 _ rfl).1
 have hx7 := (HB4.out.cell (p := ⟨g, i * 8 + 7, none⟩) hgl1).trans (hcells 7 _ rfl).1
 have hy0 := (HB4.out.frozen (p := ⟨g, i * 8, none⟩) hgl1).trans (hcells 0 _ rfl).2
 have hy1 := (HB4.out.frozen (p := ⟨g, i * 8 + 1, none⟩) hgl1).trans (hcells 1 _ rfl).2
 have hy2 := (HB4.out.frozen (p := ⟨g, i * 8 + 2, none⟩) hgl1).trans (hcells 2 _ rfl).2
 have hy3 := (HB4.out.frozen (p := ⟨g, i * 8 + 3, none⟩) hgl1).trans (hcells 3 _ rfl).2
 have hy4 := (HB4.out.frozen (p := ⟨g, i * 8 + 4, none⟩) hgl1).trans (hcells 4 _ rfl).2
 have hy5 := (HB4.out.frozen (p := ⟨g, i * 8 + 5, none⟩) hgl1).trans (hcells 5 _ rfl).2
 have hy6 := (HB4.out.frozen (p := ⟨g, i * 8 + 6, none⟩) hgl1).trans (hcells 6 _ rfl).2
 have hy7 := (HB4.out.frozen (p := ⟨g, i * 8 + 7, none⟩) hgl1).trans (hcells 7 _ rfl).2
 have hdg : ¬ db = g := fun e => by rw [<- e, HPD.out.rdb] at hg2; cases hg2
 have hgd : ¬ g = db := fun e => hdg e.symm
 have hlv : w2.cell? ⟨db, 2, none⟩ = some (.int .i64 (cnt Sl.live D1.S : Int)) := HPD.out.head.cell 2
 have hlv4 := (HB4.out.cell (p := ⟨db, 2, none⟩) hdbl).trans hlv
 have hlf4 := (HB4.out.frozen (p := ⟨db, 2, none⟩) hdbl).trans (HPD.out.head.frozen 2)
 clear hcells hLq hgg hdc hlv
 go_wp2_with fail
 go_region
 obtain ⟨w5, hw5⟩ : ∃ w5, w5 = ((((((((w4.setCell ⟨g, i * 8, none⟩ (.int .u32 ((s0.gen : Int) + 1))).setCell ⟨g, i * 8 + 1, none⟩ (.bool true)).setCell ⟨g, i * 8 + 2, none⟩ (.int .i64 t.kind)).setCell ⟨g, i * 8 + 3, none⟩ (.string tn)).setCell ⟨g, i * 8 + 4, none⟩ (.slice va al vc)).setCell ⟨g, i * 8 + 5, none⟩ (.string tx)).setCell ⟨g, i * 8 + 6, none⟩ (.int .u64 (p : Int))).setCell ⟨g, i * 8 + 7, none⟩ (.slice none 0 0)).drew := ⟨_, rfl⟩
 rw [<- hw5]
 have hw5' : w5 = (plantW w4 g i (mkS (genAt D1 i + 1) t p []) (.slice va al vc)).drew := by
  rw [hw5]
  unfold plantW
  rw [HNM.out, HTX.out]
  show _ = ((((((((w4.setCell ⟨g, i * 8, none⟩ (.int .u32 ((genAt D1 i : Int) + 1))).setCell ⟨g, i * 8 + 1, none⟩ (.bool true)).setCell ⟨g, i * 8 + 2, none⟩ (.int .i64 t.kind)).setCell ⟨g, i * 8 + 3, none⟩ (.string tn)).setCell ⟨g, i * 8 + 4, none⟩ (.slice va al vc)).setCell ⟨g, i * 8 + 5, none⟩ (.string tx)).setCell ⟨g, i * 8 + 6, none⟩ (.int .u64 (p : Int))).setCell ⟨g, i * 8 + 7, none⟩ (.slice none 0 0)).drew
  rw [<- HGEN.out]
 obtain ⟨k1, k2, k3⟩ := HPD.out.plant Hf7.out Hf8.out (mkS (genAt D1 i + 1) t p []) rfl rfl HB4.out HO4.out (Nat.le_refl _)
 rw [<- HSEED.out] at k1
 have hT5 : Turn (fun b => b = g) w4 w5 := by
  rw [hw5']
  exact (Turn.plant (A := fun b => b = g) (g := g) (Turn.refl _ _) (.inl rfl) _ _ _).drew
 have HP6 : Hid (∃ ro6, PG w ro db fb fg E0 ((frL E0).take m') (w5.setCell ⟨db, 2, none⟩ (.int .i64 ((cnt Sl.live D1.S : Int) + 1))) ro6) := by
  have h0 := HP1.out.trans (PG.step HP1.out.fz1 HP1.out.fr k2 k1 k3)
  refine ⟨roA roB (2 * i + 4) (.slice va al vc), ?_⟩
  rw [hw5', setCell_drew]
  exact h0.below ((Below.refl _ _).drew)
 have hlv5 := (World.cell?_of_block (w := w4) (w' := w5) (a := ⟨db, 2, none⟩) (hT5.block db (by have := HB4.out.size; omega) hdg)).trans hlv4
 have hlf5 := (World.frozen?_of_block (w := w4) (w' := w5) (a := ⟨db, 2, none⟩) (hT5.block db (by have := HB4.out.size; omega) hdg)).trans hlf4
 have hgw : ¬ w.heap.size = g := hgw0
 have hdw : ¬ w.heap.size = db := by omega
 have hdw2 : ¬ db = w.heap.size := by omega
 have hbx5 : IsCells w5 w.heap.size #[.int .i64 t.kind, .string t.name, .slice a t.attrs.length ac, .string t.text, .slice ka t.kids.length kc] := (hbx.out.of_block (HB4.out.block _ hw1)).of_block (hT5.block _ (by have := HB4.out.size; omega) hgw)
 have hs5 : w.heap.size < w5.heap.size := by have := hT5.size; have := HB4.out.size; omega
 have hb50 := hbx5.cell 0
 have hb51 := hbx5.cell 1
 have hb52 := hbx5.cell 2
 have hb53 := hbx5.cell 3
 have hb54 := hbx5.cell 4
 simp at hb50 hb51 hb52 hb53 hb54
 have hdb5 : db < w5.heap.size := by omega
 clear hw5 hw5' k1 k2 k3 hT5 hi0 hi1 hi2 hi3 hi4 hi5 hi6 hi7 hx0 hx1 hx2 hx3 hx4 hx5 hx6 hx7 hy0 hy1 hy2 hy3 hy4 hy5 hy6 hy7 hdc4 hlv4 hlf4 HI4 HB4 HO4 HNM HTX HPD hb0 hb1 hb2 hb3 hb4 hbx hbx5 hdbl hgl1 hlc hg2
 go_wp2_with fail
 refine (hko _).mono ?_
 rintro e w7 ⟨rfl, hb7⟩
 obtain ⟨ro6, hp6⟩ := HP6.out
 have HP7 : Hid (PG w ro db fb fg E0 ((frL E0).take m') w7 ro6) := hp6.below hb7
 clear hb7 hp6 HP6 hko hlv5 hlf5 hb50 hb51 hb52 hb53 hb54
 have HGC : Hid (GC w ro db fb fg n H E0 m' lo hi ka' (kidsT t)) := ⟨HIH.out, Hq1.out, by have := Hq3.out; have := HC.out; omega, HM.out, ⟨mkS (genAt D1 i + 1) t p [], by unfold sl; rw [Hq6.out]; exact Hq7.out⟩, hHl, HOK.out, HKT.out, hsz, HRO.out, hfb⟩
 have hw7 : w.heap.size <= w7.heap.size := HP7.out.turn.size
 have HFL : Hid (fb < w.heap.size) := HP7.out.fbl.1
 have HFB : Hid (∀ k, lo <= k -> k < hi -> ¬ (ro k ≠ 0 \/ k = fb)) := fun k h1 h2 e => by
  rcases e with e | e
  ·have := HRO.out k e; omega
  ·omega
 have HST : Hid (GS w ro db fb fg n H E0 m' (kidsT t) w7.heap.size 0 (.slice none 0 0) 0 w7) := ⟨rfl, ⟨ro6, by rw [List.take_zero, List.map_nil, List.sum_nil, List.drop_zero]; exact HP7.out, fun b hb => by cases hb⟩, own_nil _ _ _ _⟩
 generalize kidsT t = LL at *
 clear HP7 HIH Hq1 Hq3 Hq6 Hq7 HOK HC HM HRO HOWN HS Hfs HAT HSEED HGEN Hf7 Hf8 HP1 HZ
 go_wp2
 go_loopw [13, 82] (fun q iv wr => ∃ (j : Nat) (qa : Option Addr) (qc : Nat), j <= LL.length /\ iv = .int .i64 (j : Int) /\ q = .slice qa j qc /\ w7.heap.size <= wr.heap.size /\ Hid (GS w ro db fb fg n H E0 m' LL w7.heap.size j (.slice qa j qc) j wr)) (fun _ iv _ => LL.length - (intOf iv).toNat)
 case atStart => exact ⟨0, none, 0, by omega, rfl, rfl, Nat.le_refl _, HST⟩
 case round =>
  obtain ⟨j, qa, qc, hj, rfl, rfl, hw7r, hgs⟩ := hrel
  clear HST
  obtain ⟨rob, hpb, hqb⟩ := hgs.out.st
  have hwr : w.heap.size <= wr.heap.size := hpb.turn.size
  by_cases hlt : j < LL.length
  ·obtain ⟨k, hk⟩ : ∃ k, LL[j]? = some k := ⟨_, List.getElem?_eq_getElem hlt⟩
   have hkt' := HKT.out.turn hpb.turn hsz HFB.out
   obtain ⟨b, o, kk, nm, a', al', ac', tx', ka2, kl2, kc2, rfl, hb1, hb2, c0, c1, c2, c3, c4, htr⟩ := hkt'.get hk
   have hbr : b < wr.heap.size := by omega
   obtain ⟨ro1, hq1, hpg, hcall⟩ := hgs.out.call HGC.out hk htr (.cells #[.int .i64 kk, .string nm, .slice a' al' ac', .string tx', .slice ka2 kl2 kc2] 36)
   obtain ⟨hh, hhh⟩ : ∃ hh, hh = (growD n k H (growK (growD n) H (LL.take j) E0).1).2 := ⟨_, rfl⟩
   rw [<- hhh] at hcall
   have HHH : Hid (hh = (growD n k H (growK (growD n) H (LL.take j) E0).1).2) := hhh
   have HK : Hid (LL[j]? = some k) := hk
   have HQ1 : Hid (∀ b, (Value.slice qa j qc).ownBlock = some b -> ro1 b = 0) := hq1
   have HPG : Hid (PG w ro db fb fg (growK (growD n) H (LL.take j) E0).1 (((frL E0).take m').drop ((LL.take j).map (ndT n)).sum) (wr.alloc (.cells #[.int .i64 kk, .string nm, .slice a' al' ac', .string tx', .slice ka2 kl2 kc2] 36)) ro1) := hpg
   clear hkt' htr hk hhh hq1 hpg hpb hqb
   go_wp2_with fail
   refine hcall.mono ?_
   rintro e w9 ⟨rfl, ro2, hp9⟩
   obtain ⟨hrow9, hq9⟩ := hgs.out.kept hw7 HQ1.out HFL.out hp9
   have HP9 := hp9
   replace HP9 : Hid _ := HP9
   have HOW : Hid (w9.ownsRow w7.heap.size 67 1 (.slice qa j qc) j (hvals (growK (growD n) H (LL.take j) E0).2)) := hrow9
   have HQ9 : Hid (∀ b, (Value.slice qa j qc).ownBlock = some b -> ro2 b = 0) := hq9
   have hw9 : w7.heap.size <= w9.heap.size := by have := HP9.out.turn.size; simp at this; omega
   have HLN : Hid ((growK (growD n) H (LL.take j) E0).2.length = j) := hgs.out.len
   clear hcall hp9 hrow9 hq9 hgs c0 c1 c2 c3 c4
   have tok : True := trivial
   go_wp2_with (at_builtin; have _t := tok; refine wpList_app rfl _ _ rfl Try.underlying49 info42 rfl (by decide) w7.heap.size (.slice qa j qc) j (hvals (growK (growD n) H (LL.take j) E0).2) rfl (own_of_block HOW.out (fun k hk => Below.heap_alloc _ _ _ (own_block_lt HOW.out k hk).2)) (some ⟨w9.heap.size, 0, none⟩) 1 1 [.int .u64 (hh : Int)] rfl rfl (news_new w9 #[.int .u64 (hh : Int)] 67) (by simp [Value.oneCell']) (by unfold maxLen; omega) (by omega) (by simp; omega) ?_; intro v1 w11 hown1 hg1 _ hat1; clear tok _t; obtain ⟨va1, vc1, hv1⟩ := own_slice hown1; subst hv1; have hw11 : w7.heap.size <= w11.heap.size := (by have := hg1.size; simp at this; omega); have HGS : Hid (GS w ro db fb fg n H E0 m' LL w7.heap.size (j + 1) (.slice va1 (j + 1) vc1) (j + 1) w11) := (GS.more HGC.out hw7 HK.out HLN.out HPG.out HP9.out HHH.out (fun b hb => ⟨HQ9.out b hb, (own_block_lt HOW.out b hb).1⟩) (below_new' w9 _) hg1 hown1 hat1); clear hown1 hg1 hat1)
   go_roundw
   case rel => exact ⟨j + 1, va1, vc1, by omega, by go_num, rfl, hw11, HGS⟩
   case measure => simp [intOf]; omega
  ·have hje : j = LL.length := by omega
   subst hje
   have hrow := hgs.out.row
   rw [List.take_length] at hpb hrow
   obtain ⟨sa', scap', ra', rcap', L', hpd'⟩ := hpb.doc
   obtain ⟨g', q', rfl, hg2', hLq', hlc', hdc', hcells'⟩ := hpd'.slot HEI.out
   have hgl' : g' < wr.heap.size := hpd'.lt g' (by omega)
   have hx7 := (hcells' 7 _ rfl).1
   have hy7 := (hcells' 7 _ rfl).2
   have hdr : db < wr.heap.size := hpd'.lt db (by rw [hpd'.rdb]; omega)
   have hix' : (i : Int) < ((growK (growD n) H LL E0).1.S.length : Int) := by have := (List.getElem?_eq_some_iff.1 HEI.out).1; omega
   have hel : (growK (growD n) H LL E0).1.S.length <= 4096 := (by
    obtain ⟨N, gg⟩ := growK_spec n LL H E0 HGC.out.sane (by have := HGC.out.cn; omega) (.inr HGC.out.hh) HGC.out.ok
    exact gg.sane.fits.len)
   obtain ⟨kd, kt⟩ := hpd'.adopt HEI.out (l' := (growK (growD n) H LL E0).2) (v := .slice qa LL.length qc) (base := w7.heap.size) (by rw [growK_len]; exact hrow) hqb
   have HFIN : Hid (∃ ro', PG w ro db fb fg (setKI (growK (growD n) H LL E0).1 i (growK (growD n) H LL E0).2) (((frL E0).take m').drop (LL.map (ndT n)).sum) (wr.setCell ⟨g', i * 8 + 7, none⟩ (.slice qa LL.length qc)) ro') := ⟨_, by
    rw [setKI_some HEI.out]
    exact hpb.adopt kt kd (fun b hb => by
     rcases roA_from hb with h1 | h1
     ·exact .inl h1
     ·exact .inr (Nat.le_trans hw7 (own_block_lt hrow b h1).1))⟩
   generalize (growK (growD n) H LL E0).1.S.length = EL at *
   clear kd kt hpd' hpb hrow hqb hcells' hLq' hgs HEI HGC HKT
   go_wp2
   go_ret
   exact ⟨rfl, HFIN.out⟩
theorem grow_nt (n : Nat) (ih : GrowAll n) (w : World) (v : Array Value) (t : Nd (T n)) (lo hi p : Nat) (ro : Nat -> Nat) (db fb fg m : Nat) (D : Dc) (h : TreeAt w lo hi (n + 1) v t) (hsz : hi <= w.heap.size) (hro : ∀ b, ro b ≠ 0 -> ¬ (lo <= b /\ b < hi)) (hfb : hi <= fb) (hd : PDoc w ro db D) (hfr : FrAt w fb fg ((frL D).take m)) (hm : ndT (n + 1) t <= m) (hz : ro fb = 0 /\ ro fg = 0)
  (hs : Sane D) (hc : cnt takenB D.S + ndT (n + 1) t <= 4096) (hp : p = 0 \/ ∃ q, sl D p = some q) (hpl : p < 18446744073709551616) (hok : okT (n + 1) t) (hnew : (freeD D).1 = D.S.length) (hkd : t.kind = 2) :
  Calls Try.prog 37 #[.pointer (some ⟨db, 0, none⟩), .agg v, .int .u64 (p : Int), .func (.func 38) #[] #[.pointer (some ⟨fb, 0, none⟩)]] w (GrowP w ro db fb fg (growD (n + 1) t p D).1 (growD (n + 1) t p D).2 (((frL D).take m).drop (ndT (n + 1) t))) := by
 obtain ⟨a, ac, ka, kc, rfl, hal, hkl, hac, hkc, hat, hkt⟩ := id h
 unfold tv at h ⊢
 obtain ⟨ho, hkk⟩ := hok
 obtain ⟨ka', kc', hk1, -, hkat, hkm⟩ := h.kids ho
 have hko := fun W => kidsOf_any W t.kind t.name a t.attrs.length ac t.text ka t.kids.length kc
 rw [hk1] at hko
 unfold maxK at hkm
 have hndt : ndT (n + 1) t = ((kidsT t).map (ndT n)).sum + 1 := rfl
 have hc1 : cnt takenB D.S + 1 <= 4096 := by omega
 have hfs := frL_seed hs hc1 t p
 obtain ⟨f1, f2, f3, f4, f5, f6, ⟨s0, f7, f8, f9, f10⟩, f11, f12⟩ := free_facts hs hc1
 obtain ⟨q1, q2, q3, q4, q5, q6, q7, q8, q9, q10⟩ := seed_facts hs hc1 t p ho
 have hEI := (show (growK (growD n) (seedH D) (kidsT t) (seed D t p)).1.S[(freeD D).1]? = some (mkS (genAt (freeD D).2 (freeD D).1 + 1) t p []) by
  obtain ⟨N, gg⟩ := growK_spec n (kidsT t) (seedH D) (seed D t p) q1 (by rw [q3]; omega) (.inr ⟨_, by unfold sl; rw [q6]; exact q7⟩) hkk
  exact (Grown.node hs hc1 t p hp ho gg (fun h2 => by have e0 : kidsT t = [] := (by unfold kidsT; rw [if_neg (by omega)]); rw [e0]; rfl)).2.2.2)
 obtain ⟨m', rfl⟩ : ∃ m', m = m' + 1 := ⟨m - 1, by omega⟩
 rw [hfs, List.take_succ_cons] at hfr
 have HG : Hid (growD (n + 1) t p D = (setKI (growK (growD n) (seedH D) (kidsT t) (seed D t p)).1 (freeD D).1 (growK (growD n) (seedH D) (kidsT t) (seed D t p)).2, seedH D)) := rfl
 have HDR : Hid (((frL D).take (m' + 1)).drop (ndT (n + 1) t) = ((frL (seed D t p)).take m').drop ((kidsT t).map (ndT n)).sum) := by show _ = _; rw [hfs, List.take_succ_cons, hndt, List.drop_succ_cons]
 rw [HG.out, HDR.out]
 have hD2 : (freeD D).2 = { D with S := D.S ++ [zeroSl 0] } := by
  unfold freeD at hnew ⊢
  cases hi : D.S.findIdx? freeB with
  | some i =>
   rw [hi] at hnew
   have := (List.findIdx?_eq_some_iff_getElem.1 hi).1
   simp only at hnew
   omega
  | none => rfl
 obtain ⟨D1, hD1⟩ : ∃ D1 : Dc, D1 = { D with S := D.S ++ [zeroSl 0] } := ⟨_, rfl⟩
 rw [<- hD1] at hD2
 have HD1 : Hid (D1 = { D with S := D.S ++ [zeroSl 0] }) := hD1
 clear hD1
 have hseed : seed D t p = { (freeD D).2 with S := (freeD D).2.S.set (freeD D).1 (mkS (genAt (freeD D).2 (freeD D).1 + 1) t p []) } := rfl
 have hH : seedH D = hnd (freeD D).1 (genAt (freeD D).2 (freeD D).1 + 1) := rfl
 rw [hD2] at hseed hH f3 f4 f5 f6 f7 f10 hEI
 generalize hi0 : (freeD D).1 = i at *
 have hil : i < 4096 := by omega
 have HSEED : Hid (seed D t p = { D1 with S := D1.S.set i (mkS (genAt D1 i + 1) t p []) }) := hseed
 have HH : Hid (seedH D = hnd i (genAt D1 i + 1)) := hH
 have HGEN : Hid (s0.gen = genAt D1 i) := f10
 have Hq1 : Hid (Sane (seed D t p)) := q1
 have Hq3 : Hid (cnt takenB (seed D t p).S = cnt takenB D.S + 1) := q3
 have Hq6 : Hid (atI (seed D t p).S (seedH D) = some i) := q6
 have Hq7 : Hid ((seed D t p).S[i]? = some (mkS (genAt D1 i + 1) t p [])) := by rw [hD2] at q7; exact q7
 have Hf7 : Hid (D1.S[i]? = some s0) := f7
 have HEI : Hid ((growK (growD n) (seedH D) (kidsT t) (seed D t p)).1.S[i]? = some (mkS (genAt D1 i + 1) t p [])) := hEI
 have Hf8 : Hid (s0.live = false) := f8
 have Hfs : Hid (frL D = i :: frL (seed D t p)) := hfs
 have hgl : s0.gen + 1 < 4294967296 := by omega
 have hHl : seedH D < 18446744073709551616 := q10
 have HOK : Hid (∀ k ∈ kidsT t, okT n k) := hkk
 have HKT : Hid (KidsAt w lo hi n ka' (kidsT t)) := hkat
 have HAT : Hid (AttrsAt w lo hi a t.attrs) := hat
 have HC : Hid (cnt takenB D.S + ((kidsT t).map (ndT n)).sum + 1 <= 4096) := by show _ <= _; omega
 have HM : Hid (((kidsT t).map (ndT n)).sum <= m') := by show _ <= _; omega
 have HIH : Hid (GrowAll n) := ih
 have HRO : Hid (∀ b, ro b ≠ 0 -> ¬ (lo <= b /\ b < hi)) := hro
 have HZ : Hid (ro fb = 0 /\ ro fg = 0) := hz
 have HOWN : Hid (ownE t = 0) := ho
 have heg : ∀ args w, (callFunc 38 args).run Try.prog w = .ok (.enter 38 args) w := enters_of Try.func38 (by kernel_rfl) rfl
 have heg2 : ∀ args w, (callFunc 37 args).run Try.prog w = .ok (.enter 37 args) w := enters_of Try.func37 (by kernel_rfl) rfl
 have hnx := next_any (w.alloc (.cells #[.int .i64 t.kind, .string t.name, .slice a t.attrs.length ac, .string t.text, .slice ka t.kids.length kc] 36)) fb fg i _ (hfr.of_blocks (Below.heap_alloc _ _ _ hfr.lt.1) (Below.heap_alloc _ _ _ hfr.lt.2) (by simp))
 have HD : Hid (PDoc w ro db D) := hd
 have HLT : Hid (∀ b, ro b ≠ 0 -> b < w.heap.size) := hd.view.lt
 have hdbw : db < w.heap.size := hd.view.lt db hd.view.docs
 have hclv : cnt Sl.live D1.S <= 4096 := Nat.le_trans (List.length_filter_le _ _) f4
 have HFR : Hid (FrAt w fb fg (i :: (frL (seed D t p)).take m')) := hfr
 have HS : Hid (Sane D) := hs
 have HBX : Hid (Below w.heap.size w (w.alloc (.cells #[.int .i64 t.kind, .string t.name, .slice a t.attrs.length ac, .string t.text, .slice ka t.kids.length kc] 36))) := below_new' w _
 have HBC : Hid (IsCells (w.alloc (.cells #[.int .i64 t.kind, .string t.name, .slice a t.attrs.length ac, .string t.text, .slice ka t.kids.length kc] 36)) w.heap.size #[.int .i64 t.kind, .string t.name, .slice a t.attrs.length ac, .string t.text, .slice ka t.kids.length kc]) := isCells_new w _ _
 have HNEW : Hid (i = D.S.length) := hnew
 have hdl : D.S.length + 1 <= 4096 := by rw [HD1.out] at f4; simpa using f4
 clear hnew
 have HKD : Hid (t.kind = 2) := hkd
 clear hkd
 clear hd hfr hs hseed hH f2 f3 f4 f5 f6 f7 f8 f9 f10 f11 f12 q1 q2 q3 q4 q5 q6 q7 q8 q9 q10 hfs hD2 hkk hkat hat hkt hk1 h ih hro hz hc hc1 hm HG HDR hndt ho hp hi0 hEI
 generalize hE0 : seed D t p = E0 at *
 generalize hH0 : seedH D = H at *
 clear hE0 hH0
 go_enter Try.func37, Try.ntmps37
 go_wp2_with fail
 refine hnx.mono ?_
 rintro e w1 hn1
 obtain ⟨rfl, hfr1, htn⟩ := id hn1
 have HP1 : Hid (PG w ro db fb fg D ((frL E0).take m') w1 ro) := ((PG.start HD.out HFR.out HZ.out).below HBX.out).trans (PG.next (HD.out.turn (A := fun _ => False) ((Turn.refl _ _).then HBX.out (Nat.le_refl _)) (fun _ _ => not_false)) HZ.out ⟨by have := HFR.out.lt; simp; omega, by have := HFR.out.lt; simp; omega⟩ hn1)
 have hbx : Hid (IsCells w1 w.heap.size #[.int .i64 t.kind, .string t.name, .slice a t.attrs.length ac, .string t.text, .slice ka t.kids.length kc]) := HBC.out.of_block (htn.block _ (by simp) (by have := HFR.out.lt; omega))
 have hw1 : w.heap.size < w1.heap.size := by have := htn.size; simp at this; omega
 clear hfr1 htn hnx hn1 HD HFR HBX HBC
 obtain ⟨sa, scap, ra, rcap, L, hpd⟩ := HP1.out.doc
 have hdc := hpd.head.cell 0
 have hdf := hpd.head.frozen 0
 simp at hdc
 have hdbl : db < w1.heap.size := hpd.lt db (by rw [hpd.rdb]; omega)
 have HPD0 : Hid (PdS w1 ro db D sa scap ra rcap L) := hpd
 have HSL : Hid (w1.ownsRow 0 77 8 (.slice sa D.S.length scap) D.S.length (rowOf D.S L)) := hpd.slots
 have hne : ((i : Int) == (D.S.length : Int)) = true := by have := HNEW.out; simp; omega
 have hix : (i : Int) < (D.S.length : Int) + 1 := by have := HNEW.out; omega
 clear hpd
 have tok : True := trivial
 go_wp2_with (at_builtin; have _t := tok; refine wpList_app rfl _ _ rfl Try.underlying48 info75 rfl (by decide) 0 (.slice sa D.S.length scap) D.S.length (rowOf D.S L) rfl (own_of_block HSL.out (fun k hk => Below.heap_alloc _ _ _ (own_block_lt HSL.out k hk).2)) (some ⟨w1.heap.size, 0, none⟩) 1 1 (slotCells (zeroSl 0) (.slice none 0 0, .slice none 0 0)) rfl rfl (news_new w1 #[.int .u32 0, .bool false, .int .i64 0, .string ⟨#[]⟩, .slice none 0 0, .string ⟨#[]⟩, .int .u64 0, .slice none 0 0] 77) (by intro u hu; simp only [slotCells, List.mem_cons, List.not_mem_nil, or_false] at hu; rcases hu with rfl | rfl | rfl | rfl | rfl | rfl | rfl | rfl <;> rfl) (by unfold maxLen; omega) (by omega) (by simp) ?_; intro v2 wa hown2 hgr _ hat2; clear tok _t; obtain ⟨a', c', hv2⟩ := own_slice hown2; subst hv2; obtain ⟨HPB, HPE, hgw1, hbb, hwB, hdbk⟩ := PdS.app HPD0.out HLT.out HP1.out hw1 hbx.out hgr hown2 hat2; rw [<- HD1.out] at HPB HPE; obtain ⟨g, q, rfl, hg2, hLq, hlc, hdc2, hcells⟩ := HPB.slot Hf7.out; have hdg0 : ¬ db = g := (fun e => by have hx := HPB.rdb; rw [e, hg2] at hx; cases hx); have hgw0 : ¬ w.heap.size = g := hgw1 g rfl; have hgl0 : g < wa.heap.size := (by have := HPB.lt g (by rw [hg2]; omega); simpa [World.setCell] using this); have hc0 : wa.cell? ⟨g, i * 8, none⟩ = some (.int .u32 (s0.gen : Int)) := (World.cell?_of_block (w' := wa.setCell ⟨db, 0, none⟩ (.slice (some ⟨g, 0, none⟩) (D.S.length + 1) c')) (a := ⟨g, i * 8, none⟩) (Below.heap_setCell _ _ _ _ (fun e => hdg0 e.symm))).symm.trans (hcells 0 _ rfl).1; have hda := (World.cell?_of_block (w := w1) (w' := wa) (a := ⟨db, 0, none⟩) hdbk).trans hdc; have hdaf := (World.frozen?_of_block (w := w1) (w' := wa) (a := ⟨db, 0, none⟩) hdbk).trans hdf; have hdbla : db < wa.heap.size := (by have := hgr.size; simp at this; omega); have hgd0 : ¬ g = db := (fun e => hdg0 e.symm); have HPBh : Hid (PdS (wa.setCell ⟨db, 0, none⟩ (.slice (some ⟨g, 0, none⟩) (D.S.length + 1) c')) _ db D1 (some ⟨g, 0, none⟩) c' ra rcap _) := HPB; have HPEh : Hid (PG w ro db fb fg D1 _ (wa.setCell ⟨db, 0, none⟩ (.slice (some ⟨g, 0, none⟩) (D.S.length + 1) c')) _) := HPE; have HBB : Hid (IsCells (wa.setCell ⟨db, 0, none⟩ (.slice (some ⟨g, 0, none⟩) (D.S.length + 1) c')) _ _) := hbb; have HWB : Hid (w.heap.size < (wa.setCell ⟨db, 0, none⟩ (.slice (some ⟨g, 0, none⟩) (D.S.length + 1) c')).heap.size) := hwB; clear HPB HPE hbb hwB hcells hown2 hgr hat2 hg2 hLq hlc hdc2 hdbk hgw1 hbx)
 obtain ⟨wB, hwB⟩ : ∃ wB, wB = wa.setCell ⟨db, 0, none⟩ (.slice (some ⟨g, 0, none⟩) (D.S.length + 1) c') := ⟨_, rfl⟩
 rw [<- hwB] at HPBh HPEh HBB HWB
 rw [<- hwB]
 obtain ⟨roB, hroB⟩ : ∃ roB, roB = roN ro 2 (.slice (some ⟨g, 0, none⟩) (D.S.length + 1) c') := ⟨_, rfl⟩
 rw [<- hroB] at HPBh HPEh
 clear HP1 hw1 HPD0 HSL hdc hdf hdbl hc0 hda hdaf hdbla hgl0 hwB hroB
 have HPD := HPBh
 have HP1 := HPEh
 have hbx := HBB
 have hw1 := HWB.out
 clear HPBh HPEh HBB HWB
 have hgl1 : g < wB.heap.size := HPD.out.lt g (by rw [HPD.out.rs g rfl]; omega)
 have hdbl : db < wB.heap.size := HPD.out.lt db (by rw [HPD.out.rdb]; omega)
 have hixB : (i : Int) < (D1.S.length : Int) := by have := (List.getElem?_eq_some_iff.1 Hf7.out).1; omega
 have hha : Calls Try.prog 50 #[.int .i64 (i : Int), .int .u32 ((s0.gen : Int) + 1)] wB (fun e w' => e = .returned (.int .u64 (H : Int)) /\ w' = wB) := by
  have := handle_any wB i (s0.gen + 1) (by omega) hgl
  rw [HH.out, <- HGEN.out]
  exact this
 refine hha.mono ?_
 rintro e w2 ⟨rfl, rfl⟩
 clear hha
 have hb0 := hbx.out.cell 0
 have hb1 := hbx.out.cell 1
 have hb2 := hbx.out.cell 2
 have hb3 := hbx.out.cell 3
 have hb4 := hbx.out.cell 4
 simp at hb0 hb1 hb2 hb3 hb4
 have hkb : (t.kind == 2) = true := beq_iff_eq.2 HKD.out
 go_wp2_with fail
 obtain ⟨w4, hw4⟩ : ∃ w4, w4 = w2.alloc (.cells #[.int .u32 ((s0.gen : Int) + 1), .bool true, .int .i64 t.kind, .string ⟨#[]⟩, .slice none 0 0, .string t.text, .int .u64 (p : Int), .slice none 0 0] 77) := ⟨_, rfl⟩
 rw [<- hw4]
 have HI4 : Hid (IsCells w4 w2.heap.size #[.int .u32 ((s0.gen : Int) + 1), .bool true, .int .i64 t.kind, .string ⟨#[]⟩, .slice none 0 0, .string t.text, .int .u64 (p : Int), .slice none 0 0]) := by rw [hw4]; exact isCells_new w2 _ 77
 have HB4 : Hid (Below w2.heap.size w2 w4) := by rw [hw4]; exact below_new' w2 _
 have HO4 : Hid (w4.ownsRow w2.heap.size 99 2 (.slice none 0 0) (mkS (genAt D1 i + 1) t p []).attrs.length (attrCells (mkS (genAt D1 i + 1) t p []).attrs)) := by
  have e : (mkS (genAt D1 i + 1) t p []).attrs = [] := by show (if t.kind = 2 then [] else t.attrs) = _; rw [if_pos HKD.out]
  rw [e]
  exact own_nil _ _ _ _
 have HNM : Hid ((mkS (genAt D1 i + 1) t p []).name = ⟨#[]⟩) := by show (if t.kind = 2 then _ else t.name) = _; rw [if_pos HKD.out]
 have HTX : Hid ((mkS (genAt D1 i + 1) t p []).text = t.text) := by show (if t.kind = 2 then _ else _) = _; rw [if_pos HKD.out]
 clear hw4
 obtain ⟨tn, htn⟩ : ∃ tn, tn = (⟨#[]⟩ : ByteArray) := ⟨_, rfl⟩
 obtain ⟨tx, htx⟩ : ∃ tx, tx = t.text := ⟨_, rfl⟩
 rw [<- htn] at HI4 HNM
 rw [<- htx] at HI4 HTX
 clear htn htx
 obtain ⟨g', q, hgg, hg2, hLq, hlc, hdc, hcells⟩ := HPD.out.slot Hf7.out
 obtain rfl : g = g' := by cases hgg; rfl
 have hi0 := HI4.out.cell 0
 have hi1 := HI4.out.cell 1
 have hi2 := HI4.out.cell 2
 have hi3 := HI4.out.cell 3
 have hi4 := HI4.out.cell 4
 have hi5 := HI4.out.cell 5
 have hi6 := HI4.out.cell 6
 have hi7 := HI4.out.cell 7
 simp at hi0 hi1 hi2 hi3 hi4 hi5 hi6 hi7
 have hdc4 := (HB4.out.cell (p := ⟨db, 0, none⟩) hdbl).trans hdc
 have hx0 := (HB4.out.cell (p := ⟨g, i * 8, none⟩) hgl1).trans (hcells 0 _ rfl).1
 have hx1 := (HB4.out.cell (p := ⟨g, i * 8 + 1, none⟩) hgl1).trans (hcells 1 _ rfl).1
 have hx2 := (HB4.out.cell (p := ⟨g, i * 8 + 2, none⟩) hgl1).trans (hcells 2 _ rfl).1
 have hx3 := (HB4.out.cell (p := ⟨g, i * 8 + 3, none⟩) hgl1).trans (hcells 3 _ rfl).1
 have hx4 := (HB4.out.cell (p := ⟨g, i * 8 + 4, none⟩) hgl1).trans (hcells 4 _ rfl).1
 have hx5 := (HB4.out.cell (p := ⟨g, i * 8 + 5, none⟩) hgl1).trans (hcells 5 _ rfl).1
 have hx6 := (HB4.out.cell (p := ⟨g, i * 8 + 6, none⟩) hgl1).trans (hcells 6 _ rfl).1
 have hx7 := (HB4.out.cell (p := ⟨g, i * 8 + 7, none⟩) hgl1).trans (hcells 7 _ rfl).1
 have hy0 := (HB4.out.frozen (p := ⟨g, i * 8, none⟩) hgl1).trans (hcells 0 _ rfl).2
 have hy1 := (HB4.out.frozen (p := ⟨g, i * 8 + 1, none⟩) hgl1).trans (hcells 1 _ rfl).2
 have hy2 := (HB4.out.frozen (p := ⟨g, i * 8 + 2, none⟩) hgl1).trans (hcells 2 _ rfl).2
 have hy3 := (HB4.out.frozen (p := ⟨g, i * 8 + 3, none⟩) hgl1).trans (hcells 3 _ rfl).2
 have hy4 := (HB4.out.frozen (p := ⟨g, i * 8 + 4, none⟩) hgl1).trans (hcells 4 _ rfl).2
 have hy5 := (HB4.out.frozen (p := ⟨g, i * 8 + 5, none⟩) hgl1).trans (hcells 5 _ rfl).2
 have hy6 := (HB4.out.frozen (p := ⟨g, i * 8 + 6, none⟩) hgl1).trans (hcells 6 _ rfl).2
 have hy7 := (HB4.out.frozen (p := ⟨g, i * 8 + 7, none⟩) hgl1).trans (hcells 7 _ rfl).2
 have hdg : ¬ db = g := fun e => by rw [<- e, HPD.out.rdb] at hg2; cases hg2
 have hgd : ¬ g = db := fun e => hdg e.symm
 have hlv : w2.cell? ⟨db, 2, none⟩ = some (.int .i64 (cnt Sl.live D1.S : Int)) := HPD.out.head.cell 2
 have hlv4 := (HB4.out.cell (p := ⟨db, 2, none⟩) hdbl).trans hlv
 have hlf4 := (HB4.out.frozen (p := ⟨db, 2, none⟩) hdbl).trans (HPD.out.head.frozen 2)
 clear hcells hLq hgg hdc hlv
 go_region
 obtain ⟨w5, hw5⟩ : ∃ w5, w5 = ((((((((w4.setCell ⟨g, i * 8, none⟩ (.int .u32 ((s0.gen : Int) + 1))).setCell ⟨g, i * 8 + 1, none⟩ (.bool true)).setCell ⟨g, i * 8 + 2, none⟩ (.int .i64 t.kind)).setCell ⟨g, i * 8 + 3, none⟩ (.string tn)).setCell ⟨g, i * 8 + 4, none⟩ (.slice none 0 0)).setCell ⟨g, i * 8 + 5, none⟩ (.string tx)).setCell ⟨g, i * 8 + 6, none⟩ (.int .u64 (p : Int))).setCell ⟨g, i * 8 + 7, none⟩ (.slice none 0 0)).drew := ⟨_, rfl⟩
 rw [<- hw5]
 have hw5' : w5 = (plantW w4 g i (mkS (genAt D1 i + 1) t p []) (.slice none 0 0)).drew := by
  rw [hw5]
  unfold plantW
  rw [HNM.out, HTX.out]
  show _ = ((((((((w4.setCell ⟨g, i * 8, none⟩ (.int .u32 ((genAt D1 i : Int) + 1))).setCell ⟨g, i * 8 + 1, none⟩ (.bool true)).setCell ⟨g, i * 8 + 2, none⟩ (.int .i64 t.kind)).setCell ⟨g, i * 8 + 3, none⟩ (.string tn)).setCell ⟨g, i * 8 + 4, none⟩ (.slice none 0 0)).setCell ⟨g, i * 8 + 5, none⟩ (.string tx)).setCell ⟨g, i * 8 + 6, none⟩ (.int .u64 (p : Int))).setCell ⟨g, i * 8 + 7, none⟩ (.slice none 0 0)).drew
  rw [<- HGEN.out]
 obtain ⟨k1, k2, k3⟩ := HPD.out.plant Hf7.out Hf8.out (mkS (genAt D1 i + 1) t p []) rfl rfl HB4.out HO4.out (Nat.le_refl _)
 rw [<- HSEED.out] at k1
 have hT5 : Turn (fun b => b = g) w4 w5 := by
  rw [hw5']
  exact (Turn.plant (A := fun b => b = g) (g := g) (Turn.refl _ _) (.inl rfl) _ _ _).drew
 have HP6 : Hid (∃ ro6, PG w ro db fb fg E0 ((frL E0).take m') (w5.setCell ⟨db, 2, none⟩ (.int .i64 ((cnt Sl.live D1.S : Int) + 1))) ro6) := by
  have h0 := HP1.out.trans (PG.step HP1.out.fz1 HP1.out.fr k2 k1 k3)
  refine ⟨roA roB (2 * i + 4) (.slice none 0 0), ?_⟩
  rw [hw5', setCell_drew]
  exact h0.below ((Below.refl _ _).drew)
 have hlv5 := (World.cell?_of_block (w := w4) (w' := w5) (a := ⟨db, 2, none⟩) (hT5.block db (by have := HB4.out.size; omega) hdg)).trans hlv4
 have hlf5 := (World.frozen?_of_block (w := w4) (w' := w5) (a := ⟨db, 2, none⟩) (hT5.block db (by have := HB4.out.size; omega) hdg)).trans hlf4
 have hgw : ¬ w.heap.size = g := hgw0
 have hdw : ¬ w.heap.size = db := by omega
 have hdw2 : ¬ db = w.heap.size := by omega
 have hbx5 : IsCells w5 w.heap.size #[.int .i64 t.kind, .string t.name, .slice a t.attrs.length ac, .string t.text, .slice ka t.kids.length kc] := (hbx.out.of_block (HB4.out.block _ hw1)).of_block (hT5.block _ (by have := HB4.out.size; omega) hgw)
 have hs5 : w.heap.size < w5.heap.size := by have := hT5.size; have := HB4.out.size; omega
 have hb50 := hbx5.cell 0
 have hb51 := hbx5.cell 1
 have hb52 := hbx5.cell 2
 have hb53 := hbx5.cell 3
 have hb54 := hbx5.cell 4
 simp at hb50 hb51 hb52 hb53 hb54
 have hdb5 : db < w5.heap.size := by omega
 clear hw5 hw5' k1 k2 k3 hT5 hi0 hi1 hi2 hi3 hi4 hi5 hi6 hi7 hx0 hx1 hx2 hx3 hx4 hx5 hx6 hx7 hy0 hy1 hy2 hy3 hy4 hy5 hy6 hy7 hdc4 hlv4 hlf4 HI4 HB4 HO4 HNM HTX HPD hb0 hb1 hb2 hb3 hb4 hbx hbx5 hdbl hgl1 hlc hg2
 go_wp2_with fail
 refine (hko _).mono ?_
 rintro e w7 ⟨rfl, hb7⟩
 obtain ⟨ro6, hp6⟩ := HP6.out
 have HP7 : Hid (PG w ro db fb fg E0 ((frL E0).take m') w7 ro6) := hp6.below hb7
 clear hb7 hp6 HP6 hko hlv5 hlf5 hb50 hb51 hb52 hb53 hb54
 have HGC : Hid (GC w ro db fb fg n H E0 m' lo hi ka' (kidsT t)) := ⟨HIH.out, Hq1.out, by have := Hq3.out; have := HC.out; omega, HM.out, ⟨mkS (genAt D1 i + 1) t p [], by unfold sl; rw [Hq6.out]; exact Hq7.out⟩, hHl, HOK.out, HKT.out, hsz, HRO.out, hfb⟩
 have hw7 : w.heap.size <= w7.heap.size := HP7.out.turn.size
 have HFL : Hid (fb < w.heap.size) := HP7.out.fbl.1
 have HFB : Hid (∀ k, lo <= k -> k < hi -> ¬ (ro k ≠ 0 \/ k = fb)) := fun k h1 h2 e => by
  rcases e with e | e
  ·have := HRO.out k e; omega
  ·omega
 have HST : Hid (GS w ro db fb fg n H E0 m' (kidsT t) w7.heap.size 0 (.slice none 0 0) 0 w7) := ⟨rfl, ⟨ro6, by rw [List.take_zero, List.map_nil, List.sum_nil, List.drop_zero]; exact HP7.out, fun b hb => by cases hb⟩, own_nil _ _ _ _⟩
 generalize kidsT t = LL at *
 clear HP7 HIH Hq1 Hq3 Hq6 Hq7 HOK HC HM HRO HOWN HS Hfs HAT HSEED HGEN Hf7 Hf8 HP1 HZ
 go_wp2
 go_loopw [13, 82] (fun q iv wr => ∃ (j : Nat) (qa : Option Addr) (qc : Nat), j <= LL.length /\ iv = .int .i64 (j : Int) /\ q = .slice qa j qc /\ w7.heap.size <= wr.heap.size /\ Hid (GS w ro db fb fg n H E0 m' LL w7.heap.size j (.slice qa j qc) j wr)) (fun _ iv _ => LL.length - (intOf iv).toNat)
 case atStart => exact ⟨0, none, 0, by omega, rfl, rfl, Nat.le_refl _, HST⟩
 case round =>
  obtain ⟨j, qa, qc, hj, rfl, rfl, hw7r, hgs⟩ := hrel
  clear HST
  obtain ⟨rob, hpb, hqb⟩ := hgs.out.st
  have hwr : w.heap.size <= wr.heap.size := hpb.turn.size
  by_cases hlt : j < LL.length
  ·obtain ⟨k, hk⟩ : ∃ k, LL[j]? = some k := ⟨_, List.getElem?_eq_getElem hlt⟩
   have hkt' := HKT.out.turn hpb.turn hsz HFB.out
   obtain ⟨b, o, kk, nm, a', al', ac', tx', ka2, kl2, kc2, rfl, hb1, hb2, c0, c1, c2, c3, c4, htr⟩ := hkt'.get hk
   have hbr : b < wr.heap.size := by omega
   obtain ⟨ro1, hq1, hpg, hcall⟩ := hgs.out.call HGC.out hk htr (.cells #[.int .i64 kk, .string nm, .slice a' al' ac', .string tx', .slice ka2 kl2 kc2] 36)
   obtain ⟨hh, hhh⟩ : ∃ hh, hh = (growD n k H (growK (growD n) H (LL.take j) E0).1).2 := ⟨_, rfl⟩
   rw [<- hhh] at hcall
   have HHH : Hid (hh = (growD n k H (growK (growD n) H (LL.take j) E0).1).2) := hhh
   have HK : Hid (LL[j]? = some k) := hk
   have HQ1 : Hid (∀ b, (Value.slice qa j qc).ownBlock = some b -> ro1 b = 0) := hq1
   have HPG : Hid (PG w ro db fb fg (growK (growD n) H (LL.take j) E0).1 (((frL E0).take m').drop ((LL.take j).map (ndT n)).sum) (wr.alloc (.cells #[.int .i64 kk, .string nm, .slice a' al' ac', .string tx', .slice ka2 kl2 kc2] 36)) ro1) := hpg
   clear hkt' htr hk hhh hq1 hpg hpb hqb
   go_wp2_with fail
   refine hcall.mono ?_
   rintro e w9 ⟨rfl, ro2, hp9⟩
   obtain ⟨hrow9, hq9⟩ := hgs.out.kept hw7 HQ1.out HFL.out hp9
   have HP9 := hp9
   replace HP9 : Hid _ := HP9
   have HOW : Hid (w9.ownsRow w7.heap.size 67 1 (.slice qa j qc) j (hvals (growK (growD n) H (LL.take j) E0).2)) := hrow9
   have HQ9 : Hid (∀ b, (Value.slice qa j qc).ownBlock = some b -> ro2 b = 0) := hq9
   have hw9 : w7.heap.size <= w9.heap.size := by have := HP9.out.turn.size; simp at this; omega
   have HLN : Hid ((growK (growD n) H (LL.take j) E0).2.length = j) := hgs.out.len
   clear hcall hp9 hrow9 hq9 hgs c0 c1 c2 c3 c4
   have tok : True := trivial
   go_wp2_with (at_builtin; have _t := tok; refine wpList_app rfl _ _ rfl Try.underlying49 info42 rfl (by decide) w7.heap.size (.slice qa j qc) j (hvals (growK (growD n) H (LL.take j) E0).2) rfl (own_of_block HOW.out (fun k hk => Below.heap_alloc _ _ _ (own_block_lt HOW.out k hk).2)) (some ⟨w9.heap.size, 0, none⟩) 1 1 [.int .u64 (hh : Int)] rfl rfl (news_new w9 #[.int .u64 (hh : Int)] 67) (by simp [Value.oneCell']) (by unfold maxLen; omega) (by omega) (by simp; omega) ?_; intro v1 w11 hown1 hg1 _ hat1; clear tok _t; obtain ⟨va1, vc1, hv1⟩ := own_slice hown1; subst hv1; have hw11 : w7.heap.size <= w11.heap.size := (by have := hg1.size; simp at this; omega); have HGS : Hid (GS w ro db fb fg n H E0 m' LL w7.heap.size (j + 1) (.slice va1 (j + 1) vc1) (j + 1) w11) := (GS.more HGC.out hw7 HK.out HLN.out HPG.out HP9.out HHH.out (fun b hb => ⟨HQ9.out b hb, (own_block_lt HOW.out b hb).1⟩) (below_new' w9 _) hg1 hown1 hat1); clear hown1 hg1 hat1)
   go_roundw
   case rel => exact ⟨j + 1, va1, vc1, by omega, by go_num, rfl, hw11, HGS⟩
   case measure => simp [intOf]; omega
  ·have hje : j = LL.length := by omega
   subst hje
   have hrow := hgs.out.row
   rw [List.take_length] at hpb hrow
   obtain ⟨sa', scap', ra', rcap', L', hpd'⟩ := hpb.doc
   obtain ⟨g', q', rfl, hg2', hLq', hlc', hdc', hcells'⟩ := hpd'.slot HEI.out
   have hgl' : g' < wr.heap.size := hpd'.lt g' (by omega)
   have hx7 := (hcells' 7 _ rfl).1
   have hy7 := (hcells' 7 _ rfl).2
   have hdr : db < wr.heap.size := hpd'.lt db (by rw [hpd'.rdb]; omega)
   have hix' : (i : Int) < ((growK (growD n) H LL E0).1.S.length : Int) := by have := (List.getElem?_eq_some_iff.1 HEI.out).1; omega
   have hel : (growK (growD n) H LL E0).1.S.length <= 4096 := (by
    obtain ⟨N, gg⟩ := growK_spec n LL H E0 HGC.out.sane (by have := HGC.out.cn; omega) (.inr HGC.out.hh) HGC.out.ok
    exact gg.sane.fits.len)
   obtain ⟨kd, kt⟩ := hpd'.adopt HEI.out (l' := (growK (growD n) H LL E0).2) (v := .slice qa LL.length qc) (base := w7.heap.size) (by rw [growK_len]; exact hrow) hqb
   have HFIN : Hid (∃ ro', PG w ro db fb fg (setKI (growK (growD n) H LL E0).1 i (growK (growD n) H LL E0).2) (((frL E0).take m').drop (LL.map (ndT n)).sum) (wr.setCell ⟨g', i * 8 + 7, none⟩ (.slice qa LL.length qc)) ro') := ⟨_, by
    rw [setKI_some HEI.out]
    exact hpb.adopt kt kd (fun b hb => by
     rcases roA_from hb with h1 | h1
     ·exact .inl h1
     ·exact .inr (Nat.le_trans hw7 (own_block_lt hrow b h1).1))⟩
   generalize (growK (growD n) H LL E0).1.S.length = EL at *
   clear kd kt hpd' hpb hrow hqb hcells' hLq' hgs HEI HGC HKT
   go_wp2
   go_ret
   exact ⟨rfl, HFIN.out⟩
theorem grow_any : ∀ (n : Nat), GrowAll n
 | 0 => fun _ _ _ _ _ _ _ _ _ _ _ _ h => h.elim
 | n + 1 => by
  intro w v t lo hi p ro db fb fg m D h hsz hro hfb hd hfr hm hz hs hc hp hpl hok
  have ih := grow_any n
  have hnd : ndT (n + 1) t = ((kidsT t).map (ndT n)).sum + 1 := rfl
  have f1 := (free_facts hs (by omega)).1
  by_cases hnew : (freeD D).1 = D.S.length
  ·by_cases hk : Nd.kind (α := T n) t = 2
   ·exact grow_nt n ih w v t lo hi p ro db fb fg m D h hsz hro hfb hd hfr hm hz hs hc hp hpl hok hnew hk
   ·exact grow_ne n ih w v t lo hi p ro db fb fg m D h hsz hro hfb hd hfr hm hz hs hc hp hpl hok hnew hk
  ·have hold : (freeD D).1 < D.S.length := by omega
   by_cases hk : Nd.kind (α := T n) t = 2
   ·exact grow_ot n ih w v t lo hi p ro db fb fg m D h hsz hro hfb hd hfr hm hz hs hc hp hpl hok hold hk
   ·exact grow_oe n ih w v t lo hi p ro db fb fg m D h hsz hro hfb hd hfr hm hz hs hc hp hpl hok hold hk
def insE (D : Dc) (wh : Int) (a n : Nat) (t : T n) : Int :=
 if isPlaceB wh a = false then 1 else if (chk n t 1 0).2 ≠ 0 then (chk n t 1 0).2 else if (placeE D wh a).2 ≠ 0 then (placeE D wh a).2
 else if 64 < (ups D (placeE D wh a).1).length + htT n t then 32 else if 4096 < cnt takenB D.S + ndT n t then 33 else 0
def insD (D : Dc) (wh : Int) (a n : Nat) (t : T n) : Dc × Nat :=
 if insE D wh a n t = 0 then (putD (growD n t (placeE D wh a).1 D).1 (growD n t (placeE D wh a).1 D).2 (placeE D wh a).1 wh a, (growD n t (placeE D wh a).1 D).2) else (D, 0)
theorem live_of {D : Dc} {a : Nat} (hla : liveB D a = true) : a = 0 \/ ∃ t, sl D a = some t := by
 unfold liveB at hla
 by_cases h0 : a = 0
 ·exact .inl h0
 ·right
  simp [h0] at hla
  obtain ⟨i, hi⟩ := Option.isSome_iff_exists.1 hla
  obtain ⟨t, h1, _⟩ := sl_of_at hi
  exact ⟨t, h1⟩
theorem insE_eq {D : Dc} (hw : WF D) {wh : Int} {a n : Nat} {t : T n} (hpl : isPlaceB wh a = true) (hck : (chk n t 1 0).2 = 0) :
  insE D wh a n t = if liveB D a = false then 8 else if fitsE D (arD D wh a) (htT n t) ≠ 0 then fitsE D (arD D wh a) (htT n t) else if 4096 < cnt takenB D.S + ndT n t then 33 else 0 := by
 unfold insE
 rw [if_neg (by simp [hpl]), if_neg (by simp [hck])]
 cases hla : liveB D a with
 | false =>
  have h0 : a ≠ 0 := fun e => by simp [liveB, e] at hla
  have hn : sl D a = none := by
   cases h : sl D a with
   | none => rfl
   | some t =>
    obtain ⟨j, hj, _⟩ := sl_live h
    simp [liveB, hj] at hla
  have : (placeE D wh a).2 = 8 := by simp [placeE, h0, hn]
  rw [if_pos (by simp [this]), this, if_pos rfl]
 | true =>
  rw [if_neg (show ¬ (true = false) by simp)]
  have hlive := live_of hla
  rcases placeE_err D wh a with he | he | he
  ·obtain ⟨f1, f2, f3, f4⟩ := place_facts hw he hpl
   rw [if_neg (by simp [he]), f3]
   have hno : ¬ ∃ q, sl D (arD D wh a) = some q /\ q.kind = 2 := fun ⟨q, h1, h2⟩ => f1 q (by rw [f3]; exact h1) h2
   unfold fitsE
   rw [if_neg hno]
   by_cases hd : 64 < (ups D (arD D wh a)).length + htT n t
   ·simp [hd]
   ·simp [hd]
  ·exfalso
   unfold placeE at he
   split at he
   ·simp at he
   ·rename_i h0
    obtain ⟨q, hq⟩ := hlive.resolve_left h0
    rw [hq] at he
    simp only at he
    split at he
    ·split at he <;> simp at he
    ·simp at he
  ·rw [if_pos (by simp [he]), he]
   have h0 : a ≠ 0 := fun e => by
    subst e
    simp [placeE] at he
   obtain ⟨q, hq⟩ := hlive.resolve_left h0
   have hk : wh <= 2 /\ q.kind = 2 := by
    unfold placeE at he
    rw [if_neg h0, hq] at he
    simp only at he
    by_cases h1 : wh <= 2
    ·by_cases h2 : q.kind = 2
     ·exact ⟨h1, h2⟩
     ·simp [h1, h2] at he
    ·simp [h1] at he
   have har : arD D wh a = a := by unfold arD; rw [if_neg (by omega)]
   have hf : fitsE D (arD D wh a) (htT n t) = 31 := by
    unfold fitsE
    rw [har, if_pos ⟨q, hq, hk.2⟩]
   rw [if_pos (by rw [hf]; decide), hf]
theorem insE_ok {D : Dc} {wh : Int} {a n : Nat} {t : T n} (h : insE D wh a n t = 0) : isPlaceB wh a = true /\ (chk n t 1 0).2 = 0 /\ (placeE D wh a).2 = 0 /\ (ups D (placeE D wh a).1).length + htT n t <= 64 /\ cnt takenB D.S + ndT n t <= 4096 := by
 unfold insE at h
 split at h
 ·cases h
 ·rename_i h1
  split at h
  ·rename_i h2
   exact absurd h h2
  ·rename_i h2
   split at h
   ·rename_i h3
    exact absurd h h3
   ·rename_i h3
    split at h
    ·cases h
    ·rename_i h4
     split at h
     ·cases h
     ·rename_i h5
      exact ⟨by simpa using h1, by simpa using h2, by simpa using h3, by omega, by omega⟩
theorem ins_grown {D : Dc} (hw : WF D) {wh : Int} {a n : Nat} {t : T n} (h : insE D wh a n t = 0) : ∃ N, Grown D (growD n t (placeE D wh a).1 D).1 (placeE D wh a).1 N [(growD n t (placeE D wh a).1 D).2] (ndT n t) (htT n t) /\
  (∃ s, sl (growD n t (placeE D wh a).1 D).1 (growD n t (placeE D wh a).1 D).2 = some s /\ s.parent = (placeE D wh a).1) := by
 obtain ⟨h1, h2, h3, h4, h5⟩ := insE_ok h
 obtain ⟨o1, o2, o3⟩ := chk_ok n t 1 0 (by omega) (by omega) (by omega) h2
 obtain ⟨N, g⟩ := grow_spec n t (placeE D wh a).1 D hw.sane h5 (placeE_live hw h3).1 o1
 refine ⟨N, g, ?_⟩
 obtain ⟨s, k1, k2⟩ := g.par (growD n t (placeE D wh a).1 D).2 (g.sub _ (by simp))
 refine ⟨s, k1, ?_⟩
 rcases k2 with ⟨_, k3⟩ | ⟨k3, _⟩
 ·exact k3
 ·exact (k3 (by simp)).elim
theorem putD_same {E : Dc} {h p : Nat} {wh : Int} {a : Nat} {s : Sl} (hs : sl E h = some s) (hp : s.parent = p) : putD E h p wh a = setL E p (ins (lst E p) (whereN (lst E p) wh a) h) := by
 unfold putD
 obtain ⟨t, h1, h2⟩ := sl_setL_into (p := p) (l' := ins (lst E p) (whereN (lst E p) wh a) h) hs
 exact setPar_same h1 (h2.trans hp)
theorem WF.insD {D : Dc} (hw : WF D) (wh : Int) (a n : Nat) (t : T n) : WF (insD D wh a n t).1 := by
 unfold Go.Proofs.Ytmapmkogjhinmaa.insD
 split
 ·rename_i h
  obtain ⟨h1, h2, h3, h4, h5⟩ := insE_ok h
  obtain ⟨N, g, s, k1, k2⟩ := ins_grown hw h
  obtain ⟨f1, f2, f3, f4⟩ := place_facts hw h3 h1
  show WF (putD _ _ _ _ _)
  rw [putD_same k1 k2]
  exact hw.ins g (placeE_live hw h3).1 f1 h4
 ·exact hw
end Go.Proofs.Ytmapmkogjhinmaa
