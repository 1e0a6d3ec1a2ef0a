/- The program's grow. -/
import Derived.Test.YtnhajpeijkbbeaaGreatB17
import Derived.Test.YtnhajpeijkbbeaaGreatB18
namespace Go.Proofs.YtnhajpeijkbbeaaGreat
open Go.RowKit
set_option maxRecDepth 100000
set_option maxHeartbeats 4000000
set_option linter.unusedVariables false
set_option linter.unusedSimpArgs false
theorem grow_nt (n : Nat) (ih : GrowAll n) (w : World) (v : Array Value) (t : Nd (T n)) (lo hi p : Nat) (ro : Nat -> Nat) (db fb fg m : Nat) (D : Dc) (h : TreeAt w lo hi (n + 1) v t) (hsz : hi <= w.heap.size) (hro : ∀ b, ro b ≠ 0 -> ¬ (lo <= b /\ b < hi)) (hfb : hi <= fb) (hd : PDoc w ro db D) (hfr : FrAt w fb fg ((frL D).take m)) (hm : ndT (n + 1) t <= m) (hz : ro fb = 0 /\ ro fg = 0)
  (hs : Sane D) (hc : cnt takenB D.S + ndT (n + 1) t <= 4096) (hp : p = 0 \/ ∃ q, sl D p = some q) (hpl : p < 18446744073709551616) (hok : okT (n + 1) t) (hnew : (freeD D).1 = D.S.length) (hkd : t.kind = 2) :
  Calls Tryz.prog 69 #[.pointer (some ⟨db, 0, none⟩), .agg v, .int .u64 (p : Int), .func (.func 70) #[] #[.pointer (some ⟨fb, 0, none⟩)]] w (GrowP w ro db fb fg (growD (n + 1) t p D).1 (growD (n + 1) t p D).2 (((frL D).take m).drop (ndT (n + 1) t))) := by
 obtain ⟨a, ac, ka, kc, rfl, hal, hkl, hac, hkc, hat, hkt⟩ := id h
 unfold tv at h ⊢
 obtain ⟨ho, hkk⟩ := hok
 obtain ⟨ka', kc', hk1, -, hkat, hkm⟩ := h.kids ho
 have hko := fun W => kidsOf_any W t.kind t.name a t.attrs.length ac t.text ka t.kids.length kc
 rw [hk1] at hko
 unfold maxK at hkm
 have hndt : ndT (n + 1) t = ((kidsT t).map (ndT n)).sum + 1 := rfl
 have hc1 : cnt takenB D.S + 1 <= 4096 := by omega
 have hfs := frL_seed hs hc1 t p
 obtain ⟨f1, f2, f3, f4, f5, f6, ⟨s0, f7, f8, f9, f10⟩, f11, f12⟩ := free_facts hs hc1
 obtain ⟨q1, q2, q3, q4, q5, q6, q7, q8, q9, q10⟩ := seed_facts hs hc1 t p ho
 have hEI := (show (growK (growD n) (seedH D) (kidsT t) (seed D t p)).1.S[(freeD D).1]? = some (mkS (genAt (freeD D).2 (freeD D).1 + 1) t p []) by
  obtain ⟨N, gg⟩ := growK_spec n (kidsT t) (seedH D) (seed D t p) q1 (by rw [q3]; omega) (.inr ⟨_, by unfold sl; rw [q6]; exact q7⟩) hkk
  exact (Grown.node hs hc1 t p hp ho gg (fun h2 => by have e0 : kidsT t = [] := (by unfold kidsT; rw [if_neg (by omega)]); rw [e0]; rfl)).2.2.2)
 obtain ⟨m', rfl⟩ : ∃ m', m = m' + 1 := ⟨m - 1, by omega⟩
 rw [hfs, List.take_succ_cons] at hfr
 have HG : Hid (growD (n + 1) t p D = (setKI (growK (growD n) (seedH D) (kidsT t) (seed D t p)).1 (freeD D).1 (growK (growD n) (seedH D) (kidsT t) (seed D t p)).2, seedH D)) := rfl
 have HDR : Hid (((frL D).take (m' + 1)).drop (ndT (n + 1) t) = ((frL (seed D t p)).take m').drop ((kidsT t).map (ndT n)).sum) := by show _ = _; rw [hfs, List.take_succ_cons, hndt, List.drop_succ_cons]
 rw [HG.out, HDR.out]
 have hD2 : (freeD D).2 = { D with S := D.S ++ [zeroSl 0] } := by
  unfold freeD at hnew ⊢
  cases hi : D.S.findIdx? freeB with
  | some i =>
   rw [hi] at hnew
   have := (List.findIdx?_eq_some_iff_getElem.1 hi).1
   simp only at hnew
   omega
  | none => rfl
 obtain ⟨D1, hD1⟩ : ∃ D1 : Dc, D1 = { D with S := D.S ++ [zeroSl 0] } := ⟨_, rfl⟩
 rw [<- hD1] at hD2
 have HD1 : Hid (D1 = { D with S := D.S ++ [zeroSl 0] }) := hD1
 clear hD1
 have hseed : seed D t p = { (freeD D).2 with S := (freeD D).2.S.set (freeD D).1 (mkS (genAt (freeD D).2 (freeD D).1 + 1) t p []) } := rfl
 have hH : seedH D = hnd (freeD D).1 (genAt (freeD D).2 (freeD D).1 + 1) := rfl
 rw [hD2] at hseed hH f3 f4 f5 f6 f7 f10 hEI
 generalize hi0 : (freeD D).1 = i at *
 have hil : i < 4096 := by omega
 have HSEED : Hid (seed D t p = { D1 with S := D1.S.set i (mkS (genAt D1 i + 1) t p []) }) := hseed
 have HH : Hid (seedH D = hnd i (genAt D1 i + 1)) := hH
 have HGEN : Hid (s0.gen = genAt D1 i) := f10
 have Hq1 : Hid (Sane (seed D t p)) := q1
 have Hq3 : Hid (cnt takenB (seed D t p).S = cnt takenB D.S + 1) := q3
 have Hq6 : Hid (atI (seed D t p).S (seedH D) = some i) := q6
 have Hq7 : Hid ((seed D t p).S[i]? = some (mkS (genAt D1 i + 1) t p [])) := by rw [hD2] at q7; exact q7
 have Hf7 : Hid (D1.S[i]? = some s0) := f7
 have HEI : Hid ((growK (growD n) (seedH D) (kidsT t) (seed D t p)).1.S[i]? = some (mkS (genAt D1 i + 1) t p [])) := hEI
 have Hf8 : Hid (s0.live = false) := f8
 have Hfs : Hid (frL D = i :: frL (seed D t p)) := hfs
 have hgl : s0.gen + 1 < 4294967296 := by omega
 have hHl : seedH D < 18446744073709551616 := q10
 have HOK : Hid (∀ k ∈ kidsT t, okT n k) := hkk
 have HKT : Hid (KidsAt w lo hi n ka' (kidsT t)) := hkat
 have HAT : Hid (AttrsAt w lo hi a t.attrs) := hat
 have HC : Hid (cnt takenB D.S + ((kidsT t).map (ndT n)).sum + 1 <= 4096) := by show _ <= _; omega
 have HM : Hid (((kidsT t).map (ndT n)).sum <= m') := by show _ <= _; omega
 have HIH : Hid (GrowAll n) := ih
 have HRO : Hid (∀ b, ro b ≠ 0 -> ¬ (lo <= b /\ b < hi)) := hro
 have HZ : Hid (ro fb = 0 /\ ro fg = 0) := hz
 have HOWN : Hid (ownE t = 0) := ho
 have heg : ∀ args w, (callFunc 70 args).run Tryz.prog w = .ok (.enter 70 args) w := enters_of Tryz.func70 (by kernel_rfl) rfl
 have heg2 : ∀ args w, (callFunc 69 args).run Tryz.prog w = .ok (.enter 69 args) w := enters_of Tryz.func69 (by kernel_rfl) rfl
 have hnx := next_any (w.alloc (.cells #[.int .i64 t.kind, .string t.name, .slice a t.attrs.length ac, .string t.text, .slice ka t.kids.length kc] 46)) fb fg i _ (hfr.of_blocks (Below.heap_alloc _ _ _ hfr.lt.1) (Below.heap_alloc _ _ _ hfr.lt.2) (by simp))
 have HD : Hid (PDoc w ro db D) := hd
 have HLT : Hid (∀ b, ro b ≠ 0 -> b < w.heap.size) := hd.view.lt
 have hdbw : db < w.heap.size := hd.view.lt db hd.view.docs
 have hclv : cnt Sl.live D1.S <= 4096 := Nat.le_trans (List.length_filter_le _ _) f4
 have HFR : Hid (FrAt w fb fg (i :: (frL (seed D t p)).take m')) := hfr
 have HS : Hid (Sane D) := hs
 have HBX : Hid (Below w.heap.size w (w.alloc (.cells #[.int .i64 t.kind, .string t.name, .slice a t.attrs.length ac, .string t.text, .slice ka t.kids.length kc] 46))) := below_new' w _
 have HBC : Hid (IsCells (w.alloc (.cells #[.int .i64 t.kind, .string t.name, .slice a t.attrs.length ac, .string t.text, .slice ka t.kids.length kc] 46)) w.heap.size #[.int .i64 t.kind, .string t.name, .slice a t.attrs.length ac, .string t.text, .slice ka t.kids.length kc]) := isCells_new w _ _
 have HNEW : Hid (i = D.S.length) := hnew
 have hdl : D.S.length + 1 <= 4096 := by rw [HD1.out] at f4; simpa using f4
 clear hnew
 have HKD : Hid (t.kind = 2) := hkd
 clear hkd
 clear hd hfr hs hseed hH f2 f3 f4 f5 f6 f7 f8 f9 f10 f11 f12 q1 q2 q3 q4 q5 q6 q7 q8 q9 q10 hfs hD2 hkk hkat hat hkt hk1 h ih hro hz hc hc1 hm HG HDR hndt ho hp hi0 hEI
 generalize hE0 : seed D t p = E0 at *
 generalize hH0 : seedH D = H at *
 clear hE0 hH0
 go_enter Tryz.func69, Tryz.ntmps69
 go_wp2_with fail
 refine hnx.mono ?_
 rintro e w1 hn1
 obtain ⟨rfl, hfr1, htn⟩ := id hn1
 have HP1 : Hid (PG w ro db fb fg D ((frL E0).take m') w1 ro) := ((PG.start HD.out HFR.out HZ.out).below HBX.out).trans (PG.next (HD.out.turn (A := fun _ => False) ((Turn.refl _ _).then HBX.out (Nat.le_refl _)) (fun _ _ => not_false)) HZ.out ⟨by have := HFR.out.lt; simp; omega, by have := HFR.out.lt; simp; omega⟩ hn1)
 have hbx : Hid (IsCells w1 w.heap.size #[.int .i64 t.kind, .string t.name, .slice a t.attrs.length ac, .string t.text, .slice ka t.kids.length kc]) := HBC.out.of_block (htn.block _ (by simp) (by have := HFR.out.lt; omega))
 have hw1 : w.heap.size < w1.heap.size := by have := htn.size; simp at this; omega
 clear hfr1 htn hnx hn1 HD HFR HBX HBC
 obtain ⟨sa, scap, ra, rcap, L, hpd⟩ := HP1.out.doc
 have hdc := hpd.head.cell 0
 have hdf := hpd.head.frozen 0
 simp at hdc
 have hdbl : db < w1.heap.size := hpd.lt db (by rw [hpd.rdb]; omega)
 have HPD0 : Hid (PdS w1 ro db D sa scap ra rcap L) := hpd
 have HSL : Hid (w1.ownsRow 0 75 8 (.slice sa D.S.length scap) D.S.length (rowOf D.S L)) := hpd.slots
 have hne : ((i : Int) == (D.S.length : Int)) = true := by have := HNEW.out; simp; omega
 have hix : (i : Int) < (D.S.length : Int) + 1 := by have := HNEW.out; omega
 clear hpd
 have tok : True := trivial
 go_wp2_with (at_builtin; have _t := tok; refine wpList_app rfl _ _ rfl Tryz.underlying22 info75 rfl (by decide) 0 (.slice sa D.S.length scap) D.S.length (rowOf D.S L) rfl (own_of_block HSL.out (fun k hk => Below.heap_alloc _ _ _ (own_block_lt HSL.out k hk).2)) (some ⟨w1.heap.size, 0, none⟩) 1 1 (slotCells (zeroSl 0) (.slice none 0 0, .slice none 0 0)) rfl rfl (news_new w1 #[.int .u32 0, .bool false, .int .i64 0, .string ⟨#[]⟩, .slice none 0 0, .string ⟨#[]⟩, .int .u64 0, .slice none 0 0] 75) (by intro u hu; simp only [slotCells, List.mem_cons, List.not_mem_nil, or_false] at hu; rcases hu with rfl | rfl | rfl | rfl | rfl | rfl | rfl | rfl <;> rfl) (by unfold maxLen; omega) (by omega) (by simp) ?_; intro v2 wa hown2 hgr _ hat2; clear tok _t; obtain ⟨a', c', hv2⟩ := own_slice hown2; subst hv2; obtain ⟨HPB, HPE, hgw1, hbb, hwB, hdbk⟩ := PdS.app HPD0.out HLT.out HP1.out hw1 hbx.out hgr hown2 hat2; rw [<- HD1.out] at HPB HPE; obtain ⟨g, q, rfl, hg2, hLq, hlc, hdc2, hcells⟩ := HPB.slot Hf7.out; have hdg0 : ¬ db = g := (fun e => by have hx := HPB.rdb; rw [e, hg2] at hx; cases hx); have hgw0 : ¬ w.heap.size = g := hgw1 g rfl; have hgl0 : g < wa.heap.size := (by have := HPB.lt g (by rw [hg2]; omega); simpa [World.setCell] using this); have hc0 : wa.cell? ⟨g, i * 8, none⟩ = some (.int .u32 (s0.gen : Int)) := (World.cell?_of_block (w' := wa.setCell ⟨db, 0, none⟩ (.slice (some ⟨g, 0, none⟩) (D.S.length + 1) c')) (a := ⟨g, i * 8, none⟩) (Below.heap_setCell _ _ _ _ (fun e => hdg0 e.symm))).symm.trans (hcells 0 _ rfl).1; have hda := (World.cell?_of_block (w := w1) (w' := wa) (a := ⟨db, 0, none⟩) hdbk).trans hdc; have hdaf := (World.frozen?_of_block (w := w1) (w' := wa) (a := ⟨db, 0, none⟩) hdbk).trans hdf; have hdbla : db < wa.heap.size := (by have := hgr.size; simp at this; omega); have hgd0 : ¬ g = db := (fun e => hdg0 e.symm); have HPBh : Hid (PdS (wa.setCell ⟨db, 0, none⟩ (.slice (some ⟨g, 0, none⟩) (D.S.length + 1) c')) _ db D1 (some ⟨g, 0, none⟩) c' ra rcap _) := HPB; have HPEh : Hid (PG w ro db fb fg D1 _ (wa.setCell ⟨db, 0, none⟩ (.slice (some ⟨g, 0, none⟩) (D.S.length + 1) c')) _) := HPE; have HBB : Hid (IsCells (wa.setCell ⟨db, 0, none⟩ (.slice (some ⟨g, 0, none⟩) (D.S.length + 1) c')) _ _) := hbb; have HWB : Hid (w.heap.size < (wa.setCell ⟨db, 0, none⟩ (.slice (some ⟨g, 0, none⟩) (D.S.length + 1) c')).heap.size) := hwB; clear HPB HPE hbb hwB hcells hown2 hgr hat2 hg2 hLq hlc hdc2 hdbk hgw1 hbx)
 obtain ⟨wB, hwB⟩ : ∃ wB, wB = wa.setCell ⟨db, 0, none⟩ (.slice (some ⟨g, 0, none⟩) (D.S.length + 1) c') := ⟨_, rfl⟩
 rw [<- hwB] at HPBh HPEh HBB HWB
 rw [<- hwB]
 obtain ⟨roB, hroB⟩ : ∃ roB, roB = roN ro 2 (.slice (some ⟨g, 0, none⟩) (D.S.length + 1) c') := ⟨_, rfl⟩
 rw [<- hroB] at HPBh HPEh
 clear HP1 hw1 HPD0 HSL hdc hdf hdbl hc0 hda hdaf hdbla hgl0 hwB hroB
 have HPD := HPBh
 have HP1 := HPEh
 have hbx := HBB
 have hw1 := HWB.out
 clear HPBh HPEh HBB HWB
 have hgl1 : g < wB.heap.size := HPD.out.lt g (by rw [HPD.out.rs g rfl]; omega)
 have hdbl : db < wB.heap.size := HPD.out.lt db (by rw [HPD.out.rdb]; omega)
 have hixB : (i : Int) < (D1.S.length : Int) := by have := (List.getElem?_eq_some_iff.1 Hf7.out).1; omega
 have hha : Calls Tryz.prog 104 #[.int .i64 (i : Int), .int .u32 ((s0.gen : Int) + 1)] wB (fun e w' => e = .returned (.int .u64 (H : Int)) /\ w' = wB) := by
  have := handle_any wB i (s0.gen + 1) (by omega) hgl
  rw [HH.out, <- HGEN.out]
  exact this
 refine hha.mono ?_
 rintro e w2 ⟨rfl, rfl⟩
 clear hha
 have hb0 := hbx.out.cell 0
 have hb1 := hbx.out.cell 1
 have hb2 := hbx.out.cell 2
 have hb3 := hbx.out.cell 3
 have hb4 := hbx.out.cell 4
 simp at hb0 hb1 hb2 hb3 hb4
 have hkb : (t.kind == 2) = true := beq_iff_eq.2 HKD.out
 go_wp2_with fail
 obtain ⟨w4, hw4⟩ : ∃ w4, w4 = w2.alloc (.cells #[.int .u32 ((s0.gen : Int) + 1), .bool true, .int .i64 t.kind, .string ⟨#[]⟩, .slice none 0 0, .string t.text, .int .u64 (p : Int), .slice none 0 0] 75) := ⟨_, rfl⟩
 rw [<- hw4]
 have HI4 : Hid (IsCells w4 w2.heap.size #[.int .u32 ((s0.gen : Int) + 1), .bool true, .int .i64 t.kind, .string ⟨#[]⟩, .slice none 0 0, .string t.text, .int .u64 (p : Int), .slice none 0 0]) := by rw [hw4]; exact isCells_new w2 _ 75
 have HB4 : Hid (Below w2.heap.size w2 w4) := by rw [hw4]; exact below_new' w2 _
 have HO4 : Hid (w4.ownsRow w2.heap.size 128 2 (.slice none 0 0) (mkS (genAt D1 i + 1) t p []).attrs.length (attrCells (mkS (genAt D1 i + 1) t p []).attrs)) := by
  have e : (mkS (genAt D1 i + 1) t p []).attrs = [] := by show (if t.kind = 2 then [] else t.attrs) = _; rw [if_pos HKD.out]
  rw [e]
  exact own_nil _ _ _ _
 have HNM : Hid ((mkS (genAt D1 i + 1) t p []).name = ⟨#[]⟩) := by show (if t.kind = 2 then _ else t.name) = _; rw [if_pos HKD.out]
 have HTX : Hid ((mkS (genAt D1 i + 1) t p []).text = t.text) := by show (if t.kind = 2 then _ else _) = _; rw [if_pos HKD.out]
 clear hw4
 obtain ⟨tn, htn⟩ : ∃ tn, tn = (⟨#[]⟩ : ByteArray) := ⟨_, rfl⟩
 obtain ⟨tx, htx⟩ : ∃ tx, tx = t.text := ⟨_, rfl⟩
 rw [<- htn] at HI4 HNM
 rw [<- htx] at HI4 HTX
 clear htn htx
 obtain ⟨g', q, hgg, hg2, hLq, hlc, hdc, hcells⟩ := HPD.out.slot Hf7.out
 obtain rfl : g = g' := by cases hgg; rfl
 have hi0 := HI4.out.cell 0
 have hi1 := HI4.out.cell 1
 have hi2 := HI4.out.cell 2
 have hi3 := HI4.out.cell 3
 have hi4 := HI4.out.cell 4
 have hi5 := HI4.out.cell 5
 have hi6 := HI4.out.cell 6
 have hi7 := HI4.out.cell 7
 simp at hi0 hi1 hi2 hi3 hi4 hi5 hi6 hi7
 have hdc4 := (HB4.out.cell (p := ⟨db, 0, none⟩) hdbl).trans hdc
 have hx0 := (HB4.out.cell (p := ⟨g, i * 8, none⟩) hgl1).trans (hcells 0 _ rfl).1
 have hx1 := (HB4.out.cell (p := ⟨g, i * 8 + 1, none⟩) hgl1).trans (hcells 1 _ rfl).1
 have hx2 := (HB4.out.cell (p := ⟨g, i * 8 + 2, none⟩) hgl1).trans (hcells 2 _ rfl).1
 have hx3 := (HB4.out.cell (p := ⟨g, i * 8 + 3, none⟩) hgl1).trans (hcells 3 _ rfl).1
 have hx4 := (HB4.out.cell (p := ⟨g, i * 8 + 4, none⟩) hgl1).trans (hcells 4 _ rfl).1
 have hx5 := (HB4.out.cell (p := ⟨g, i * 8 + 5, none⟩) hgl1).trans (hcells 5 _ rfl).1
 have hx6 := (HB4.out.cell (p := ⟨g, i * 8 + 6, none⟩) hgl1).trans (hcells 6 _ rfl).1
 have hx7 := (HB4.out.cell (p := ⟨g, i * 8 + 7, none⟩) hgl1).trans (hcells 7 _ rfl).1
 have hy0 := (HB4.out.frozen (p := ⟨g, i * 8, none⟩) hgl1).trans (hcells 0 _ rfl).2
 have hy1 := (HB4.out.frozen (p := ⟨g, i * 8 + 1, none⟩) hgl1).trans (hcells 1 _ rfl).2
 have hy2 := (HB4.out.frozen (p := ⟨g, i * 8 + 2, none⟩) hgl1).trans (hcells 2 _ rfl).2
 have hy3 := (HB4.out.frozen (p := ⟨g, i * 8 + 3, none⟩) hgl1).trans (hcells 3 _ rfl).2
 have hy4 := (HB4.out.frozen (p := ⟨g, i * 8 + 4, none⟩) hgl1).trans (hcells 4 _ rfl).2
 have hy5 := (HB4.out.frozen (p := ⟨g, i * 8 + 5, none⟩) hgl1).trans (hcells 5 _ rfl).2
 have hy6 := (HB4.out.frozen (p := ⟨g, i * 8 + 6, none⟩) hgl1).trans (hcells 6 _ rfl).2
 have hy7 := (HB4.out.frozen (p := ⟨g, i * 8 + 7, none⟩) hgl1).trans (hcells 7 _ rfl).2
 have hdg : ¬ db = g := fun e => by rw [<- e, HPD.out.rdb] at hg2; cases hg2
 have hgd : ¬ g = db := fun e => hdg e.symm
 have hlv : w2.cell? ⟨db, 2, none⟩ = some (.int .i64 (cnt Sl.live D1.S : Int)) := HPD.out.head.cell 2
 have hlv4 := (HB4.out.cell (p := ⟨db, 2, none⟩) hdbl).trans hlv
 have hlf4 := (HB4.out.frozen (p := ⟨db, 2, none⟩) hdbl).trans (HPD.out.head.frozen 2)
 clear hcells hLq hgg hdc hlv
 go_region
 obtain ⟨w5, hw5⟩ : ∃ w5, w5 = ((((((((w4.setCell ⟨g, i * 8, none⟩ (.int .u32 ((s0.gen : Int) + 1))).setCell ⟨g, i * 8 + 1, none⟩ (.bool true)).setCell ⟨g, i * 8 + 2, none⟩ (.int .i64 t.kind)).setCell ⟨g, i * 8 + 3, none⟩ (.string tn)).setCell ⟨g, i * 8 + 4, none⟩ (.slice none 0 0)).setCell ⟨g, i * 8 + 5, none⟩ (.string tx)).setCell ⟨g, i * 8 + 6, none⟩ (.int .u64 (p : Int))).setCell ⟨g, i * 8 + 7, none⟩ (.slice none 0 0)).drew := ⟨_, rfl⟩
 rw [<- hw5]
 have hw5' : w5 = (plantW w4 g i (mkS (genAt D1 i + 1) t p []) (.slice none 0 0)).drew := by
  rw [hw5]
  unfold plantW
  rw [HNM.out, HTX.out]
  show _ = ((((((((w4.setCell ⟨g, i * 8, none⟩ (.int .u32 ((genAt D1 i : Int) + 1))).setCell ⟨g, i * 8 + 1, none⟩ (.bool true)).setCell ⟨g, i * 8 + 2, none⟩ (.int .i64 t.kind)).setCell ⟨g, i * 8 + 3, none⟩ (.string tn)).setCell ⟨g, i * 8 + 4, none⟩ (.slice none 0 0)).setCell ⟨g, i * 8 + 5, none⟩ (.string tx)).setCell ⟨g, i * 8 + 6, none⟩ (.int .u64 (p : Int))).setCell ⟨g, i * 8 + 7, none⟩ (.slice none 0 0)).drew
  rw [<- HGEN.out]
 obtain ⟨k1, k2, k3⟩ := HPD.out.plant Hf7.out Hf8.out (mkS (genAt D1 i + 1) t p []) rfl rfl HB4.out HO4.out (Nat.le_refl _)
 rw [<- HSEED.out] at k1
 have hT5 : Turn (fun b => b = g) w4 w5 := by
  rw [hw5']
  exact (Turn.plant (A := fun b => b = g) (g := g) (Turn.refl _ _) (.inl rfl) _ _ _).drew
 have HP6 : Hid (∃ ro6, PG w ro db fb fg E0 ((frL E0).take m') (w5.setCell ⟨db, 2, none⟩ (.int .i64 ((cnt Sl.live D1.S : Int) + 1))) ro6) := by
  have h0 := HP1.out.trans (PG.step HP1.out.fz1 HP1.out.fr k2 k1 k3)
  refine ⟨roA roB (2 * i + 4) (.slice none 0 0), ?_⟩
  rw [hw5', setCell_drew]
  exact h0.below ((Below.refl _ _).drew)
 have hlv5 := (World.cell?_of_block (w := w4) (w' := w5) (a := ⟨db, 2, none⟩) (hT5.block db (by have := HB4.out.size; omega) hdg)).trans hlv4
 have hlf5 := (World.frozen?_of_block (w := w4) (w' := w5) (a := ⟨db, 2, none⟩) (hT5.block db (by have := HB4.out.size; omega) hdg)).trans hlf4
 have hgw : ¬ w.heap.size = g := hgw0
 have hdw : ¬ w.heap.size = db := by omega
 have hdw2 : ¬ db = w.heap.size := by omega
 have hbx5 : IsCells w5 w.heap.size #[.int .i64 t.kind, .string t.name, .slice a t.attrs.length ac, .string t.text, .slice ka t.kids.length kc] := (hbx.out.of_block (HB4.out.block _ hw1)).of_block (hT5.block _ (by have := HB4.out.size; omega) hgw)
 have hs5 : w.heap.size < w5.heap.size := by have := hT5.size; have := HB4.out.size; omega
 have hb50 := hbx5.cell 0
 have hb51 := hbx5.cell 1
 have hb52 := hbx5.cell 2
 have hb53 := hbx5.cell 3
 have hb54 := hbx5.cell 4
 simp at hb50 hb51 hb52 hb53 hb54
 have hdb5 : db < w5.heap.size := by omega
 clear hw5 hw5' k1 k2 k3 hT5 hi0 hi1 hi2 hi3 hi4 hi5 hi6 hi7 hx0 hx1 hx2 hx3 hx4 hx5 hx6 hx7 hy0 hy1 hy2 hy3 hy4 hy5 hy6 hy7 hdc4 hlv4 hlf4 HI4 HB4 HO4 HNM HTX HPD hb0 hb1 hb2 hb3 hb4 hbx hbx5 hdbl hgl1 hlc hg2
 go_wp2_with fail
 refine (hko _).mono ?_
 rintro e w7 ⟨rfl, hb7⟩
 obtain ⟨ro6, hp6⟩ := HP6.out
 have HP7 : Hid (PG w ro db fb fg E0 ((frL E0).take m') w7 ro6) := hp6.below hb7
 clear hb7 hp6 HP6 hko hlv5 hlf5 hb50 hb51 hb52 hb53 hb54
 have HGC : Hid (GC w ro db fb fg n H E0 m' lo hi ka' (kidsT t)) := ⟨HIH.out, Hq1.out, by have := Hq3.out; have := HC.out; omega, HM.out, ⟨mkS (genAt D1 i + 1) t p [], by unfold sl; rw [Hq6.out]; exact Hq7.out⟩, hHl, HOK.out, HKT.out, hsz, HRO.out, hfb⟩
 have hw7 : w.heap.size <= w7.heap.size := HP7.out.turn.size
 have HFL : Hid (fb < w.heap.size) := HP7.out.fbl.1
 have HFB : Hid (∀ k, lo <= k -> k < hi -> ¬ (ro k ≠ 0 \/ k = fb)) := fun k h1 h2 e => by
  rcases e with e | e
  ·have := HRO.out k e; omega
  ·omega
 have HST : Hid (GS w ro db fb fg n H E0 m' (kidsT t) w7.heap.size 0 (.slice none 0 0) 0 w7) := ⟨rfl, ⟨ro6, by rw [List.take_zero, List.map_nil, List.sum_nil, List.drop_zero]; exact HP7.out, fun b hb => by cases hb⟩, own_nil _ _ _ _⟩
 generalize kidsT t = LL at *
 clear HP7 HIH Hq1 Hq3 Hq6 Hq7 HOK HC HM HRO HOWN HS Hfs HAT HSEED HGEN Hf7 Hf8 HP1 HZ
 go_wp2
 go_loopw [13, 82] (fun q iv wr => ∃ (j : Nat) (qa : Option Addr) (qc : Nat), j <= LL.length /\ iv = .int .i64 (j : Int) /\ q = .slice qa j qc /\ w7.heap.size <= wr.heap.size /\ Hid (GS w ro db fb fg n H E0 m' LL w7.heap.size j (.slice qa j qc) j wr)) (fun _ iv _ => LL.length - (intOf iv).toNat)
 case atStart => exact ⟨0, none, 0, by omega, rfl, rfl, Nat.le_refl _, HST⟩
 case round =>
  obtain ⟨j, qa, qc, hj, rfl, rfl, hw7r, hgs⟩ := hrel
  clear HST
  obtain ⟨rob, hpb, hqb⟩ := hgs.out.st
  have hwr : w.heap.size <= wr.heap.size := hpb.turn.size
  by_cases hlt : j < LL.length
  ·obtain ⟨k, hk⟩ : ∃ k, LL[j]? = some k := ⟨_, List.getElem?_eq_getElem hlt⟩
   have hkt' := HKT.out.turn hpb.turn hsz HFB.out
   obtain ⟨b, o, kk, nm, a', al', ac', tx', ka2, kl2, kc2, rfl, hb1, hb2, c0, c1, c2, c3, c4, htr⟩ := hkt'.get hk
   have hbr : b < wr.heap.size := by omega
   obtain ⟨ro1, hq1, hpg, hcall⟩ := hgs.out.call HGC.out hk htr (.cells #[.int .i64 kk, .string nm, .slice a' al' ac', .string tx', .slice ka2 kl2 kc2] 46)
   obtain ⟨hh, hhh⟩ : ∃ hh, hh = (growD n k H (growK (growD n) H (LL.take j) E0).1).2 := ⟨_, rfl⟩
   rw [<- hhh] at hcall
   have HHH : Hid (hh = (growD n k H (growK (growD n) H (LL.take j) E0).1).2) := hhh
   have HK : Hid (LL[j]? = some k) := hk
   have HQ1 : Hid (∀ b, (Value.slice qa j qc).ownBlock = some b -> ro1 b = 0) := hq1
   have HPG : Hid (PG w ro db fb fg (growK (growD n) H (LL.take j) E0).1 (((frL E0).take m').drop ((LL.take j).map (ndT n)).sum) (wr.alloc (.cells #[.int .i64 kk, .string nm, .slice a' al' ac', .string tx', .slice ka2 kl2 kc2] 46)) ro1) := hpg
   clear hkt' htr hk hhh hq1 hpg hpb hqb
   go_wp2_with fail
   refine hcall.mono ?_
   rintro e w9 ⟨rfl, ro2, hp9⟩
   obtain ⟨hrow9, hq9⟩ := hgs.out.kept hw7 HQ1.out HFL.out hp9
   have HP9 := hp9
   replace HP9 : Hid _ := HP9
   have HOW : Hid (w9.ownsRow w7.heap.size 42 1 (.slice qa j qc) j (hvals (growK (growD n) H (LL.take j) E0).2)) := hrow9
   have HQ9 : Hid (∀ b, (Value.slice qa j qc).ownBlock = some b -> ro2 b = 0) := hq9
   have hw9 : w7.heap.size <= w9.heap.size := by have := HP9.out.turn.size; simp at this; omega
   have HLN : Hid ((growK (growD n) H (LL.take j) E0).2.length = j) := hgs.out.len
   clear hcall hp9 hrow9 hq9 hgs c0 c1 c2 c3 c4
   have tok : True := trivial
   go_wp2_with (at_builtin; have _t := tok; refine wpList_app rfl _ _ rfl Tryz.underlying23 info42 rfl (by decide) w7.heap.size (.slice qa j qc) j (hvals (growK (growD n) H (LL.take j) E0).2) rfl (own_of_block HOW.out (fun k hk => Below.heap_alloc _ _ _ (own_block_lt HOW.out k hk).2)) (some ⟨w9.heap.size, 0, none⟩) 1 1 [.int .u64 (hh : Int)] rfl rfl (news_new w9 #[.int .u64 (hh : Int)] 42) (by simp [Value.oneCell']) (by unfold maxLen; omega) (by omega) (by simp; omega) ?_; intro v1 w11 hown1 hg1 _ hat1; clear tok _t; obtain ⟨va1, vc1, hv1⟩ := own_slice hown1; subst hv1; have hw11 : w7.heap.size <= w11.heap.size := (by have := hg1.size; simp at this; omega); have HGS : Hid (GS w ro db fb fg n H E0 m' LL w7.heap.size (j + 1) (.slice va1 (j + 1) vc1) (j + 1) w11) := (GS.more HGC.out hw7 HK.out HLN.out HPG.out HP9.out HHH.out (fun b hb => ⟨HQ9.out b hb, (own_block_lt HOW.out b hb).1⟩) (below_new' w9 _) hg1 hown1 hat1); clear hown1 hg1 hat1)
   go_roundw
   case rel => exact ⟨j + 1, va1, vc1, by omega, by go_num, rfl, hw11, HGS⟩
   case measure => simp [intOf]; omega
  ·have hje : j = LL.length := by omega
   subst hje
   have hrow := hgs.out.row
   rw [List.take_length] at hpb hrow
   obtain ⟨sa', scap', ra', rcap', L', hpd'⟩ := hpb.doc
   obtain ⟨g', q', rfl, hg2', hLq', hlc', hdc', hcells'⟩ := hpd'.slot HEI.out
   have hgl' : g' < wr.heap.size := hpd'.lt g' (by omega)
   have hx7 := (hcells' 7 _ rfl).1
   have hy7 := (hcells' 7 _ rfl).2
   have hdr : db < wr.heap.size := hpd'.lt db (by rw [hpd'.rdb]; omega)
   have hix' : (i : Int) < ((growK (growD n) H LL E0).1.S.length : Int) := by have := (List.getElem?_eq_some_iff.1 HEI.out).1; omega
   have hel : (growK (growD n) H LL E0).1.S.length <= 4096 := (by
    obtain ⟨N, gg⟩ := growK_spec n LL H E0 HGC.out.sane (by have := HGC.out.cn; omega) (.inr HGC.out.hh) HGC.out.ok
    exact gg.sane.fits.len)
   obtain ⟨kd, kt⟩ := hpd'.adopt HEI.out (l' := (growK (growD n) H LL E0).2) (v := .slice qa LL.length qc) (base := w7.heap.size) (by rw [growK_len]; exact hrow) hqb
   have HFIN : Hid (∃ ro', PG w ro db fb fg (setKI (growK (growD n) H LL E0).1 i (growK (growD n) H LL E0).2) (((frL E0).take m').drop (LL.map (ndT n)).sum) (wr.setCell ⟨g', i * 8 + 7, none⟩ (.slice qa LL.length qc)) ro') := ⟨_, by
    rw [setKI_some HEI.out]
    exact hpb.adopt kt kd (fun b hb => by
     rcases roA_from hb with h1 | h1
     ·exact .inl h1
     ·exact .inr (Nat.le_trans hw7 (own_block_lt hrow b h1).1))⟩
   generalize (growK (growD n) H LL E0).1.S.length = EL at *
   clear kd kt hpd' hpb hrow hqb hcells' hLq' hgs HEI HGC HKT
   go_wp2
   go_ret
   exact ⟨rfl, HFIN.out⟩
theorem grow_any : ∀ (n : Nat), GrowAll n
 | 0 => fun _ _ _ _ _ _ _ _ _ _ _ _ h => h.elim
 | n + 1 => by
  intro w v t lo hi p ro db fb fg m D h hsz hro hfb hd hfr hm hz hs hc hp hpl hok
  have ih := grow_any n
  have hnd : ndT (n + 1) t = ((kidsT t).map (ndT n)).sum + 1 := rfl
  have f1 := (free_facts hs (by omega)).1
  by_cases hnew : (freeD D).1 = D.S.length
  ·by_cases hk : Nd.kind (α := T n) t = 2
   ·exact grow_nt n ih w v t lo hi p ro db fb fg m D h hsz hro hfb hd hfr hm hz hs hc hp hpl hok hnew hk
   ·exact grow_ne n ih w v t lo hi p ro db fb fg m D h hsz hro hfb hd hfr hm hz hs hc hp hpl hok hnew hk
  ·have hold : (freeD D).1 < D.S.length := by omega
   by_cases hk : Nd.kind (α := T n) t = 2
   ·exact grow_ot n ih w v t lo hi p ro db fb fg m D h hsz hro hfb hd hfr hm hz hs hc hp hpl hok hold hk
   ·exact grow_oe n ih w v t lo hi p ro db fb fg m D h hsz hro hfb hd hfr hm hz hs hc hp hpl hok hold hk
def insE (D : Dc) (wh : Int) (a n : Nat) (t : T n) : Int :=
 if isPlaceB wh a = false then 1 else if (chk n t 1 0).2 ≠ 0 then (chk n t 1 0).2 else if (placeE D wh a).2 ≠ 0 then (placeE D wh a).2
 else if 64 < (ups D (placeE D wh a).1).length + htT n t then 32 else if 4096 < cnt takenB D.S + ndT n t then 33 else 0
def insD (D : Dc) (wh : Int) (a n : Nat) (t : T n) : Dc × Nat :=
 if insE D wh a n t = 0 then (putD (growD n t (placeE D wh a).1 D).1 (growD n t (placeE D wh a).1 D).2 (placeE D wh a).1 wh a, (growD n t (placeE D wh a).1 D).2) else (D, 0)
theorem live_of {D : Dc} {a : Nat} (hla : liveB D a = true) : a = 0 \/ ∃ t, sl D a = some t := by
 unfold liveB at hla
 by_cases h0 : a = 0
 ·exact .inl h0
 ·right
  simp [h0] at hla
  obtain ⟨i, hi⟩ := Option.isSome_iff_exists.1 hla
  obtain ⟨t, h1, _⟩ := sl_of_at hi
  exact ⟨t, h1⟩
theorem insE_eq {D : Dc} (hw : WF D) {wh : Int} {a n : Nat} {t : T n} (hpl : isPlaceB wh a = true) (hck : (chk n t 1 0).2 = 0) :
  insE D wh a n t = if liveB D a = false then 8 else if fitsE D (arD D wh a) (htT n t) ≠ 0 then fitsE D (arD D wh a) (htT n t) else if 4096 < cnt takenB D.S + ndT n t then 33 else 0 := by
 unfold insE
 rw [if_neg (by simp [hpl]), if_neg (by simp [hck])]
 cases hla : liveB D a with
 | false =>
  have h0 : a ≠ 0 := fun e => by simp [liveB, e] at hla
  have hn : sl D a = none := by
   cases h : sl D a with
   | none => rfl
   | some t =>
    obtain ⟨j, hj, _⟩ := sl_live h
    simp [liveB, hj] at hla
  have : (placeE D wh a).2 = 8 := by simp [placeE, h0, hn]
  rw [if_pos (by simp [this]), this, if_pos rfl]
 | true =>
  rw [if_neg (show ¬ (true = false) by simp)]
  have hlive := live_of hla
  rcases placeE_err D wh a with he | he | he
  ·obtain ⟨f1, f2, f3, f4⟩ := place_facts hw he hpl
   rw [if_neg (by simp [he]), f3]
   have hno : ¬ ∃ q, sl D (arD D wh a) = some q /\ q.kind = 2 := fun ⟨q, h1, h2⟩ => f1 q (by rw [f3]; exact h1) h2
   unfold fitsE
   rw [if_neg hno]
   by_cases hd : 64 < (ups D (arD D wh a)).length + htT n t
   ·simp [hd]
   ·simp [hd]
  ·exfalso
   unfold placeE at he
   split at he
   ·simp at he
   ·rename_i h0
    obtain ⟨q, hq⟩ := hlive.resolve_left h0
    rw [hq] at he
    simp only at he
    split at he
    ·split at he <;> simp at he
    ·simp at he
  ·rw [if_pos (by simp [he]), he]
   have h0 : a ≠ 0 := fun e => by
    subst e
    simp [placeE] at he
   obtain ⟨q, hq⟩ := hlive.resolve_left h0
   have hk : wh <= 2 /\ q.kind = 2 := by
    unfold placeE at he
    rw [if_neg h0, hq] at he
    simp only at he
    by_cases h1 : wh <= 2
    ·by_cases h2 : q.kind = 2
     ·exact ⟨h1, h2⟩
     ·simp [h1, h2] at he
    ·simp [h1] at he
   have har : arD D wh a = a := by unfold arD; rw [if_neg (by omega)]
   have hf : fitsE D (arD D wh a) (htT n t) = 31 := by
    unfold fitsE
    rw [har, if_pos ⟨q, hq, hk.2⟩]
   rw [if_pos (by rw [hf]; decide), hf]
theorem insE_ok {D : Dc} {wh : Int} {a n : Nat} {t : T n} (h : insE D wh a n t = 0) : isPlaceB wh a = true /\ (chk n t 1 0).2 = 0 /\ (placeE D wh a).2 = 0 /\ (ups D (placeE D wh a).1).length + htT n t <= 64 /\ cnt takenB D.S + ndT n t <= 4096 := by
 unfold insE at h
 split at h
 ·cases h
 ·rename_i h1
  split at h
  ·rename_i h2
   exact absurd h h2
  ·rename_i h2
   split at h
   ·rename_i h3
    exact absurd h h3
   ·rename_i h3
    split at h
    ·cases h
    ·rename_i h4
     split at h
     ·cases h
     ·rename_i h5
      exact ⟨by simpa using h1, by simpa using h2, by simpa using h3, by omega, by omega⟩
theorem ins_grown {D : Dc} (hw : WF D) {wh : Int} {a n : Nat} {t : T n} (h : insE D wh a n t = 0) : ∃ N, Grown D (growD n t (placeE D wh a).1 D).1 (placeE D wh a).1 N [(growD n t (placeE D wh a).1 D).2] (ndT n t) (htT n t) /\
  (∃ s, sl (growD n t (placeE D wh a).1 D).1 (growD n t (placeE D wh a).1 D).2 = some s /\ s.parent = (placeE D wh a).1) := by
 obtain ⟨h1, h2, h3, h4, h5⟩ := insE_ok h
 obtain ⟨o1, o2, o3⟩ := chk_ok n t 1 0 (by omega) (by omega) (by omega) h2
 obtain ⟨N, g⟩ := grow_spec n t (placeE D wh a).1 D hw.sane h5 (placeE_live hw h3).1 o1
 refine ⟨N, g, ?_⟩
 obtain ⟨s, k1, k2⟩ := g.par (growD n t (placeE D wh a).1 D).2 (g.sub _ (by simp))
 refine ⟨s, k1, ?_⟩
 rcases k2 with ⟨_, k3⟩ | ⟨k3, _⟩
 ·exact k3
 ·exact (k3 (by simp)).elim
theorem putD_same {E : Dc} {h p : Nat} {wh : Int} {a : Nat} {s : Sl} (hs : sl E h = some s) (hp : s.parent = p) : putD E h p wh a = setL E p (ins (lst E p) (whereN (lst E p) wh a) h) := by
 unfold putD
 obtain ⟨t, h1, h2⟩ := sl_setL_into (p := p) (l' := ins (lst E p) (whereN (lst E p) wh a) h) hs
 exact setPar_same h1 (h2.trans hp)
theorem WF.insD {D : Dc} (hw : WF D) (wh : Int) (a n : Nat) (t : T n) : WF (insD D wh a n t).1 := by
 unfold Go.Proofs.YtnhajpeijkbbeaaGreat.insD
 split
 ·rename_i h
  obtain ⟨h1, h2, h3, h4, h5⟩ := insE_ok h
  obtain ⟨N, g, s, k1, k2⟩ := ins_grown hw h
  obtain ⟨f1, f2, f3, f4⟩ := place_facts hw h3 h1
  show WF (putD _ _ _ _ _)
  rw [putD_same k1 k2]
  exact hw.ins g (placeE_live hw h3).1 f1 h4
 ·exact hw
theorem setKI_get {D : Dc} {i : Nat} {s : Sl} (h : D.S[i]? = some s) (l : List Nat) (j : Nat) : (setKI D i l).S[j]? = if j = i then some { s with kids := l } else D.S[j]? := by
 rw [setKI_some h]
 unfold setS
 simp only
 by_cases e : j = i
 ·rw [if_pos e, e, List.getElem?_set_self ((List.getElem?_eq_some_iff.1 h).1)]
 ·rw [if_neg e, List.getElem?_set_ne (Ne.symm e)]
theorem free_ne {D : Dc} {i : Nat} {s : Sl} (h : D.S[i]? = some s) (hl : s.live = true) : i ≠ (freeD D).1 /\ (freeD D).2.S[i]? = some s := by
 have hi := (List.getElem?_eq_some_iff.1 h).1
 unfold freeD
 cases hf : D.S.findIdx? freeB with
 | some k =>
  simp only
  refine ⟨fun e => ?_, h⟩
  subst e
  obtain ⟨h1, h2, _⟩ := List.findIdx?_eq_some_iff_getElem.1 hf
  rw [List.getElem?_eq_getElem h1] at h
  cases h
  unfold freeB at h2
  rw [hl] at h2
  cases h2
 | none =>
  simp only
  exact ⟨by omega, by rw [List.getElem?_append_left hi]; exact h⟩
theorem findIdx_set {S : List Sl} {i : Nat} {s s' : Sl} (h : S[i]? = some s) (hf : freeB s' = freeB s) : (S.set i s').findIdx? freeB = S.findIdx? freeB := by
 induction S generalizing i with
 | nil => rfl
 | cons a r ih =>
  cases i with
  | zero =>
   simp only [List.getElem?_cons_zero, Option.some.injEq] at h
   subst h
   simp only [List.set_cons_zero, List.findIdx?_cons, hf]
  | succ i =>
   simp only [List.getElem?_cons_succ] at h
   simp only [List.set_cons_succ, List.findIdx?_cons, ih h]
theorem free_setKI {D : Dc} {i : Nat} {s : Sl} (h : D.S[i]? = some s) (hl : s.live = true) (l : List Nat) : freeD (setKI D i l) = ((freeD D).1, setKI (freeD D).2 i l) := by
 have hi := (List.getElem?_eq_some_iff.1 h).1
 have hfi : (setKI D i l).S.findIdx? freeB = D.S.findIdx? freeB := by
  rw [setKI_some h]
  exact findIdx_set h rfl
 have hlen : (setKI D i l).S.length = D.S.length := by rw [setKI_some h]; simp [setS]
 unfold freeD
 rw [hfi]
 cases hf : D.S.findIdx? freeB with
 | some k => rfl
 | none =>
  simp only [hlen]
  have h2 : ({ D with S := D.S ++ [zeroSl 0] } : Dc).S[i]? = some s := by
   show (D.S ++ [zeroSl 0])[i]? = _
   rw [List.getElem?_append_left hi]
   exact h
  rw [setKI_some h2, setKI_some h]
  unfold setS
  simp only
  rw [List.set_append_left _ _ hi]
theorem genAt_setKI {D : Dc} {i : Nat} {s : Sl} (h : D.S[i]? = some s) (l : List Nat) (j : Nat) : genAt (setKI D i l) j = genAt D j := by
 unfold genAt
 rw [setKI_get h]
 by_cases e : j = i
 ·rw [if_pos e, e, h]
 ·rw [if_neg e]
theorem seed_setKI {α : Type} {D : Dc} {i : Nat} {s : Sl} (h : D.S[i]? = some s) (hl : s.live = true) (l : List Nat) (t : Nd α) (p : Nat) : seed (setKI D i l) t p = setKI (seed D t p) i l /\ seedH (setKI D i l) = seedH D /\ (seed D t p).S[i]? = some s := by
 obtain ⟨h1, h2⟩ := free_ne h hl
 have hsi : (seed D t p).S[i]? = some s := by
  show ((freeD D).2.S.set (freeD D).1 _)[i]? = _
  rw [List.getElem?_set_ne (Ne.symm h1)]
  exact h2
 refine ⟨?_, ?_, hsi⟩
 ·unfold seed
  rw [free_setKI h hl]
  simp only
  rw [genAt_setKI h2, setKI_some h2, setKI_some (by exact hsi)]
  unfold setS
  simp only
  rw [List.set_comm _ _ h1]
 ·unfold seedH
  rw [free_setKI h hl]
  simp only
  rw [genAt_setKI h2]
theorem setKI_comm {D : Dc} {i j : Nat} {s : Sl} (h : D.S[i]? = some s) (hne : i ≠ j) (l m : List Nat) : setKI (setKI D i l) j m = setKI (setKI D j m) i l := by
 cases hj : D.S[j]? with
 | none =>
  have h1 : (setKI D i l).S[j]? = none := by rw [setKI_get h, if_neg (Ne.symm hne)]; exact hj
  have e0 : ∀ (E : Dc), E.S[j]? = none -> setKI E j m = E := fun E hE => by unfold setKI; rw [hE]
  rw [e0 _ h1, e0 _ hj]
 | some t =>
  have h1 : (setKI D i l).S[j]? = some t := by rw [setKI_get h, if_neg (Ne.symm hne)]; exact hj
  have h2 : (setKI D j m).S[i]? = some s := by rw [setKI_get hj, if_neg hne]; exact h
  rw [setKI_some h1, setKI_some h2, setKI_some h, setKI_some hj]
  unfold setS
  simp only
  rw [List.set_comm _ _ hne]
theorem setKI_twice {D : Dc} (i : Nat) (l m : List Nat) : setKI (setKI D i l) i m = setKI D i m := by
 cases h : D.S[i]? with
 | none =>
  have e2 : ∀ x, setKI D i x = D := fun x => by unfold setKI; rw [h]
  rw [e2, e2]
 | some s =>
  have h1 : (setKI D i l).S[i]? = some { s with kids := l } := by rw [setKI_get h, if_pos rfl]
  rw [setKI_some h1, setKI_some h, setKI_some h]
  unfold setS
  simp only [List.set_set]
theorem grow_comm : ∀ (n : Nat) (t : T n) (p : Nat) (D : Dc) (i : Nat) (s : Sl) (l : List Nat), D.S[i]? = some s -> s.live = true ->
  (growD n t p D).1.S[i]? = some s /\ growD n t p (setKI D i l) = (setKI (growD n t p D).1 i l, (growD n t p D).2) := by
 intro n
 induction n with
 | zero => intro t; cases t
 | succ n ih =>
  intro t p D i s l h hl
  have hk : ∀ (L : List (T n)) (H : Nat) (D : Dc), D.S[i]? = some s -> (growK (growD n) H L D).1.S[i]? = some s /\ growK (growD n) H L (setKI D i l) = (setKI (growK (growD n) H L D).1 i l, (growK (growD n) H L D).2) := by
   intro L
   induction L with
   | nil => intro H D h; exact ⟨h, rfl⟩
   | cons k r ihl =>
    intro H D h
    obtain ⟨a1, a2⟩ := ih k H D i s l h hl
    obtain ⟨b1, b2⟩ := ihl H (growD n k H D).1 a1
    refine ⟨b1, ?_⟩
    show ((growK (growD n) H r (growD n k H (setKI D i l)).1).1, (growD n k H (setKI D i l)).2 :: (growK (growD n) H r (growD n k H (setKI D i l)).1).2) = _
    rw [a2]
    simp only
    rw [b2]
    rfl
  obtain ⟨s1, s2, s3⟩ := seed_setKI h hl l (show Nd (T n) from t) p
  obtain ⟨c1, c2⟩ := hk (kidsT (show Nd (T n) from t)) (seedH D) (seed D (show Nd (T n) from t) p) s3
  have hne := (free_ne h hl).1
  constructor
  ·show (setKI (growK (growD n) (seedH D) (kidsT t) (seed D t p)).1 (freeD D).1 _).S[i]? = some s
   cases hx : (growK (growD n) (seedH D) (kidsT t) (seed D t p)).1.S[(freeD D).1]? with
   | none =>
    unfold setKI
    rw [hx]
    exact c1
   | some x =>
    rw [setKI_get hx, if_neg hne]
    exact c1
  ·have hf : (freeD (setKI D i l)).1 = (freeD D).1 := by rw [free_setKI h hl]
   show (setKI (growK (growD n) (seedH (setKI D i l)) (kidsT t) (seed (setKI D i l) t p)).1 (freeD (setKI D i l)).1 (growK (growD n) (seedH (setKI D i l)) (kidsT t) (seed (setKI D i l) t p)).2, seedH (setKI D i l)) = (setKI (setKI (growK (growD n) (seedH D) (kidsT t) (seed D t p)).1 (freeD D).1 (growK (growD n) (seedH D) (kidsT t) (seed D t p)).2) i l, seedH D)
   rw [s1, s2, hf, c2]
   simp only
   rw [setKI_comm c1 hne]
structure RdM (w : World) (base : Nat) (Q : Nat -> Nat -> Prop) (rb : Nat) (D : Dc) (g cap : Nat) (ra : Option Addr) (rcap : Nat) (L : List (Value × Value)) : Prop where
 head : IsCells w rb #[.slice (some ⟨g, 0, none⟩) D.S.length cap, .slice ra D.roots.length rcap]
 own : w.ownsRow base 75 8 (.slice (some ⟨g, 0, none⟩) D.S.length cap) D.S.length (rowOf D.S L)
 len : L.length = D.S.length
 vals : ∀ (i : Nat) (s : Sl) (p : Value × Value), D.S[i]? = some s -> L[i]? = some p -> SlotVals w (Q (i + 1)) s p
 roots : HandsAt w (Q 0) ra D.roots
 rlen : D.roots.length <= rcap
 qne : ∀ k b, Q k b -> b ≠ g /\ b < w.heap.size
 nrb : ∀ k, ¬ Q k rb
 rbl : rb < base
def setQ (Q : Nat -> Nat -> Prop) (k : Nat) (R : Nat -> Prop) (j : Nat) (b : Nat) : Prop := (j = k /\ R b) \/ (j ≠ k /\ Q j b)
theorem setQ_same {Q : Nat -> Nat -> Prop} {k : Nat} {R : Nat -> Prop} {b : Nat} : setQ Q k R k b ↔ R b := by simp [setQ]
theorem setQ_other {Q : Nat -> Nat -> Prop} {k j : Nat} {R : Nat -> Prop} {b : Nat} (h : j ≠ k) : setQ Q k R j b ↔ Q j b := by simp [setQ, h]
section
variable {w w' : World} {base : Nat} {Q : Nat -> Nat -> Prop} {rb : Nat} {D : Dc} {g cap : Nat} {ra : Option Addr} {rcap : Nat} {L : List (Value × Value)}
theorem RdS.toM {Q : Nat -> Prop} (h : RdS w base Q rb D g cap ra rcap L) : RdM w base (fun _ => Q) rb D g cap ra rcap L :=
 ⟨h.head, h.own, h.len, h.vals, h.roots, h.rlen, fun _ b hb => h.qne b hb, fun _ => h.nrb, h.rbl⟩
theorem RdM.toS (h : RdM w base Q rb D g cap ra rcap L) : RdS w base (fun b => ∃ k, Q k b) rb D g cap ra rcap L :=
 ⟨h.head, h.own, h.len, fun i s p hs hp => (h.vals i s p hs hp).to (fun b hb => ⟨_, hb⟩) (fun _ _ _ => rfl), h.roots.to (fun b hb => ⟨_, hb⟩) (fun _ _ _ => rfl), h.rlen, fun b ⟨k, hb⟩ => h.qne k b hb, fun ⟨k, hb⟩ => h.nrb k hb, h.rbl⟩
theorem RdM.turn {A : Nat -> Prop} (h : RdM w base Q rb D g cap ra rcap L) (ht : Turn A w w') (hA : ∀ k b, Q k b -> ¬ A b) (hr : ¬ A rb) (hg : ¬ A g) : RdM w' base Q rb D g cap ra rcap L := by
 have hgb := h.toS.gb
 have hc : ∀ k b o, Q k b -> w'.cell? ⟨b, o, none⟩ = w.cell? ⟨b, o, none⟩ := fun k b o hb => World.cell?_of_block (w := w) (a := ⟨b, o, none⟩) (ht.block b (h.qne k b hb).2 (hA k b hb))
 exact ⟨h.head.of_block (ht.block rb h.head.lt hr), own_of_block h.own (fun k hk => by cases hk; exact ht.block g hgb.2 hg), h.len, fun i s p hs hp => (h.vals i s p hs hp).to (fun _ h => h) (fun b o hb => hc _ b o hb), h.roots.to (fun _ h => h) (fun b o hb => hc _ b o hb), h.rlen, fun k b hb => ⟨(h.qne k b hb).1, Nat.lt_of_lt_of_le (h.qne k b hb).2 ht.size⟩, h.nrb, h.rbl⟩
theorem RdM.below (h : RdM w base Q rb D g cap ra rcap L) (hb : Below w.heap.size w w') : RdM w' base Q rb D g cap ra rcap L := h.turn (below_turn hb) (fun _ _ _ h => h) (fun h => h) (fun h => h)
theorem RdM.cell (h : RdM w base Q rb D g cap ra rcap L) {i j : Nat} {s s' : Sl} {p p' : Value × Value} {u : Value} {R : Nat -> Prop} (hs : D.S[i]? = some s) (hp : L[i]? = some p) (hj : j < 8) (hc : slotCells s' p' = (slotCells s p).set j u) (hv : SlotVals w R s' p') (hR : ∀ b, R b -> b ≠ g /\ b < w.heap.size /\ b ≠ rb) :
  RdM (w.setCell ⟨g, i * 8 + j, none⟩ u) base (setQ Q (i + 1) R) rb { D with S := D.S.set i s' } g cap ra rcap (L.set i p') := by
 have hgb := h.toS.gb
 have hrb := h.rbl
 have hcell : ∀ b o, b ≠ g -> (w.setCell ⟨g, i * 8 + j, none⟩ u).cell? ⟨b, o, none⟩ = w.cell? ⟨b, o, none⟩ := fun b o hb => World.cell?_of_block (w := w) (a := ⟨b, o, none⟩) (Below.heap_setCell _ _ _ _ hb)
 have hi := (List.getElem?_eq_some_iff.1 hs).1
 have hsz : (w.setCell ⟨g, i * 8 + j, none⟩ u).heap.size = w.heap.size := by simp [World.setCell]
 refine ⟨?_, ?_, by simp [h.len], fun k x y hx hy => ?_, h.roots.to (fun b hb => (setQ_other (by omega)).2 hb) (fun b o hb => hcell b o (h.qne _ b hb).1), h.rlen, fun k b hb => ?_, fun k hb => ?_, h.rbl⟩
 ·have := h.head.other (a := ⟨g, i * 8 + j, none⟩) (by show rb ≠ g; omega) u
  simpa using this
 ·have := own_set h.own (i * 8 + j) u
  rw [<- rowOf_set h.len hs hp hj hc] at this
  simpa using this
 ·by_cases hk : k = i
  ·subst hk
   rw [List.getElem?_set_self hi] at hx
   rw [List.getElem?_set_self (by rw [h.len]; exact hi)] at hy
   cases hx
   cases hy
   exact hv.to (fun b hb => setQ_same.2 hb) (fun b o hb => hcell b o (hR b hb).1)
  ·rw [List.getElem?_set_ne (by omega)] at hx hy
   exact (h.vals k x y hx hy).to (fun b hb => (setQ_other (by omega)).2 hb) (fun b o hb => hcell b o (h.qne _ b hb).1)
 ·rw [hsz]
  rcases hb with ⟨_, hb⟩ | ⟨_, hb⟩
  ·exact ⟨(hR b hb).1, (hR b hb).2.1⟩
  ·exact h.qne k b hb
 ·rcases hb with ⟨_, hb⟩ | ⟨_, hb⟩
  ·exact (hR rb hb).2.2 rfl
  ·exact h.nrb k hb
theorem RdM.mono {Q' : Nat -> Nat -> Prop} (h : RdM w base Q rb D g cap ra rcap L) (he : ∀ k b, Q k b ↔ Q' k b) : RdM w base Q' rb D g cap ra rcap L :=
 ⟨h.head, h.own, h.len, fun i s p hs hp => (h.vals i s p hs hp).to (fun b hb => (he _ b).1 hb) (fun _ _ _ => rfl), h.roots.to (fun b hb => (he _ b).1 hb) (fun _ _ _ => rfl), h.rlen, fun k b hb => h.qne k b ((he k b).2 hb), fun k hb => h.nrb k ((he k rb).2 hb), h.rbl⟩
theorem RdM.cell' {i : Nat} {s : Sl} {p : Value × Value} {R0 : Nat -> Prop} (h : RdM w base (setQ Q (i + 1) R0) rb { D with S := D.S.set i s } g cap ra rcap (L.set i p)) {j : Nat} {s' : Sl} {p' : Value × Value} {u : Value} {R : Nat -> Prop} (hi : i < D.S.length) (hl : L.length = D.S.length) (hj : j < 8) (hc : slotCells s' p' = (slotCells s p).set j u) (hv : SlotVals w R s' p') (hR : ∀ b, R b -> b ≠ g /\ b < w.heap.size /\ b ≠ rb) :
  RdM (w.setCell ⟨g, i * 8 + j, none⟩ u) base (setQ Q (i + 1) R) rb { D with S := D.S.set i s' } g cap ra rcap (L.set i p') := by
 have h1 := h.cell (i := i) (s := s) (p := p) (List.getElem?_set_self hi) (List.getElem?_set_self (by omega)) hj hc hv hR
 have h2 : RdM (w.setCell ⟨g, i * 8 + j, none⟩ u) base (setQ Q (i + 1) R) rb { D with S := (D.S.set i s).set i s' } g cap ra rcap ((L.set i p).set i p') := h1.mono (fun k b => by
  by_cases e : k = i + 1
  ·subst e
   rw [setQ_same, setQ_same]
  ·rw [setQ_other e, setQ_other e, setQ_other e])
 simpa only [List.set_set] using h2
theorem RdM.plant (h : RdM w base Q rb D g cap ra rcap L) {i : Nat} {s0 : Sl} (hs : D.S[i]? = some s0) (s : Sl) (hk : s.kids = []) {aa : Option Addr} {ac : Nat} {R : Nat -> Prop} (hac : s.attrs.length <= ac) (hv : AttrsR w R aa s.attrs) (hR : ∀ b, R b -> b ≠ g /\ b < w.heap.size /\ b ≠ rb) :
  RdM (plantW w g i s (.slice aa s.attrs.length ac)) base (setQ Q (i + 1) R) rb { D with S := D.S.set i s } g cap ra rcap (L.set i (.slice aa s.attrs.length ac, .slice none 0 0)) := by
 have hi := (List.getElem?_eq_some_iff.1 hs).1
 have hl := h.len
 obtain ⟨p, hp⟩ : ∃ p, L[i]? = some p := ⟨_, List.getElem?_eq_getElem (by rw [h.len]; exact hi)⟩
 have v0 := h.vals i s0 p hs hp
 have hQ : ∀ b, Q (i + 1) b -> b ≠ g /\ b < w.heap.size /\ b ≠ rb := fun b hb => ⟨(h.qne _ b hb).1, (h.qne _ b hb).2, fun e => h.nrb _ (e ▸ hb)⟩
 have hU : ∀ b, (R b \/ Q (i + 1) b) -> b ≠ g /\ b < w.heap.size /\ b ≠ rb := fun b hb => hb.elim (hR b) (hQ b)
 have sz : ∀ (w : World) (k : Nat) (u : Value), (w.setCell ⟨g, k, none⟩ u).heap.size = w.heap.size := fun w k u => by simp [World.setCell]
 have cl : ∀ (w : World) (k : Nat) (u : Value) b o, b ≠ g -> (w.setCell ⟨g, k, none⟩ u).cell? ⟨b, o, none⟩ = w.cell? ⟨b, o, none⟩ := fun w k u b o hb => World.cell?_of_block (w := w) (a := ⟨b, o, none⟩) (Below.heap_setCell _ _ _ _ hb)
 have keep : ∀ (W : World) (k : Nat) (u : Value) (s1 : Sl) (q : Value × Value) (X : Nat -> Prop), (∀ b, X b -> b ≠ g) -> SlotVals W X s1 q -> SlotVals (W.setCell ⟨g, k, none⟩ u) X s1 q := fun W k u s1 q X hX hv => hv.to (fun _ h => h) (fun b o hb => cl W k u b o (hX b hb))
 have keepA : ∀ (W : World) (k : Nat) (u : Value), AttrsR W R aa s.attrs -> AttrsR (W.setCell ⟨g, k, none⟩ u) R aa s.attrs := fun W k u hv => hv.to (fun _ h => h) (fun b o hb => cl W k u b o (hR b hb).1)
 have gQ : ∀ b, Q (i + 1) b -> b ≠ g := fun b hb => (hQ b hb).1
 have gU : ∀ b, (R b \/ Q (i + 1) b) -> b ≠ g := fun b hb => (hU b hb).1
 have like : ∀ (W : World) (X : Nat -> Prop) (s1 s2 : Sl) (q : Value × Value), s2.attrs = s1.attrs -> s2.kids = s1.kids -> SlotVals W X s1 q -> SlotVals W X s2 q := fun W X s1 s2 q e1 e2 hv => by
  obtain ⟨x1, x2, x3, x4, x5, x6, x7, x8, x9⟩ := hv
  exact ⟨x1, x2, x3, x4, by rw [e1, e2]; exact x5, by rw [e1]; exact x6, by rw [e2]; exact x7, by rw [e1]; exact x8, by rw [e2]; exact x9⟩
 have h0 := h.cell (j := 0) (s' := { s0 with gen := s.gen }) (p' := p) (u := .int .u32 (s.gen : Int)) hs hp (by omega) rfl (like _ _ s0 _ _ rfl rfl v0) hQ
 have v1 := keep _ (i * 8 + 0) (.int .u32 (s.gen : Int)) _ _ _ gQ v0
 have a1 := keepA _ (i * 8 + 0) (.int .u32 (s.gen : Int)) hv
 have h1 := h0.cell' (j := 1) (s' := { s0 with gen := s.gen, live := s.live }) (p' := p) (u := .bool s.live) hi hl (by omega) rfl (like _ _ s0 _ _ rfl rfl v1) (by simpa only [sz] using hQ)
 have v2 := keep _ (i * 8 + 1) (.bool s.live) _ _ _ gQ v1
 have a2 := keepA _ (i * 8 + 1) (.bool s.live) a1
 have h2 := h1.cell' (j := 2) (s' := { s0 with gen := s.gen, live := s.live, kind := s.kind }) (p' := p) (u := .int .i64 s.kind) hi hl (by omega) rfl (like _ _ s0 _ _ rfl rfl v2) (by simpa only [sz] using hQ)
 have v3 := keep _ (i * 8 + 2) (.int .i64 s.kind) _ _ _ gQ v2
 have a3 := keepA _ (i * 8 + 2) (.int .i64 s.kind) a2
 have h3 := h2.cell' (j := 3) (s' := { s0 with gen := s.gen, live := s.live, kind := s.kind, name := s.name }) (p' := p) (u := .string s.name) hi hl (by omega) rfl (like _ _ s0 _ _ rfl rfl v3) (by simpa only [sz] using hQ)
 have v4 := keep _ (i * 8 + 3) (.string s.name) _ _ _ gQ v3
 have a4 := keepA _ (i * 8 + 3) (.string s.name) a3
 have mk4 : ∀ W : World, SlotVals W (Q (i + 1)) s0 p -> AttrsR W R aa s.attrs -> SlotVals W (fun b => R b \/ Q (i + 1) b) { s0 with gen := s.gen, live := s.live, kind := s.kind, name := s.name, attrs := s.attrs } (.slice aa s.attrs.length ac, p.2) := fun W v a => by
  obtain ⟨x1, x2, x3, x4, x5, x6, x7, x8, x9⟩ := v
  exact ⟨aa, ac, x3, x4, by rw [x5], hac, x7, a.to (fun _ h => .inl h) (fun _ _ _ => rfl), x9.to (fun _ h => .inr h) (fun _ _ _ => rfl)⟩
 have v4' := mk4 _ v4 a4
 have h4 := h3.cell' (j := 4) (s' := { s0 with gen := s.gen, live := s.live, kind := s.kind, name := s.name, attrs := s.attrs }) (p' := (.slice aa s.attrs.length ac, p.2)) (u := .slice aa s.attrs.length ac) hi hl (by omega) rfl v4' (by simpa only [sz] using hU)
 have v5 := keep _ (i * 8 + 4) (.slice aa s.attrs.length ac) _ _ _ gU v4'
 have a5 := keepA _ (i * 8 + 4) (.slice aa s.attrs.length ac) a4
 have h5 := h4.cell' (j := 5) (s' := { s0 with gen := s.gen, live := s.live, kind := s.kind, name := s.name, attrs := s.attrs, text := s.text }) (p' := (.slice aa s.attrs.length ac, p.2)) (u := .string s.text) hi hl (by omega) rfl (like _ _ { s0 with gen := s.gen, live := s.live, kind := s.kind, name := s.name, attrs := s.attrs } _ _ rfl rfl v5) (by simpa only [sz] using hU)
 have v6 := keep _ (i * 8 + 5) (.string s.text) _ _ _ gU v5
 have a6 := keepA _ (i * 8 + 5) (.string s.text) a5
 have h6 := h5.cell' (j := 6) (s' := { s with kids := s0.kids }) (p' := (.slice aa s.attrs.length ac, p.2)) (u := .int .u64 (s.parent : Int)) hi hl (by omega) rfl (like _ _ { s0 with gen := s.gen, live := s.live, kind := s.kind, name := s.name, attrs := s.attrs } _ _ rfl rfl v6) (by simpa only [sz] using hU)
 have a7 := keepA _ (i * 8 + 6) (.int .u64 (s.parent : Int)) a6
 have h7 := h6.cell' (j := 7) (s' := s) (p' := (.slice aa s.attrs.length ac, .slice none 0 0)) (u := .slice none 0 0) (R := R) hi hl (by omega) rfl ⟨aa, ac, none, 0, by rw [hk]; rfl, hac, by rw [hk]; exact Nat.le_refl _, a7, (by rw [hk]; intro i x hx; simp at hx)⟩ (by simpa only [sz] using hR)
 exact h7
end
end Go.Proofs.YtnhajpeijkbbeaaGreat
