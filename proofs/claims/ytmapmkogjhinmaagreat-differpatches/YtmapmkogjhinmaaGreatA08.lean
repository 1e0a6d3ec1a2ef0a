/- A node put at a place, by the document. -/
import Derived.Test.YtmapmkogjhinmaaGreatA07
namespace Go.Proofs.YtmapmkogjhinmaaGreat
open Go.RowKit
set_option maxRecDepth 100000
set_option maxHeartbeats 1000000
set_option linter.unusedVariables false
set_option linter.unusedSimpArgs false
theorem sliceAt_zero (b o c : Nat) : sliceAt b o c 0 = some ⟨b, o, none⟩ := by unfold sliceAt; split <;> rfl
attribute [local go_sem] ite_sliceAt sliceAt_zero
def ins (l : List Nat) (k n : Nat) : List Nat := l.take k ++ [n] ++ l.drop k
def setPar (D : Dc) (n p : Nat) : Dc := match atI D.S n with
 | none => D
 | some i => match D.S[i]? with
  | none => D
  | some s => { D with S := D.S.set i { s with parent := p } }
theorem RdS.setPar {w : World} {base : Nat} {Q : Nat -> Prop} {rb : Nat} {D : Dc} {g cap : Nat} {ra : Option Addr} {rcap : Nat} {L : List (Value × Value)} (h : RdS w base Q rb D g cap ra rcap L) {i : Nat} {s : Sl} {q : Value × Value} (hs : D.S[i]? = some s) (hq : L[i]? = some q) (p : Nat) :
  RdS (w.setCell ⟨g, i * 8 + 6, none⟩ (.int .u64 (p : Int))) base Q rb { D with S := D.S.set i { s with parent := p } } g cap ra rcap (L.set i q) :=
 h.store hs hq (by omega) rfl (h.vals i s q hs hq)
theorem setL_at {D : Dc} {p n i : Nat} {l' : List Nat} (ha : atI D.S n = some i) : ∃ s1, (setL D p l').S[i]? = some s1 /\ atI (setL D p l').S n = some i := by
 obtain ⟨s, hs, h1, h2, h3, h4, h5⟩ := atI_some ha
 have key : ∀ S' : List Sl, (∃ s1, S'[i]? = some s1 /\ s1.live = s.live /\ s1.gen = s.gen) -> ∃ s1, S'[i]? = some s1 /\ atI S' n = some i := by
  rintro S' ⟨s1, g1, g2, g3⟩
  refine ⟨s1, g1, ?_⟩
  unfold atI
  rw [if_neg h4, <- h3, g1]
  simp [g2, g3, h1, h2]
 apply key
 unfold setL
 split
 ·exact ⟨s, hs, rfl, rfl⟩
 ·split
  ·exact ⟨s, hs, rfl, rfl⟩
  ·rename_i j hj
   split
   ·exact ⟨s, hs, rfl, rfl⟩
   ·rename_i sj hsj
    have hjl := (List.getElem?_eq_some_iff.1 hsj).1
    by_cases e : j = i
    ·subst e
     rw [hs] at hsj
     cases hsj
     exact ⟨_, List.getElem?_set_self hjl, rfl, rfl⟩
    ·exact ⟨s, by rw [List.getElem?_set_ne e]; exact hs, rfl, rfl⟩
theorem setL_fits {D : Dc} {p : Nat} {l' : List Nat} (h : Fits D) : Fits (setL D p l') := by
 unfold setL
 split
 ·exact ⟨h.len, h.gen⟩
 ·split
  ·exact h
  ·rename_i j hj
   split
   ·exact h
   ·rename_i sj hsj
    refine ⟨by simpa using h.len, fun i s hs => ?_⟩
    have hjl := (List.getElem?_eq_some_iff.1 hsj).1
    by_cases e : j = i
    ·subst e
     simp only at hs
     rw [List.getElem?_set_self hjl] at hs
     cases hs
     exact h.gen j sj hsj
    ·simp only at hs
     rw [List.getElem?_set_ne e] at hs
     exact h.gen i s hs
theorem HandsAt.takeN {w W : World} {R : Nat -> Prop} {b o : Nat} {l : List Nat} (h : HandsAt w R (some ⟨b, o, none⟩) l) (hW : ∀ b o, R b -> W.cell? ⟨b, o, none⟩ = w.cell? ⟨b, o, none⟩) (k : Nat) : ∀ j u, (hvals (l.take k))[j]? = some u -> ∃ ad, some (⟨b, o, none⟩ : Addr) = some ad /\ W.cell? (ad.add j) = some u := by
 have := h.part hW 0 (l.take k) (take_at l k)
 simpa using this
theorem HandsAt.dropN {w W : World} {R : Nat -> Prop} {b o c : Nat} {l : List Nat} (h : HandsAt w R (some ⟨b, o, none⟩) l) (hc : l.length <= c) (hW : ∀ b o, R b -> W.cell? ⟨b, o, none⟩ = w.cell? ⟨b, o, none⟩) (k : Nat) : ∀ j u, (hvals (l.drop k))[j]? = some u -> ∃ ad, sliceAt b o c k = some ad /\ W.cell? (ad.add j) = some u := by
 intro j u hu
 unfold sliceAt
 by_cases e : c = k
 ·rw [show l.drop k = [] from List.drop_eq_nil_of_le (by omega)] at hu
  simp [hvals] at hu
 ·rw [if_neg e]
  exact h.part hW k (l.drop k) (drop_at l k) j u hu
theorem rput_first (w : World) (base : Nat) (Q : Nat -> Prop) (rb : Nat) (D : Dc) (g cap : Nat) (ra : Option Addr) (rcap : Nat) (L : List (Value × Value)) (n p a i k : Nat) (h : RdS w base Q rb D g cap ra rcap L) (hf : Fits D) (hpp : p = 0 \/ ∃ s, sl D p = some s) (hpl : p < 18446744073709551616) (hnl : n < 18446744073709551616) (hll : (lst D p).length <= 4096) (hne : 0 < (lst D p).length) (hai : atI D.S n = some i) (hk : k = 0) :
  Calls Tryz.prog 67 #[.pointer (some ⟨rb, 0, none⟩), .int .u64 (n : Int), .int .u64 (p : Int), .int .i64 1, .int .u64 (a : Int)] w (OutP w base Q rb (setPar (setL D p (ins (lst D p) 0 n)) n p) g cap) := by
 have hvw := h.done.view
 obtain ⟨la, lcap, hlc, hlat, hcal⟩ := rlist_any w _ rb D p hvw hf hpl hpp
 obtain ⟨x0, hx0⟩ : ∃ x, (lst D p)[0]? = some x := ⟨_, List.getElem?_eq_getElem hne⟩
 obtain ⟨lb, lo, rfl, hlbR, -⟩ := hlat 0 x0 hx0
 obtain ⟨s1, hs1, ha1⟩ := setL_at (p := p) (l' := ins (lst D p) 0 n) hai
 have hf1 := setL_fits (p := p) (l' := ins (lst D p) 0 n) hf
 have HS1 : Hid ((setL D p (ins (lst D p) 0 n)).S[i]? = some s1) := hs1
 have HA1 : Hid (atI (setL D p (ins (lst D p) 0 n)).S n = some i) := ha1
 have HF1 : Hid (Fits (setL D p (ins (lst D p) 0 n))) := hf1
 have HD : Hid (RdS w base Q rb D g cap ra rcap L) := h
 have HF : Hid (Fits D) := hf
 have HPP : Hid (p = 0 \/ ∃ s, sl D p = some s) := hpp
 have HLT : Hid (∀ b, ((Q b \/ (base <= b /\ b < w.heap.size)) \/ b = rb) -> b < w.heap.size) := hvw.lt
 have HLAT : Hid (HandsAt w (fun b => (Q b \/ (base <= b /\ b < w.heap.size)) \/ b = rb) (some ⟨lb, lo, none⟩) (lst D p)) := hlat
 clear h hf hpp hai hvw hlat hx0 hs1 ha1 hf1 
 generalize lst D p = l at *
 have tok1 : True := trivial
 have tok2 : True := trivial
 have tok3 : True := trivial
 go_enter Tryz.func67, Tryz.ntmps67
 go_wp2_with fail
 refine hcal.mono ?_
 rintro e w1 ⟨rfl, hb1⟩
 have HB1 : Hid (Below w.heap.size w w1) := hb1
 have HL1 : Hid (HandsAt w1 (fun b => (Q b \/ (base <= b /\ b < w.heap.size)) \/ b = rb) (some ⟨lb, lo, none⟩) l) := HLAT.out.to (fun _ h => h) (fun b o hb => hb1.cell (p := ⟨b, o, none⟩) (HLT.out b hb))
 have hsz := hb1.size
 clear hb1 hcal HLAT
 have HC : Hid (∀ W, Below w1.heap.size w1 W -> ∀ b o, ((Q b \/ (base <= b /\ b < w.heap.size)) \/ b = rb) -> W.cell? ⟨b, o, none⟩ = w1.cell? ⟨b, o, none⟩) := fun W hb b o hR => hb.cell (p := ⟨b, o, none⟩) (by have := HLT.out b hR; show b < w1.heap.size; omega)
 have HB3 : Hid (Below w1.heap.size w1 (w1.alloc (.cells #[] 32))) := below_new' w1 _
 have hT1 : Hid ((hvals (l.take 0)).length = 0 * 1) := by show _ = _; rw [hvals_length, List.length_take]; omega
 have hT2 : Hid ((hvals (l.drop 0)).length = (l.length - 0) * 1) := by show _ = _; rw [hvals_length, List.length_drop]; omega
 go_wp2_with (first
  | (at_builtin; have _t := tok1; refine wpList_app rfl _ _ rfl Tryz.underlying56 info42 rfl (by decide) w1.heap.size (.slice (some ⟨w1.heap.size, 0, none⟩) 0 0) 0 [] rfl (own_new w1 32 1) _ _ _ (hvals (l.take 0)) rfl (by first | exact hT1.out | (simpa using hT1.out)) (HL1.out.takeN (HC.out _ HB3.out) 0) (hvals_one _) (by unfold maxLen; omega) (by omega) (by simp) ?_; intro v1 w4 hown1 hg1 _ hat1; obtain ⟨va1, vc1, hv1⟩ := own_slice hown1; subst hv1; rw [Nat.zero_add, List.nil_append] at hown1; rw [Nat.zero_add]; have HO1 : Hid (w4.ownsRow w1.heap.size 32 1 (.slice va1 0 vc1) 0 (hvals (l.take 0))) := (by first | exact hown1 | simpa using hown1); have HB4 : Hid (Below w1.heap.size w1 w4) := HB3.out.grown hg1 (by simp) (fun k hk => by simp only [Value.ownBlock, Option.some.injEq] at hk; omega); have hs4 := HB4.out.size; clear hown1 hg1 hat1 tok1 _t)
  | (at_builtin; have _t := tok2; refine wpList_app rfl _ _ rfl Tryz.underlying56 info42 rfl (by decide) w1.heap.size (.slice va1 0 vc1) 0 (hvals (l.take 0)) rfl (own_of_block HO1.out (fun k hk => Below.heap_alloc _ _ _ (own_block_lt HO1.out k hk).2)) (some ⟨w4.heap.size, 0, none⟩) 1 1 [.int .u64 (n : Int)] rfl rfl (news_new w4 #[.int .u64 (n : Int)] 32) (by simp [Value.oneCell']) (by unfold maxLen; omega) (by omega) (by simp; omega) ?_; intro v2 w5 hown2 hg2 _ hat2; obtain ⟨va2, vc2, hv2⟩ := own_slice hown2; subst hv2; have HO2 : Hid (w5.ownsRow w1.heap.size 32 1 (.slice va2 (0 + 1) vc2) (0 + 1) (hvals (l.take 0 ++ [n]))) := (by rw [hvals_append]; exact hown2); have HB5 : Hid (Below w1.heap.size w1 w5) := (HB4.out.alloc hs4 _).grown hg2 (by simp; omega) (fun k hk => (own_block_lt HO1.out k hk).1); have hs5 := HB5.out.size; clear hown2 hg2 hat2 tok2 _t)
  | (at_builtin; have _t := tok3; refine wpList_app rfl _ _ rfl Tryz.underlying56 info42 rfl (by decide) w1.heap.size (.slice va2 (0 + 1) vc2) (0 + 1) (hvals (l.take 0 ++ [n])) rfl HO2.out _ _ _ (hvals (l.drop 0)) rfl (by first | exact hT2.out | (simpa using hT2.out) | (have := hT2.out; omega)) (by simpa using HL1.out.takeN (HC.out _ HB5.out) l.length) (hvals_one _) (by unfold maxLen; omega) (by omega) hs5 ?_; intro v3 w6 hown3 hg3 _ hat3; obtain ⟨va3, vc3, hv3⟩ := own_slice hown3; subst hv3; have HB6 : Hid (Below w1.heap.size w1 w6) := HB5.out.grown hg3 hs5 (fun k hk => (own_block_lt HO2.out k hk).1); have HO3 := hown3; rw [<- hvals_append] at HO3; generalize hNN : 0 + 1 + _ = N at HO3 ⊢; have HCN := rset_new w w1 w6 base Q rb D g cap ra rcap L p (ins l 0 n) va3 vc3 N HD.out HF.out HPP.out hpl HB1.out HB6.out (by rw [<- hNN]; simp [ins] <;> omega) HO3; clear hown3 hg3 hat3 tok3 _t hNN HO3))
 refine HCN.mono ?_
 rintro e w7 ⟨rfl, ⟨Q', ra', rcap', L', hr, hQ'⟩, ht7⟩
 clear HCN
 obtain ⟨q, hq, -, hcap, hhd, hcl⟩ := hr.slot HS1.out
 have hat := rat_any w7.drew _ rb _ n (hr.done.view.below ((Below.refl _ _).drew)) HF1.out hnl
 rw [atR_some HA1.out] at hat
 have hc6 := (hcl 6 _ rfl).1
 have hf6 := (hcl 6 _ rfl).2
 have hil : (i : Int) < (((setL D p (ins l 0 n)).S.length : Nat) : Int) := by have := (List.getElem?_eq_some_iff.1 HS1.out).1; omega
 have hl4 := HF1.out.len
 have hgs := hr.gb
 have hgr : ¬ g = rb := by have := hr.rbl; omega
 have hgr2 : ¬ rb = g := by omega
 have e1 : setPar (setL D p (ins l 0 n)) n p = { (setL D p (ins l 0 n)) with S := (setL D p (ins l 0 n)).S.set i { s1 with parent := p } } := by simp only [setPar, HA1.out, HS1.out]
 have HE : Hid (setPar (setL D p (ins l 0 n)) n p = { (setL D p (ins l 0 n)) with S := (setL D p (ins l 0 n)).S.set i { s1 with parent := p } }) := e1
 have HR : Hid (RdS ((w7.drew).setCell ⟨g, i * 8 + 6, none⟩ (.int .u64 (p : Int))) base Q' rb { (setL D p (ins l 0 n)) with S := (setL D p (ins l 0 n)).S.set i { s1 with parent := p } } g cap ra' rcap' (L'.set i q)) := (hr.below ((Below.refl _ _).drew)).setPar HS1.out hq p
 have HQ : Hid (∀ b, Q' b -> Q b \/ w.heap.size <= b) := hQ'
 have HT : Hid (Turn (fun b => b = rb \/ b = g) w w7) := ht7
 generalize (setL D p (ins l 0 n)).S.length = SL at *
 clear hr hq hcl e1 hQ' ht7
 go_wp2_with fail
 go_region_held3 (fun w' => w'.cell? ⟨rb, 0, none⟩ = some (.slice (some ⟨g, 0, none⟩) SL cap)) (go_keep) (first | (go_at_call 72; refine hat.mono ?_; rintro e w8 ⟨rfl, rfl⟩))
 go_end0
 refine ⟨rfl, ⟨Q', ra', rcap', _, by rw [HE.out]; exact HR.out, HQ.out⟩, ?_⟩
 exact (Turn.setCell (A := fun b => b = rb \/ b = g) HT.out (p := ⟨g, i * 8 + 6, none⟩) (.inr rfl) _).drew
theorem rput_last (w : World) (base : Nat) (Q : Nat -> Prop) (rb : Nat) (D : Dc) (g cap : Nat) (ra : Option Addr) (rcap : Nat) (L : List (Value × Value)) (n p a i k : Nat) (h : RdS w base Q rb D g cap ra rcap L) (hf : Fits D) (hpp : p = 0 \/ ∃ s, sl D p = some s) (hpl : p < 18446744073709551616) (hnl : n < 18446744073709551616) (hll : (lst D p).length <= 4096) (hne : 0 < (lst D p).length) (hai : atI D.S n = some i) (hk : k = 0) :
  Calls Tryz.prog 67 #[.pointer (some ⟨rb, 0, none⟩), .int .u64 (n : Int), .int .u64 (p : Int), .int .i64 2, .int .u64 (a : Int)] w (OutP w base Q rb (setPar (setL D p (ins (lst D p) (lst D p).length n)) n p) g cap) := by
 have hvw := h.done.view
 obtain ⟨la, lcap, hlc, hlat, hcal⟩ := rlist_any w _ rb D p hvw hf hpl hpp
 obtain ⟨x0, hx0⟩ : ∃ x, (lst D p)[0]? = some x := ⟨_, List.getElem?_eq_getElem hne⟩
 obtain ⟨lb, lo, rfl, hlbR, -⟩ := hlat 0 x0 hx0
 obtain ⟨s1, hs1, ha1⟩ := setL_at (p := p) (l' := ins (lst D p) (lst D p).length n) hai
 have hf1 := setL_fits (p := p) (l' := ins (lst D p) (lst D p).length n) hf
 have HS1 : Hid ((setL D p (ins (lst D p) (lst D p).length n)).S[i]? = some s1) := hs1
 have HA1 : Hid (atI (setL D p (ins (lst D p) (lst D p).length n)).S n = some i) := ha1
 have HF1 : Hid (Fits (setL D p (ins (lst D p) (lst D p).length n))) := hf1
 have HD : Hid (RdS w base Q rb D g cap ra rcap L) := h
 have HF : Hid (Fits D) := hf
 have HPP : Hid (p = 0 \/ ∃ s, sl D p = some s) := hpp
 have HLT : Hid (∀ b, ((Q b \/ (base <= b /\ b < w.heap.size)) \/ b = rb) -> b < w.heap.size) := hvw.lt
 have HLAT : Hid (HandsAt w (fun b => (Q b \/ (base <= b /\ b < w.heap.size)) \/ b = rb) (some ⟨lb, lo, none⟩) (lst D p)) := hlat
 clear h hf hpp hai hvw hlat hx0 hs1 ha1 hf1 
 generalize lst D p = l at *
 have tok1 : True := trivial
 have tok2 : True := trivial
 have tok3 : True := trivial
 go_enter Tryz.func67, Tryz.ntmps67
 go_wp2_with fail
 refine hcal.mono ?_
 rintro e w1 ⟨rfl, hb1⟩
 have HB1 : Hid (Below w.heap.size w w1) := hb1
 have HL1 : Hid (HandsAt w1 (fun b => (Q b \/ (base <= b /\ b < w.heap.size)) \/ b = rb) (some ⟨lb, lo, none⟩) l) := HLAT.out.to (fun _ h => h) (fun b o hb => hb1.cell (p := ⟨b, o, none⟩) (HLT.out b hb))
 have hsz := hb1.size
 clear hb1 hcal HLAT
 have HC : Hid (∀ W, Below w1.heap.size w1 W -> ∀ b o, ((Q b \/ (base <= b /\ b < w.heap.size)) \/ b = rb) -> W.cell? ⟨b, o, none⟩ = w1.cell? ⟨b, o, none⟩) := fun W hb b o hR => hb.cell (p := ⟨b, o, none⟩) (by have := HLT.out b hR; show b < w1.heap.size; omega)
 have HB3 : Hid (Below w1.heap.size w1 (w1.alloc (.cells #[] 32))) := below_new' w1 _
 have hT1 : Hid ((hvals (l.take l.length)).length = l.length * 1) := by show _ = _; rw [hvals_length, List.length_take]; omega
 have hT2 : Hid ((hvals (l.drop l.length)).length = (l.length - l.length) * 1) := by show _ = _; rw [hvals_length, List.length_drop]; omega
 go_wp2_with (first
  | (at_builtin; have _t := tok1; refine wpList_app rfl _ _ rfl Tryz.underlying56 info42 rfl (by decide) w1.heap.size (.slice (some ⟨w1.heap.size, 0, none⟩) 0 0) 0 [] rfl (own_new w1 32 1) _ _ _ (hvals (l.take l.length)) rfl (by first | exact hT1.out | (simpa using hT1.out)) (HL1.out.takeN (HC.out _ HB3.out) l.length) (hvals_one _) (by unfold maxLen; omega) (by omega) (by simp) ?_; intro v1 w4 hown1 hg1 _ hat1; obtain ⟨va1, vc1, hv1⟩ := own_slice hown1; subst hv1; rw [Nat.zero_add, List.nil_append] at hown1; rw [Nat.zero_add]; have HO1 : Hid (w4.ownsRow w1.heap.size 32 1 (.slice va1 l.length vc1) l.length (hvals (l.take l.length))) := (by first | exact hown1 | simpa using hown1); have HB4 : Hid (Below w1.heap.size w1 w4) := HB3.out.grown hg1 (by simp) (fun k hk => by simp only [Value.ownBlock, Option.some.injEq] at hk; omega); have hs4 := HB4.out.size; clear hown1 hg1 hat1 tok1 _t)
  | (at_builtin; have _t := tok2; refine wpList_app rfl _ _ rfl Tryz.underlying56 info42 rfl (by decide) w1.heap.size (.slice va1 l.length vc1) l.length (hvals (l.take l.length)) rfl (own_of_block HO1.out (fun k hk => Below.heap_alloc _ _ _ (own_block_lt HO1.out k hk).2)) (some ⟨w4.heap.size, 0, none⟩) 1 1 [.int .u64 (n : Int)] rfl rfl (news_new w4 #[.int .u64 (n : Int)] 32) (by simp [Value.oneCell']) (by unfold maxLen; omega) (by omega) (by simp; omega) ?_; intro v2 w5 hown2 hg2 _ hat2; obtain ⟨va2, vc2, hv2⟩ := own_slice hown2; subst hv2; have HO2 : Hid (w5.ownsRow w1.heap.size 32 1 (.slice va2 (l.length + 1) vc2) (l.length + 1) (hvals (l.take l.length ++ [n]))) := (by rw [hvals_append]; exact hown2); have HB5 : Hid (Below w1.heap.size w1 w5) := (HB4.out.alloc hs4 _).grown hg2 (by simp; omega) (fun k hk => (own_block_lt HO1.out k hk).1); have hs5 := HB5.out.size; clear hown2 hg2 hat2 tok2 _t)
  | (at_builtin; have _t := tok3; refine wpList_app rfl _ _ rfl Tryz.underlying56 info42 rfl (by decide) w1.heap.size (.slice va2 (l.length + 1) vc2) (l.length + 1) (hvals (l.take l.length ++ [n])) rfl HO2.out _ _ _ (hvals (l.drop l.length)) rfl (by first | exact hT2.out | (simpa using hT2.out) | (have := hT2.out; omega)) (HL1.out.dropN hlc (HC.out _ HB5.out) _) (hvals_one _) (by unfold maxLen; omega) (by omega) hs5 ?_; intro v3 w6 hown3 hg3 _ hat3; obtain ⟨va3, vc3, hv3⟩ := own_slice hown3; subst hv3; have HB6 : Hid (Below w1.heap.size w1 w6) := HB5.out.grown hg3 hs5 (fun k hk => (own_block_lt HO2.out k hk).1); have HO3 := hown3; rw [<- hvals_append] at HO3; generalize hNN : l.length + 1 + _ = N at HO3 ⊢; have HCN := rset_new w w1 w6 base Q rb D g cap ra rcap L p (ins l l.length n) va3 vc3 N HD.out HF.out HPP.out hpl HB1.out HB6.out (by rw [<- hNN]; simp [ins] <;> omega) HO3; clear hown3 hg3 hat3 tok3 _t hNN HO3))
 refine HCN.mono ?_
 rintro e w7 ⟨rfl, ⟨Q', ra', rcap', L', hr, hQ'⟩, ht7⟩
 clear HCN
 obtain ⟨q, hq, -, hcap, hhd, hcl⟩ := hr.slot HS1.out
 have hat := rat_any w7.drew _ rb _ n (hr.done.view.below ((Below.refl _ _).drew)) HF1.out hnl
 rw [atR_some HA1.out] at hat
 have hc6 := (hcl 6 _ rfl).1
 have hf6 := (hcl 6 _ rfl).2
 have hil : (i : Int) < (((setL D p (ins l l.length n)).S.length : Nat) : Int) := by have := (List.getElem?_eq_some_iff.1 HS1.out).1; omega
 have hl4 := HF1.out.len
 have hgs := hr.gb
 have hgr : ¬ g = rb := by have := hr.rbl; omega
 have hgr2 : ¬ rb = g := by omega
 have e1 : setPar (setL D p (ins l l.length n)) n p = { (setL D p (ins l l.length n)) with S := (setL D p (ins l l.length n)).S.set i { s1 with parent := p } } := by simp only [setPar, HA1.out, HS1.out]
 have HE : Hid (setPar (setL D p (ins l l.length n)) n p = { (setL D p (ins l l.length n)) with S := (setL D p (ins l l.length n)).S.set i { s1 with parent := p } }) := e1
 have HR : Hid (RdS ((w7.drew).setCell ⟨g, i * 8 + 6, none⟩ (.int .u64 (p : Int))) base Q' rb { (setL D p (ins l l.length n)) with S := (setL D p (ins l l.length n)).S.set i { s1 with parent := p } } g cap ra' rcap' (L'.set i q)) := (hr.below ((Below.refl _ _).drew)).setPar HS1.out hq p
 have HQ : Hid (∀ b, Q' b -> Q b \/ w.heap.size <= b) := hQ'
 have HT : Hid (Turn (fun b => b = rb \/ b = g) w w7) := ht7
 generalize (setL D p (ins l l.length n)).S.length = SL at *
 clear hr hq hcl e1 hQ' ht7
 go_wp2_with fail
 go_region_held3 (fun w' => w'.cell? ⟨rb, 0, none⟩ = some (.slice (some ⟨g, 0, none⟩) SL cap)) (go_keep) (first | (go_at_call 72; refine hat.mono ?_; rintro e w8 ⟨rfl, rfl⟩))
 go_end0
 refine ⟨rfl, ⟨Q', ra', rcap', _, by rw [HE.out]; exact HR.out, HQ.out⟩, ?_⟩
 exact (Turn.setCell (A := fun b => b = rb \/ b = g) HT.out (p := ⟨g, i * 8 + 6, none⟩) (.inr rfl) _).drew
theorem rput_before (w : World) (base : Nat) (Q : Nat -> Prop) (rb : Nat) (D : Dc) (g cap : Nat) (ra : Option Addr) (rcap : Nat) (L : List (Value × Value)) (n p a i k : Nat) (h : RdS w base Q rb D g cap ra rcap L) (hf : Fits D) (hpp : p = 0 \/ ∃ s, sl D p = some s) (hpl : p < 18446744073709551616) (hnl : n < 18446744073709551616) (hll : (lst D p).length <= 4096) (hne : 0 < (lst D p).length) (hai : atI D.S n = some i) (hix : idxH (lst D p) a = (k : Int)) (hkl : k < (lst D p).length) :
  Calls Tryz.prog 67 #[.pointer (some ⟨rb, 0, none⟩), .int .u64 (n : Int), .int .u64 (p : Int), .int .i64 3, .int .u64 (a : Int)] w (OutP w base Q rb (setPar (setL D p (ins (lst D p) k n)) n p) g cap) := by
 have hvw := h.done.view
 obtain ⟨la, lcap, hlc, hlat, hcal⟩ := rlist_any w _ rb D p hvw hf hpl hpp
 obtain ⟨x0, hx0⟩ : ∃ x, (lst D p)[0]? = some x := ⟨_, List.getElem?_eq_getElem hne⟩
 obtain ⟨lb, lo, rfl, hlbR, -⟩ := hlat 0 x0 hx0
 obtain ⟨s1, hs1, ha1⟩ := setL_at (p := p) (l' := ins (lst D p) k n) hai
 have hf1 := setL_fits (p := p) (l' := ins (lst D p) k n) hf
 have HS1 : Hid ((setL D p (ins (lst D p) k n)).S[i]? = some s1) := hs1
 have HA1 : Hid (atI (setL D p (ins (lst D p) k n)).S n = some i) := ha1
 have HF1 : Hid (Fits (setL D p (ins (lst D p) k n))) := hf1
 have HD : Hid (RdS w base Q rb D g cap ra rcap L) := h
 have HF : Hid (Fits D) := hf
 have HPP : Hid (p = 0 \/ ∃ s, sl D p = some s) := hpp
 have HLT : Hid (∀ b, ((Q b \/ (base <= b /\ b < w.heap.size)) \/ b = rb) -> b < w.heap.size) := hvw.lt
 have HLAT : Hid (HandsAt w (fun b => (Q b \/ (base <= b /\ b < w.heap.size)) \/ b = rb) (some ⟨lb, lo, none⟩) (lst D p)) := hlat
 have HIX : Hid (idxH (lst D p) a = (k : Int)) := hix
 clear h hf hpp hai hvw hlat hx0 hs1 ha1 hf1 hix
 generalize lst D p = l at *
 have tok1 : True := trivial
 have tok2 : True := trivial
 have tok3 : True := trivial
 go_enter Tryz.func67, Tryz.ntmps67
 go_wp2_with fail
 refine hcal.mono ?_
 rintro e w1 ⟨rfl, hb1⟩
 have HB1 : Hid (Below w.heap.size w w1) := hb1
 have HL1 : Hid (HandsAt w1 (fun b => (Q b \/ (base <= b /\ b < w.heap.size)) \/ b = rb) (some ⟨lb, lo, none⟩) l) := HLAT.out.to (fun _ h => h) (fun b o hb => hb1.cell (p := ⟨b, o, none⟩) (HLT.out b hb))
 have hsz := hb1.size
 clear hb1 hcal HLAT
 have hfi := rfind_any w1 _ _ l lcap a HL1.out (by omega) _ HIX.out
 go_wp2_with fail
 refine hfi.mono ?_
 rintro e w2 ⟨rfl, rfl⟩
 clear hfi
 have HC : Hid (∀ W, Below w2.heap.size w2 W -> ∀ b o, ((Q b \/ (base <= b /\ b < w.heap.size)) \/ b = rb) -> W.cell? ⟨b, o, none⟩ = w2.cell? ⟨b, o, none⟩) := fun W hb b o hR => hb.cell (p := ⟨b, o, none⟩) (by have := HLT.out b hR; show b < w2.heap.size; omega)
 have HB3 : Hid (Below w2.heap.size w2 (w2.alloc (.cells #[] 32))) := below_new' w2 _
 have hT1 : Hid ((hvals (l.take k)).length = k * 1) := by show _ = _; rw [hvals_length, List.length_take]; omega
 have hT2 : Hid ((hvals (l.drop k)).length = (l.length - k) * 1) := by show _ = _; rw [hvals_length, List.length_drop]; omega
 go_wp2_with (first
  | (at_builtin; have _t := tok1; refine wpList_app rfl _ _ rfl Tryz.underlying56 info42 rfl (by decide) w2.heap.size (.slice (some ⟨w2.heap.size, 0, none⟩) 0 0) 0 [] rfl (own_new w2 32 1) _ _ _ (hvals (l.take k)) rfl (by first | exact hT1.out | (simpa using hT1.out)) (HL1.out.takeN (HC.out _ HB3.out) k) (hvals_one _) (by unfold maxLen; omega) (by omega) (by simp) ?_; intro v1 w4 hown1 hg1 _ hat1; obtain ⟨va1, vc1, hv1⟩ := own_slice hown1; subst hv1; rw [Nat.zero_add, List.nil_append] at hown1; rw [Nat.zero_add]; have HO1 : Hid (w4.ownsRow w2.heap.size 32 1 (.slice va1 k vc1) k (hvals (l.take k))) := (by first | exact hown1 | simpa using hown1); have HB4 : Hid (Below w2.heap.size w2 w4) := HB3.out.grown hg1 (by simp) (fun k hk => by simp only [Value.ownBlock, Option.some.injEq] at hk; omega); have hs4 := HB4.out.size; clear hown1 hg1 hat1 tok1 _t)
  | (at_builtin; have _t := tok2; refine wpList_app rfl _ _ rfl Tryz.underlying56 info42 rfl (by decide) w2.heap.size (.slice va1 k vc1) k (hvals (l.take k)) rfl (own_of_block HO1.out (fun k hk => Below.heap_alloc _ _ _ (own_block_lt HO1.out k hk).2)) (some ⟨w4.heap.size, 0, none⟩) 1 1 [.int .u64 (n : Int)] rfl rfl (news_new w4 #[.int .u64 (n : Int)] 32) (by simp [Value.oneCell']) (by unfold maxLen; omega) (by omega) (by simp; omega) ?_; intro v2 w5 hown2 hg2 _ hat2; obtain ⟨va2, vc2, hv2⟩ := own_slice hown2; subst hv2; have HO2 : Hid (w5.ownsRow w2.heap.size 32 1 (.slice va2 (k + 1) vc2) (k + 1) (hvals (l.take k ++ [n]))) := (by rw [hvals_append]; exact hown2); have HB5 : Hid (Below w2.heap.size w2 w5) := (HB4.out.alloc hs4 _).grown hg2 (by simp; omega) (fun k hk => (own_block_lt HO1.out k hk).1); have hs5 := HB5.out.size; clear hown2 hg2 hat2 tok2 _t)
  | (at_builtin; have _t := tok3; refine wpList_app rfl _ _ rfl Tryz.underlying56 info42 rfl (by decide) w2.heap.size (.slice va2 (k + 1) vc2) (k + 1) (hvals (l.take k ++ [n])) rfl HO2.out _ _ _ (hvals (l.drop k)) rfl (by first | exact hT2.out | (simpa using hT2.out) | (have := hT2.out; omega)) (HL1.out.dropN hlc (HC.out _ HB5.out) k) (hvals_one _) (by unfold maxLen; omega) (by omega) hs5 ?_; intro v3 w6 hown3 hg3 _ hat3; obtain ⟨va3, vc3, hv3⟩ := own_slice hown3; subst hv3; have HB6 : Hid (Below w2.heap.size w2 w6) := HB5.out.grown hg3 hs5 (fun k hk => (own_block_lt HO2.out k hk).1); have HO3 := hown3; rw [<- hvals_append] at HO3; generalize hNN : k + 1 + _ = N at HO3 ⊢; have HCN := rset_new w w2 w6 base Q rb D g cap ra rcap L p (ins l k n) va3 vc3 N HD.out HF.out HPP.out hpl HB1.out HB6.out (by rw [<- hNN]; simp [ins] <;> omega) HO3; clear hown3 hg3 hat3 tok3 _t hNN HO3))
 refine HCN.mono ?_
 rintro e w7 ⟨rfl, ⟨Q', ra', rcap', L', hr, hQ'⟩, ht7⟩
 clear HCN
 obtain ⟨q, hq, -, hcap, hhd, hcl⟩ := hr.slot HS1.out
 have hat := rat_any w7.drew _ rb _ n (hr.done.view.below ((Below.refl _ _).drew)) HF1.out hnl
 rw [atR_some HA1.out] at hat
 have hc6 := (hcl 6 _ rfl).1
 have hf6 := (hcl 6 _ rfl).2
 have hil : (i : Int) < (((setL D p (ins l k n)).S.length : Nat) : Int) := by have := (List.getElem?_eq_some_iff.1 HS1.out).1; omega
 have hl4 := HF1.out.len
 have hgs := hr.gb
 have hgr : ¬ g = rb := by have := hr.rbl; omega
 have hgr2 : ¬ rb = g := by omega
 have e1 : setPar (setL D p (ins l k n)) n p = { (setL D p (ins l k n)) with S := (setL D p (ins l k n)).S.set i { s1 with parent := p } } := by simp only [setPar, HA1.out, HS1.out]
 have HE : Hid (setPar (setL D p (ins l k n)) n p = { (setL D p (ins l k n)) with S := (setL D p (ins l k n)).S.set i { s1 with parent := p } }) := e1
 have HR : Hid (RdS ((w7.drew).setCell ⟨g, i * 8 + 6, none⟩ (.int .u64 (p : Int))) base Q' rb { (setL D p (ins l k n)) with S := (setL D p (ins l k n)).S.set i { s1 with parent := p } } g cap ra' rcap' (L'.set i q)) := (hr.below ((Below.refl _ _).drew)).setPar HS1.out hq p
 have HQ : Hid (∀ b, Q' b -> Q b \/ w.heap.size <= b) := hQ'
 have HT : Hid (Turn (fun b => b = rb \/ b = g) w w7) := ht7
 generalize (setL D p (ins l k n)).S.length = SL at *
 clear hr hq hcl e1 hQ' ht7
 go_wp2_with fail
 go_region_held3 (fun w' => w'.cell? ⟨rb, 0, none⟩ = some (.slice (some ⟨g, 0, none⟩) SL cap)) (go_keep) (first | (go_at_call 72; refine hat.mono ?_; rintro e w8 ⟨rfl, rfl⟩))
 go_end0
 refine ⟨rfl, ⟨Q', ra', rcap', _, by rw [HE.out]; exact HR.out, HQ.out⟩, ?_⟩
 exact (Turn.setCell (A := fun b => b = rb \/ b = g) HT.out (p := ⟨g, i * 8 + 6, none⟩) (.inr rfl) _).drew
theorem rput_after (w : World) (base : Nat) (Q : Nat -> Prop) (rb : Nat) (D : Dc) (g cap : Nat) (ra : Option Addr) (rcap : Nat) (L : List (Value × Value)) (n p a i k : Nat) (h : RdS w base Q rb D g cap ra rcap L) (hf : Fits D) (hpp : p = 0 \/ ∃ s, sl D p = some s) (hpl : p < 18446744073709551616) (hnl : n < 18446744073709551616) (hll : (lst D p).length <= 4096) (hne : 0 < (lst D p).length) (hai : atI D.S n = some i) (hix : idxH (lst D p) a = (k : Int)) (hkl : k < (lst D p).length) :
  Calls Tryz.prog 67 #[.pointer (some ⟨rb, 0, none⟩), .int .u64 (n : Int), .int .u64 (p : Int), .int .i64 4, .int .u64 (a : Int)] w (OutP w base Q rb (setPar (setL D p (ins (lst D p) (k + 1) n)) n p) g cap) := by
 have hvw := h.done.view
 obtain ⟨la, lcap, hlc, hlat, hcal⟩ := rlist_any w _ rb D p hvw hf hpl hpp
 obtain ⟨x0, hx0⟩ : ∃ x, (lst D p)[0]? = some x := ⟨_, List.getElem?_eq_getElem hne⟩
 obtain ⟨lb, lo, rfl, hlbR, -⟩ := hlat 0 x0 hx0
 obtain ⟨s1, hs1, ha1⟩ := setL_at (p := p) (l' := ins (lst D p) (k + 1) n) hai
 have hf1 := setL_fits (p := p) (l' := ins (lst D p) (k + 1) n) hf
 have HS1 : Hid ((setL D p (ins (lst D p) (k + 1) n)).S[i]? = some s1) := hs1
 have HA1 : Hid (atI (setL D p (ins (lst D p) (k + 1) n)).S n = some i) := ha1
 have HF1 : Hid (Fits (setL D p (ins (lst D p) (k + 1) n))) := hf1
 have HD : Hid (RdS w base Q rb D g cap ra rcap L) := h
 have HF : Hid (Fits D) := hf
 have HPP : Hid (p = 0 \/ ∃ s, sl D p = some s) := hpp
 have HLT : Hid (∀ b, ((Q b \/ (base <= b /\ b < w.heap.size)) \/ b = rb) -> b < w.heap.size) := hvw.lt
 have HLAT : Hid (HandsAt w (fun b => (Q b \/ (base <= b /\ b < w.heap.size)) \/ b = rb) (some ⟨lb, lo, none⟩) (lst D p)) := hlat
 have HIX : Hid (idxH (lst D p) a = (k : Int)) := hix
 clear h hf hpp hai hvw hlat hx0 hs1 ha1 hf1 hix
 generalize lst D p = l at *
 have tok1 : True := trivial
 have tok2 : True := trivial
 have tok3 : True := trivial
 go_enter Tryz.func67, Tryz.ntmps67
 go_wp2_with fail
 refine hcal.mono ?_
 rintro e w1 ⟨rfl, hb1⟩
 have HB1 : Hid (Below w.heap.size w w1) := hb1
 have HL1 : Hid (HandsAt w1 (fun b => (Q b \/ (base <= b /\ b < w.heap.size)) \/ b = rb) (some ⟨lb, lo, none⟩) l) := HLAT.out.to (fun _ h => h) (fun b o hb => hb1.cell (p := ⟨b, o, none⟩) (HLT.out b hb))
 have hsz := hb1.size
 clear hb1 hcal HLAT
 have hfi := rfind_any w1 _ _ l lcap a HL1.out (by omega) _ HIX.out
 go_wp2_with fail
 refine hfi.mono ?_
 rintro e w2 ⟨rfl, rfl⟩
 clear hfi
 have HC : Hid (∀ W, Below w2.heap.size w2 W -> ∀ b o, ((Q b \/ (base <= b /\ b < w.heap.size)) \/ b = rb) -> W.cell? ⟨b, o, none⟩ = w2.cell? ⟨b, o, none⟩) := fun W hb b o hR => hb.cell (p := ⟨b, o, none⟩) (by have := HLT.out b hR; show b < w2.heap.size; omega)
 have HB3 : Hid (Below w2.heap.size w2 (w2.alloc (.cells #[] 32))) := below_new' w2 _
 have hT1 : Hid ((hvals (l.take (k + 1))).length = (k + 1) * 1) := by show _ = _; rw [hvals_length, List.length_take]; omega
 have hT2 : Hid ((hvals (l.drop (k + 1))).length = (l.length - (k + 1)) * 1) := by show _ = _; rw [hvals_length, List.length_drop]; omega
 go_wp2_with (first
  | (at_builtin; have _t := tok1; refine wpList_app rfl _ _ rfl Tryz.underlying56 info42 rfl (by decide) w2.heap.size (.slice (some ⟨w2.heap.size, 0, none⟩) 0 0) 0 [] rfl (own_new w2 32 1) _ _ _ (hvals (l.take (k + 1))) rfl (by first | exact hT1.out | (simpa using hT1.out)) (HL1.out.takeN (HC.out _ HB3.out) (k + 1)) (hvals_one _) (by unfold maxLen; omega) (by omega) (by simp) ?_; intro v1 w4 hown1 hg1 _ hat1; obtain ⟨va1, vc1, hv1⟩ := own_slice hown1; subst hv1; rw [Nat.zero_add, List.nil_append] at hown1; rw [Nat.zero_add]; have HO1 : Hid (w4.ownsRow w2.heap.size 32 1 (.slice va1 (k + 1) vc1) (k + 1) (hvals (l.take (k + 1)))) := (by first | exact hown1 | simpa using hown1); have HB4 : Hid (Below w2.heap.size w2 w4) := HB3.out.grown hg1 (by simp) (fun k hk => by simp only [Value.ownBlock, Option.some.injEq] at hk; omega); have hs4 := HB4.out.size; clear hown1 hg1 hat1 tok1 _t)
  | (at_builtin; have _t := tok2; refine wpList_app rfl _ _ rfl Tryz.underlying56 info42 rfl (by decide) w2.heap.size (.slice va1 (k + 1) vc1) (k + 1) (hvals (l.take (k + 1))) rfl (own_of_block HO1.out (fun k hk => Below.heap_alloc _ _ _ (own_block_lt HO1.out k hk).2)) (some ⟨w4.heap.size, 0, none⟩) 1 1 [.int .u64 (n : Int)] rfl rfl (news_new w4 #[.int .u64 (n : Int)] 32) (by simp [Value.oneCell']) (by unfold maxLen; omega) (by omega) (by simp; omega) ?_; intro v2 w5 hown2 hg2 _ hat2; obtain ⟨va2, vc2, hv2⟩ := own_slice hown2; subst hv2; have HO2 : Hid (w5.ownsRow w2.heap.size 32 1 (.slice va2 ((k + 1) + 1) vc2) ((k + 1) + 1) (hvals (l.take (k + 1) ++ [n]))) := (by rw [hvals_append]; exact hown2); have HB5 : Hid (Below w2.heap.size w2 w5) := (HB4.out.alloc hs4 _).grown hg2 (by simp; omega) (fun k hk => (own_block_lt HO1.out k hk).1); have hs5 := HB5.out.size; clear hown2 hg2 hat2 tok2 _t)
  | (at_builtin; have _t := tok3; refine wpList_app rfl _ _ rfl Tryz.underlying56 info42 rfl (by decide) w2.heap.size (.slice va2 ((k + 1) + 1) vc2) ((k + 1) + 1) (hvals (l.take (k + 1) ++ [n])) rfl HO2.out _ _ _ (hvals (l.drop (k + 1))) rfl (by first | exact hT2.out | (simpa using hT2.out) | (have := hT2.out; omega)) (HL1.out.dropN hlc (HC.out _ HB5.out) (k + 1)) (hvals_one _) (by unfold maxLen; omega) (by omega) hs5 ?_; intro v3 w6 hown3 hg3 _ hat3; obtain ⟨va3, vc3, hv3⟩ := own_slice hown3; subst hv3; have HB6 : Hid (Below w2.heap.size w2 w6) := HB5.out.grown hg3 hs5 (fun k hk => (own_block_lt HO2.out k hk).1); have HO3 := hown3; rw [<- hvals_append] at HO3; generalize hNN : (k + 1) + 1 + _ = N at HO3 ⊢; have HCN := rset_new w w2 w6 base Q rb D g cap ra rcap L p (ins l (k + 1) n) va3 vc3 N HD.out HF.out HPP.out hpl HB1.out HB6.out (by rw [<- hNN]; simp [ins] <;> omega) HO3; clear hown3 hg3 hat3 tok3 _t hNN HO3))
 refine HCN.mono ?_
 rintro e w7 ⟨rfl, ⟨Q', ra', rcap', L', hr, hQ'⟩, ht7⟩
 clear HCN
 obtain ⟨q, hq, -, hcap, hhd, hcl⟩ := hr.slot HS1.out
 have hat := rat_any w7.drew _ rb _ n (hr.done.view.below ((Below.refl _ _).drew)) HF1.out hnl
 rw [atR_some HA1.out] at hat
 have hc6 := (hcl 6 _ rfl).1
 have hf6 := (hcl 6 _ rfl).2
 have hil : (i : Int) < (((setL D p (ins l (k + 1) n)).S.length : Nat) : Int) := by have := (List.getElem?_eq_some_iff.1 HS1.out).1; omega
 have hl4 := HF1.out.len
 have hgs := hr.gb
 have hgr : ¬ g = rb := by have := hr.rbl; omega
 have hgr2 : ¬ rb = g := by omega
 have e1 : setPar (setL D p (ins l (k + 1) n)) n p = { (setL D p (ins l (k + 1) n)) with S := (setL D p (ins l (k + 1) n)).S.set i { s1 with parent := p } } := by simp only [setPar, HA1.out, HS1.out]
 have HE : Hid (setPar (setL D p (ins l (k + 1) n)) n p = { (setL D p (ins l (k + 1) n)) with S := (setL D p (ins l (k + 1) n)).S.set i { s1 with parent := p } }) := e1
 have HR : Hid (RdS ((w7.drew).setCell ⟨g, i * 8 + 6, none⟩ (.int .u64 (p : Int))) base Q' rb { (setL D p (ins l (k + 1) n)) with S := (setL D p (ins l (k + 1) n)).S.set i { s1 with parent := p } } g cap ra' rcap' (L'.set i q)) := (hr.below ((Below.refl _ _).drew)).setPar HS1.out hq p
 have HQ : Hid (∀ b, Q' b -> Q b \/ w.heap.size <= b) := hQ'
 have HT : Hid (Turn (fun b => b = rb \/ b = g) w w7) := ht7
 generalize (setL D p (ins l (k + 1) n)).S.length = SL at *
 clear hr hq hcl e1 hQ' ht7
 go_wp2_with fail
 go_region_held3 (fun w' => w'.cell? ⟨rb, 0, none⟩ = some (.slice (some ⟨g, 0, none⟩) SL cap)) (go_keep) (first | (go_at_call 72; refine hat.mono ?_; rintro e w8 ⟨rfl, rfl⟩))
 go_end0
 refine ⟨rfl, ⟨Q', ra', rcap', _, by rw [HE.out]; exact HR.out, HQ.out⟩, ?_⟩
 exact (Turn.setCell (A := fun b => b = rb \/ b = g) HT.out (p := ⟨g, i * 8 + 6, none⟩) (.inr rfl) _).drew
attribute [local go_sem] ite_sliceAt sliceAt_zero
theorem rput_e1n (w : World) (base : Nat) (Q : Nat -> Prop) (rb : Nat) (D : Dc) (g cap : Nat) (ra : Option Addr) (rcap : Nat) (L : List (Value × Value)) (n p a i : Nat) (lcap : Nat) (h : RdS w base Q rb D g cap ra rcap L) (hf : Fits D) (hpp : p = 0 \/ ∃ s, sl D p = some s) (hpl : p < 18446744073709551616) (hnl : n < 18446744073709551616) (hai : atI D.S n = some i)
  (hcal : Calls Tryz.prog 77 #[.pointer (some ⟨rb, 0, none⟩), .int .u64 (p : Int)] w fun e w' => e = .returned (.slice none 0 lcap) /\ Below w.heap.size w w') :
  Calls Tryz.prog 67 #[.pointer (some ⟨rb, 0, none⟩), .int .u64 (n : Int), .int .u64 (p : Int), .int .i64 1, .int .u64 (a : Int)] w (OutP w base Q rb (setPar (setL D p [n]) n p) g cap) := by
 obtain ⟨s1, hs1, ha1⟩ := setL_at (p := p) (l' := [n]) hai
 have hf1 := setL_fits (p := p) (l' := [n]) hf
 have HS1 : Hid ((setL D p [n]).S[i]? = some s1) := hs1
 have HA1 : Hid (atI (setL D p [n]).S n = some i) := ha1
 have HF1 : Hid (Fits (setL D p [n])) := hf1
 have HD : Hid (RdS w base Q rb D g cap ra rcap L) := h
 have HF : Hid (Fits D) := hf
 have HPP : Hid (p = 0 \/ ∃ s, sl D p = some s) := hpp
 clear h hf hpp hai hs1 ha1 hf1
 have tok1 : True := trivial
 have tok2 : True := trivial
 have tok3 : True := trivial
 go_enter Tryz.func67, Tryz.ntmps67
 go_wp2_with fail
 refine hcal.mono ?_
 rintro e w1 ⟨rfl, hb1⟩
 have HB1 : Hid (Below w.heap.size w w1) := hb1
 have hsz := hb1.size
 clear hb1 hcal
 have HB3 : Hid (Below w1.heap.size w1 (w1.alloc (.cells #[] 32))) := below_new' w1 _
 go_wp2_with (first
  | (at_builtin; have _t := tok1; refine wpList_app rfl _ _ rfl Tryz.underlying56 info42 rfl (by decide) w1.heap.size (.slice (some ⟨w1.heap.size, 0, none⟩) 0 0) 0 [] rfl (own_new w1 32 1) _ _ _ [] rfl rfl (fun j u hu => by simp at hu) (fun u hu => by simp at hu) (by unfold maxLen; omega) (by omega) (by simp) ?_; intro v1 w4 hown1 hg1 _ hat1; obtain ⟨va1, vc1, hv1⟩ := own_slice hown1; subst hv1; rw [Nat.zero_add, List.nil_append] at hown1; rw [Nat.zero_add]; have HO1 : Hid (w4.ownsRow w1.heap.size 32 1 (.slice va1 0 vc1) 0 []) := hown1; have HB4 : Hid (Below w1.heap.size w1 w4) := HB3.out.grown hg1 (by simp) (fun k hk => by simp only [Value.ownBlock, Option.some.injEq] at hk; omega); have hs4 := HB4.out.size; clear hown1 hg1 hat1 tok1 _t)
  | (at_builtin; have _t := tok2; refine wpList_app rfl _ _ rfl Tryz.underlying56 info42 rfl (by decide) w1.heap.size (.slice va1 0 vc1) 0 [] rfl (own_of_block HO1.out (fun k hk => Below.heap_alloc _ _ _ (own_block_lt HO1.out k hk).2)) (some ⟨w4.heap.size, 0, none⟩) 1 1 [.int .u64 (n : Int)] rfl rfl (news_new w4 #[.int .u64 (n : Int)] 32) (by simp [Value.oneCell']) (by unfold maxLen; omega) (by omega) (by simp; omega) ?_; intro v2 w5 hown2 hg2 _ hat2; obtain ⟨va2, vc2, hv2⟩ := own_slice hown2; subst hv2; rw [Nat.zero_add, List.nil_append] at hown2; rw [Nat.zero_add]; have HO2 : Hid (w5.ownsRow w1.heap.size 32 1 (.slice va2 1 vc2) 1 (hvals [n])) := hown2; have HB5 : Hid (Below w1.heap.size w1 w5) := (HB4.out.alloc hs4 _).grown hg2 (by simp; omega) (fun k hk => (own_block_lt HO1.out k hk).1); have hs5 := HB5.out.size; clear hown2 hg2 hat2 tok2 _t)
  | (at_builtin; have _t := tok3; refine wpList_app rfl _ _ rfl Tryz.underlying56 info42 rfl (by decide) w1.heap.size (.slice va2 1 vc2) 1 (hvals [n]) rfl HO2.out _ _ _ [] rfl rfl (fun j u hu => by simp at hu) (fun u hu => by simp at hu) (by unfold maxLen; omega) (by omega) hs5 ?_; intro v3 w6 hown3 hg3 _ hat3; obtain ⟨va3, vc3, hv3⟩ := own_slice hown3; subst hv3; have HB6 : Hid (Below w1.heap.size w1 w6) := HB5.out.grown hg3 hs5 (fun k hk => (own_block_lt HO2.out k hk).1); rw [Nat.add_zero, List.append_nil] at hown3; rw [Nat.add_zero]; have HCN := rset_new w w1 w6 base Q rb D g cap ra rcap L p [n] va3 vc3 1 HD.out HF.out HPP.out hpl HB1.out HB6.out rfl hown3; clear hown3 hg3 hat3 tok3 _t))
 refine HCN.mono ?_
 rintro e w7 ⟨rfl, ⟨Q', ra', rcap', L', hr, hQ'⟩, ht7⟩
 clear HCN
 obtain ⟨q, hq, -, hcap, hhd, hcl⟩ := hr.slot HS1.out
 have hat := rat_any w7.drew _ rb _ n (hr.done.view.below ((Below.refl _ _).drew)) HF1.out hnl
 rw [atR_some HA1.out] at hat
 have hc6 := (hcl 6 _ rfl).1
 have hf6 := (hcl 6 _ rfl).2
 have hil : (i : Int) < (((setL D p ([n])).S.length : Nat) : Int) := by have := (List.getElem?_eq_some_iff.1 HS1.out).1; omega
 have hl4 := HF1.out.len
 have hgs := hr.gb
 have hgr : ¬ g = rb := by have := hr.rbl; omega
 have hgr2 : ¬ rb = g := by omega
 have e1 : setPar (setL D p ([n])) n p = { (setL D p ([n])) with S := (setL D p ([n])).S.set i { s1 with parent := p } } := by simp only [setPar, HA1.out, HS1.out]
 have HE : Hid (setPar (setL D p ([n])) n p = { (setL D p ([n])) with S := (setL D p ([n])).S.set i { s1 with parent := p } }) := e1
 have HR : Hid (RdS ((w7.drew).setCell ⟨g, i * 8 + 6, none⟩ (.int .u64 (p : Int))) base Q' rb { (setL D p ([n])) with S := (setL D p ([n])).S.set i { s1 with parent := p } } g cap ra' rcap' (L'.set i q)) := (hr.below ((Below.refl _ _).drew)).setPar HS1.out hq p
 have HQ : Hid (∀ b, Q' b -> Q b \/ w.heap.size <= b) := hQ'
 have HT : Hid (Turn (fun b => b = rb \/ b = g) w w7) := ht7
 generalize (setL D p ([n])).S.length = SL at *
 clear hr hq hcl e1 hQ' ht7
 go_wp2_with fail
 go_region_held3 (fun w' => w'.cell? ⟨rb, 0, none⟩ = some (.slice (some ⟨g, 0, none⟩) SL cap)) (go_keep) (first | (go_at_call 72; refine hat.mono ?_; rintro e w8 ⟨rfl, rfl⟩))
 go_end0
 refine ⟨rfl, ⟨Q', ra', rcap', _, by rw [HE.out]; exact HR.out, HQ.out⟩, ?_⟩
 exact (Turn.setCell (A := fun b => b = rb \/ b = g) HT.out (p := ⟨g, i * 8 + 6, none⟩) (.inr rfl) _).drew
theorem rput_e1s (w : World) (base : Nat) (Q : Nat -> Prop) (rb : Nat) (D : Dc) (g cap : Nat) (ra : Option Addr) (rcap : Nat) (L : List (Value × Value)) (n p a i : Nat) (ad : Addr) (lcap : Nat) (h : RdS w base Q rb D g cap ra rcap L) (hf : Fits D) (hpp : p = 0 \/ ∃ s, sl D p = some s) (hpl : p < 18446744073709551616) (hnl : n < 18446744073709551616) (hai : atI D.S n = some i)
  (hcal : Calls Tryz.prog 77 #[.pointer (some ⟨rb, 0, none⟩), .int .u64 (p : Int)] w fun e w' => e = .returned (.slice (some ad) 0 lcap) /\ Below w.heap.size w w') :
  Calls Tryz.prog 67 #[.pointer (some ⟨rb, 0, none⟩), .int .u64 (n : Int), .int .u64 (p : Int), .int .i64 1, .int .u64 (a : Int)] w (OutP w base Q rb (setPar (setL D p [n]) n p) g cap) := by
 obtain ⟨s1, hs1, ha1⟩ := setL_at (p := p) (l' := [n]) hai
 have hf1 := setL_fits (p := p) (l' := [n]) hf
 have HS1 : Hid ((setL D p [n]).S[i]? = some s1) := hs1
 have HA1 : Hid (atI (setL D p [n]).S n = some i) := ha1
 have HF1 : Hid (Fits (setL D p [n])) := hf1
 have HD : Hid (RdS w base Q rb D g cap ra rcap L) := h
 have HF : Hid (Fits D) := hf
 have HPP : Hid (p = 0 \/ ∃ s, sl D p = some s) := hpp
 clear h hf hpp hai hs1 ha1 hf1
 have tok1 : True := trivial
 have tok2 : True := trivial
 have tok3 : True := trivial
 go_enter Tryz.func67, Tryz.ntmps67
 go_wp2_with fail
 refine hcal.mono ?_
 rintro e w1 ⟨rfl, hb1⟩
 have HB1 : Hid (Below w.heap.size w w1) := hb1
 have hsz := hb1.size
 clear hb1 hcal
 have HB3 : Hid (Below w1.heap.size w1 (w1.alloc (.cells #[] 32))) := below_new' w1 _
 go_wp2_with (first
  | (at_builtin; have _t := tok1; refine wpList_app rfl _ _ rfl Tryz.underlying56 info42 rfl (by decide) w1.heap.size (.slice (some ⟨w1.heap.size, 0, none⟩) 0 0) 0 [] rfl (own_new w1 32 1) _ _ _ [] rfl rfl (fun j u hu => by simp at hu) (fun u hu => by simp at hu) (by unfold maxLen; omega) (by omega) (by simp) ?_; intro v1 w4 hown1 hg1 _ hat1; obtain ⟨va1, vc1, hv1⟩ := own_slice hown1; subst hv1; rw [Nat.zero_add, List.nil_append] at hown1; rw [Nat.zero_add]; have HO1 : Hid (w4.ownsRow w1.heap.size 32 1 (.slice va1 0 vc1) 0 []) := hown1; have HB4 : Hid (Below w1.heap.size w1 w4) := HB3.out.grown hg1 (by simp) (fun k hk => by simp only [Value.ownBlock, Option.some.injEq] at hk; omega); have hs4 := HB4.out.size; clear hown1 hg1 hat1 tok1 _t)
  | (at_builtin; have _t := tok2; refine wpList_app rfl _ _ rfl Tryz.underlying56 info42 rfl (by decide) w1.heap.size (.slice va1 0 vc1) 0 [] rfl (own_of_block HO1.out (fun k hk => Below.heap_alloc _ _ _ (own_block_lt HO1.out k hk).2)) (some ⟨w4.heap.size, 0, none⟩) 1 1 [.int .u64 (n : Int)] rfl rfl (news_new w4 #[.int .u64 (n : Int)] 32) (by simp [Value.oneCell']) (by unfold maxLen; omega) (by omega) (by simp; omega) ?_; intro v2 w5 hown2 hg2 _ hat2; obtain ⟨va2, vc2, hv2⟩ := own_slice hown2; subst hv2; rw [Nat.zero_add, List.nil_append] at hown2; rw [Nat.zero_add]; have HO2 : Hid (w5.ownsRow w1.heap.size 32 1 (.slice va2 1 vc2) 1 (hvals [n])) := hown2; have HB5 : Hid (Below w1.heap.size w1 w5) := (HB4.out.alloc hs4 _).grown hg2 (by simp; omega) (fun k hk => (own_block_lt HO1.out k hk).1); have hs5 := HB5.out.size; clear hown2 hg2 hat2 tok2 _t)
  | (at_builtin; have _t := tok3; refine wpList_app rfl _ _ rfl Tryz.underlying56 info42 rfl (by decide) w1.heap.size (.slice va2 1 vc2) 1 (hvals [n]) rfl HO2.out _ _ _ [] rfl rfl (fun j u hu => by simp at hu) (fun u hu => by simp at hu) (by unfold maxLen; omega) (by omega) hs5 ?_; intro v3 w6 hown3 hg3 _ hat3; obtain ⟨va3, vc3, hv3⟩ := own_slice hown3; subst hv3; have HB6 : Hid (Below w1.heap.size w1 w6) := HB5.out.grown hg3 hs5 (fun k hk => (own_block_lt HO2.out k hk).1); rw [Nat.add_zero, List.append_nil] at hown3; rw [Nat.add_zero]; have HCN := rset_new w w1 w6 base Q rb D g cap ra rcap L p [n] va3 vc3 1 HD.out HF.out HPP.out hpl HB1.out HB6.out rfl hown3; clear hown3 hg3 hat3 tok3 _t))
 refine HCN.mono ?_
 rintro e w7 ⟨rfl, ⟨Q', ra', rcap', L', hr, hQ'⟩, ht7⟩
 clear HCN
 obtain ⟨q, hq, -, hcap, hhd, hcl⟩ := hr.slot HS1.out
 have hat := rat_any w7.drew _ rb _ n (hr.done.view.below ((Below.refl _ _).drew)) HF1.out hnl
 rw [atR_some HA1.out] at hat
 have hc6 := (hcl 6 _ rfl).1
 have hf6 := (hcl 6 _ rfl).2
 have hil : (i : Int) < (((setL D p ([n])).S.length : Nat) : Int) := by have := (List.getElem?_eq_some_iff.1 HS1.out).1; omega
 have hl4 := HF1.out.len
 have hgs := hr.gb
 have hgr : ¬ g = rb := by have := hr.rbl; omega
 have hgr2 : ¬ rb = g := by omega
 have e1 : setPar (setL D p ([n])) n p = { (setL D p ([n])) with S := (setL D p ([n])).S.set i { s1 with parent := p } } := by simp only [setPar, HA1.out, HS1.out]
 have HE : Hid (setPar (setL D p ([n])) n p = { (setL D p ([n])) with S := (setL D p ([n])).S.set i { s1 with parent := p } }) := e1
 have HR : Hid (RdS ((w7.drew).setCell ⟨g, i * 8 + 6, none⟩ (.int .u64 (p : Int))) base Q' rb { (setL D p ([n])) with S := (setL D p ([n])).S.set i { s1 with parent := p } } g cap ra' rcap' (L'.set i q)) := (hr.below ((Below.refl _ _).drew)).setPar HS1.out hq p
 have HQ : Hid (∀ b, Q' b -> Q b \/ w.heap.size <= b) := hQ'
 have HT : Hid (Turn (fun b => b = rb \/ b = g) w w7) := ht7
 generalize (setL D p ([n])).S.length = SL at *
 clear hr hq hcl e1 hQ' ht7
 go_wp2_with fail
 go_region_held3 (fun w' => w'.cell? ⟨rb, 0, none⟩ = some (.slice (some ⟨g, 0, none⟩) SL cap)) (go_keep) (first | (go_at_call 72; refine hat.mono ?_; rintro e w8 ⟨rfl, rfl⟩))
 go_end0
 refine ⟨rfl, ⟨Q', ra', rcap', _, by rw [HE.out]; exact HR.out, HQ.out⟩, ?_⟩
 exact (Turn.setCell (A := fun b => b = rb \/ b = g) HT.out (p := ⟨g, i * 8 + 6, none⟩) (.inr rfl) _).drew
theorem rput_e2n (w : World) (base : Nat) (Q : Nat -> Prop) (rb : Nat) (D : Dc) (g cap : Nat) (ra : Option Addr) (rcap : Nat) (L : List (Value × Value)) (n p a i : Nat) (lcap : Nat) (h : RdS w base Q rb D g cap ra rcap L) (hf : Fits D) (hpp : p = 0 \/ ∃ s, sl D p = some s) (hpl : p < 18446744073709551616) (hnl : n < 18446744073709551616) (hai : atI D.S n = some i)
  (hcal : Calls Tryz.prog 77 #[.pointer (some ⟨rb, 0, none⟩), .int .u64 (p : Int)] w fun e w' => e = .returned (.slice none 0 lcap) /\ Below w.heap.size w w') :
  Calls Tryz.prog 67 #[.pointer (some ⟨rb, 0, none⟩), .int .u64 (n : Int), .int .u64 (p : Int), .int .i64 2, .int .u64 (a : Int)] w (OutP w base Q rb (setPar (setL D p [n]) n p) g cap) := by
 obtain ⟨s1, hs1, ha1⟩ := setL_at (p := p) (l' := [n]) hai
 have hf1 := setL_fits (p := p) (l' := [n]) hf
 have HS1 : Hid ((setL D p [n]).S[i]? = some s1) := hs1
 have HA1 : Hid (atI (setL D p [n]).S n = some i) := ha1
 have HF1 : Hid (Fits (setL D p [n])) := hf1
 have HD : Hid (RdS w base Q rb D g cap ra rcap L) := h
 have HF : Hid (Fits D) := hf
 have HPP : Hid (p = 0 \/ ∃ s, sl D p = some s) := hpp
 clear h hf hpp hai hs1 ha1 hf1
 have tok1 : True := trivial
 have tok2 : True := trivial
 have tok3 : True := trivial
 go_enter Tryz.func67, Tryz.ntmps67
 go_wp2_with fail
 refine hcal.mono ?_
 rintro e w1 ⟨rfl, hb1⟩
 have HB1 : Hid (Below w.heap.size w w1) := hb1
 have hsz := hb1.size
 clear hb1 hcal
 have HB3 : Hid (Below w1.heap.size w1 (w1.alloc (.cells #[] 32))) := below_new' w1 _
 go_wp2_with (first
  | (at_builtin; have _t := tok1; refine wpList_app rfl _ _ rfl Tryz.underlying56 info42 rfl (by decide) w1.heap.size (.slice (some ⟨w1.heap.size, 0, none⟩) 0 0) 0 [] rfl (own_new w1 32 1) _ _ _ [] rfl rfl (fun j u hu => by simp at hu) (fun u hu => by simp at hu) (by unfold maxLen; omega) (by omega) (by simp) ?_; intro v1 w4 hown1 hg1 _ hat1; obtain ⟨va1, vc1, hv1⟩ := own_slice hown1; subst hv1; rw [Nat.zero_add, List.nil_append] at hown1; rw [Nat.zero_add]; have HO1 : Hid (w4.ownsRow w1.heap.size 32 1 (.slice va1 0 vc1) 0 []) := hown1; have HB4 : Hid (Below w1.heap.size w1 w4) := HB3.out.grown hg1 (by simp) (fun k hk => by simp only [Value.ownBlock, Option.some.injEq] at hk; omega); have hs4 := HB4.out.size; clear hown1 hg1 hat1 tok1 _t)
  | (at_builtin; have _t := tok2; refine wpList_app rfl _ _ rfl Tryz.underlying56 info42 rfl (by decide) w1.heap.size (.slice va1 0 vc1) 0 [] rfl (own_of_block HO1.out (fun k hk => Below.heap_alloc _ _ _ (own_block_lt HO1.out k hk).2)) (some ⟨w4.heap.size, 0, none⟩) 1 1 [.int .u64 (n : Int)] rfl rfl (news_new w4 #[.int .u64 (n : Int)] 32) (by simp [Value.oneCell']) (by unfold maxLen; omega) (by omega) (by simp; omega) ?_; intro v2 w5 hown2 hg2 _ hat2; obtain ⟨va2, vc2, hv2⟩ := own_slice hown2; subst hv2; rw [Nat.zero_add, List.nil_append] at hown2; rw [Nat.zero_add]; have HO2 : Hid (w5.ownsRow w1.heap.size 32 1 (.slice va2 1 vc2) 1 (hvals [n])) := hown2; have HB5 : Hid (Below w1.heap.size w1 w5) := (HB4.out.alloc hs4 _).grown hg2 (by simp; omega) (fun k hk => (own_block_lt HO1.out k hk).1); have hs5 := HB5.out.size; clear hown2 hg2 hat2 tok2 _t)
  | (at_builtin; have _t := tok3; refine wpList_app rfl _ _ rfl Tryz.underlying56 info42 rfl (by decide) w1.heap.size (.slice va2 1 vc2) 1 (hvals [n]) rfl HO2.out _ _ _ [] rfl rfl (fun j u hu => by simp at hu) (fun u hu => by simp at hu) (by unfold maxLen; omega) (by omega) hs5 ?_; intro v3 w6 hown3 hg3 _ hat3; obtain ⟨va3, vc3, hv3⟩ := own_slice hown3; subst hv3; have HB6 : Hid (Below w1.heap.size w1 w6) := HB5.out.grown hg3 hs5 (fun k hk => (own_block_lt HO2.out k hk).1); rw [Nat.add_zero, List.append_nil] at hown3; rw [Nat.add_zero]; have HCN := rset_new w w1 w6 base Q rb D g cap ra rcap L p [n] va3 vc3 1 HD.out HF.out HPP.out hpl HB1.out HB6.out rfl hown3; clear hown3 hg3 hat3 tok3 _t))
 refine HCN.mono ?_
 rintro e w7 ⟨rfl, ⟨Q', ra', rcap', L', hr, hQ'⟩, ht7⟩
 clear HCN
 obtain ⟨q, hq, -, hcap, hhd, hcl⟩ := hr.slot HS1.out
 have hat := rat_any w7.drew _ rb _ n (hr.done.view.below ((Below.refl _ _).drew)) HF1.out hnl
 rw [atR_some HA1.out] at hat
 have hc6 := (hcl 6 _ rfl).1
 have hf6 := (hcl 6 _ rfl).2
 have hil : (i : Int) < (((setL D p ([n])).S.length : Nat) : Int) := by have := (List.getElem?_eq_some_iff.1 HS1.out).1; omega
 have hl4 := HF1.out.len
 have hgs := hr.gb
 have hgr : ¬ g = rb := by have := hr.rbl; omega
 have hgr2 : ¬ rb = g := by omega
 have e1 : setPar (setL D p ([n])) n p = { (setL D p ([n])) with S := (setL D p ([n])).S.set i { s1 with parent := p } } := by simp only [setPar, HA1.out, HS1.out]
 have HE : Hid (setPar (setL D p ([n])) n p = { (setL D p ([n])) with S := (setL D p ([n])).S.set i { s1 with parent := p } }) := e1
 have HR : Hid (RdS ((w7.drew).setCell ⟨g, i * 8 + 6, none⟩ (.int .u64 (p : Int))) base Q' rb { (setL D p ([n])) with S := (setL D p ([n])).S.set i { s1 with parent := p } } g cap ra' rcap' (L'.set i q)) := (hr.below ((Below.refl _ _).drew)).setPar HS1.out hq p
 have HQ : Hid (∀ b, Q' b -> Q b \/ w.heap.size <= b) := hQ'
 have HT : Hid (Turn (fun b => b = rb \/ b = g) w w7) := ht7
 generalize (setL D p ([n])).S.length = SL at *
 clear hr hq hcl e1 hQ' ht7
 go_wp2_with fail
 go_region_held3 (fun w' => w'.cell? ⟨rb, 0, none⟩ = some (.slice (some ⟨g, 0, none⟩) SL cap)) (go_keep) (first | (go_at_call 72; refine hat.mono ?_; rintro e w8 ⟨rfl, rfl⟩))
 go_end0
 refine ⟨rfl, ⟨Q', ra', rcap', _, by rw [HE.out]; exact HR.out, HQ.out⟩, ?_⟩
 exact (Turn.setCell (A := fun b => b = rb \/ b = g) HT.out (p := ⟨g, i * 8 + 6, none⟩) (.inr rfl) _).drew
theorem rput_e2s (w : World) (base : Nat) (Q : Nat -> Prop) (rb : Nat) (D : Dc) (g cap : Nat) (ra : Option Addr) (rcap : Nat) (L : List (Value × Value)) (n p a i : Nat) (ad : Addr) (lcap : Nat) (h : RdS w base Q rb D g cap ra rcap L) (hf : Fits D) (hpp : p = 0 \/ ∃ s, sl D p = some s) (hpl : p < 18446744073709551616) (hnl : n < 18446744073709551616) (hai : atI D.S n = some i)
  (hcal : Calls Tryz.prog 77 #[.pointer (some ⟨rb, 0, none⟩), .int .u64 (p : Int)] w fun e w' => e = .returned (.slice (some ad) 0 lcap) /\ Below w.heap.size w w') :
  Calls Tryz.prog 67 #[.pointer (some ⟨rb, 0, none⟩), .int .u64 (n : Int), .int .u64 (p : Int), .int .i64 2, .int .u64 (a : Int)] w (OutP w base Q rb (setPar (setL D p [n]) n p) g cap) := by
 obtain ⟨s1, hs1, ha1⟩ := setL_at (p := p) (l' := [n]) hai
 have hf1 := setL_fits (p := p) (l' := [n]) hf
 have HS1 : Hid ((setL D p [n]).S[i]? = some s1) := hs1
 have HA1 : Hid (atI (setL D p [n]).S n = some i) := ha1
 have HF1 : Hid (Fits (setL D p [n])) := hf1
 have HD : Hid (RdS w base Q rb D g cap ra rcap L) := h
 have HF : Hid (Fits D) := hf
 have HPP : Hid (p = 0 \/ ∃ s, sl D p = some s) := hpp
 clear h hf hpp hai hs1 ha1 hf1
 have tok1 : True := trivial
 have tok2 : True := trivial
 have tok3 : True := trivial
 go_enter Tryz.func67, Tryz.ntmps67
 go_wp2_with fail
 refine hcal.mono ?_
 rintro e w1 ⟨rfl, hb1⟩
 have HB1 : Hid (Below w.heap.size w w1) := hb1
 have hsz := hb1.size
 clear hb1 hcal
 have HB3 : Hid (Below w1.heap.size w1 (w1.alloc (.cells #[] 32))) := below_new' w1 _
 go_wp2_with (first
  | (at_builtin; have _t := tok1; refine wpList_app rfl _ _ rfl Tryz.underlying56 info42 rfl (by decide) w1.heap.size (.slice (some ⟨w1.heap.size, 0, none⟩) 0 0) 0 [] rfl (own_new w1 32 1) _ _ _ [] rfl rfl (fun j u hu => by simp at hu) (fun u hu => by simp at hu) (by unfold maxLen; omega) (by omega) (by simp) ?_; intro v1 w4 hown1 hg1 _ hat1; obtain ⟨va1, vc1, hv1⟩ := own_slice hown1; subst hv1; rw [Nat.zero_add, List.nil_append] at hown1; rw [Nat.zero_add]; have HO1 : Hid (w4.ownsRow w1.heap.size 32 1 (.slice va1 0 vc1) 0 []) := hown1; have HB4 : Hid (Below w1.heap.size w1 w4) := HB3.out.grown hg1 (by simp) (fun k hk => by simp only [Value.ownBlock, Option.some.injEq] at hk; omega); have hs4 := HB4.out.size; clear hown1 hg1 hat1 tok1 _t)
  | (at_builtin; have _t := tok2; refine wpList_app rfl _ _ rfl Tryz.underlying56 info42 rfl (by decide) w1.heap.size (.slice va1 0 vc1) 0 [] rfl (own_of_block HO1.out (fun k hk => Below.heap_alloc _ _ _ (own_block_lt HO1.out k hk).2)) (some ⟨w4.heap.size, 0, none⟩) 1 1 [.int .u64 (n : Int)] rfl rfl (news_new w4 #[.int .u64 (n : Int)] 32) (by simp [Value.oneCell']) (by unfold maxLen; omega) (by omega) (by simp; omega) ?_; intro v2 w5 hown2 hg2 _ hat2; obtain ⟨va2, vc2, hv2⟩ := own_slice hown2; subst hv2; rw [Nat.zero_add, List.nil_append] at hown2; rw [Nat.zero_add]; have HO2 : Hid (w5.ownsRow w1.heap.size 32 1 (.slice va2 1 vc2) 1 (hvals [n])) := hown2; have HB5 : Hid (Below w1.heap.size w1 w5) := (HB4.out.alloc hs4 _).grown hg2 (by simp; omega) (fun k hk => (own_block_lt HO1.out k hk).1); have hs5 := HB5.out.size; clear hown2 hg2 hat2 tok2 _t)
  | (at_builtin; have _t := tok3; refine wpList_app rfl _ _ rfl Tryz.underlying56 info42 rfl (by decide) w1.heap.size (.slice va2 1 vc2) 1 (hvals [n]) rfl HO2.out _ _ _ [] rfl rfl (fun j u hu => by simp at hu) (fun u hu => by simp at hu) (by unfold maxLen; omega) (by omega) hs5 ?_; intro v3 w6 hown3 hg3 _ hat3; obtain ⟨va3, vc3, hv3⟩ := own_slice hown3; subst hv3; have HB6 : Hid (Below w1.heap.size w1 w6) := HB5.out.grown hg3 hs5 (fun k hk => (own_block_lt HO2.out k hk).1); rw [Nat.add_zero, List.append_nil] at hown3; rw [Nat.add_zero]; have HCN := rset_new w w1 w6 base Q rb D g cap ra rcap L p [n] va3 vc3 1 HD.out HF.out HPP.out hpl HB1.out HB6.out rfl hown3; clear hown3 hg3 hat3 tok3 _t))
 refine HCN.mono ?_
 rintro e w7 ⟨rfl, ⟨Q', ra', rcap', L', hr, hQ'⟩, ht7⟩
 clear HCN
 obtain ⟨q, hq, -, hcap, hhd, hcl⟩ := hr.slot HS1.out
 have hat := rat_any w7.drew _ rb _ n (hr.done.view.below ((Below.refl _ _).drew)) HF1.out hnl
 rw [atR_some HA1.out] at hat
 have hc6 := (hcl 6 _ rfl).1
 have hf6 := (hcl 6 _ rfl).2
 have hil : (i : Int) < (((setL D p ([n])).S.length : Nat) : Int) := by have := (List.getElem?_eq_some_iff.1 HS1.out).1; omega
 have hl4 := HF1.out.len
 have hgs := hr.gb
 have hgr : ¬ g = rb := by have := hr.rbl; omega
 have hgr2 : ¬ rb = g := by omega
 have e1 : setPar (setL D p ([n])) n p = { (setL D p ([n])) with S := (setL D p ([n])).S.set i { s1 with parent := p } } := by simp only [setPar, HA1.out, HS1.out]
 have HE : Hid (setPar (setL D p ([n])) n p = { (setL D p ([n])) with S := (setL D p ([n])).S.set i { s1 with parent := p } }) := e1
 have HR : Hid (RdS ((w7.drew).setCell ⟨g, i * 8 + 6, none⟩ (.int .u64 (p : Int))) base Q' rb { (setL D p ([n])) with S := (setL D p ([n])).S.set i { s1 with parent := p } } g cap ra' rcap' (L'.set i q)) := (hr.below ((Below.refl _ _).drew)).setPar HS1.out hq p
 have HQ : Hid (∀ b, Q' b -> Q b \/ w.heap.size <= b) := hQ'
 have HT : Hid (Turn (fun b => b = rb \/ b = g) w w7) := ht7
 generalize (setL D p ([n])).S.length = SL at *
 clear hr hq hcl e1 hQ' ht7
 go_wp2_with fail
 go_region_held3 (fun w' => w'.cell? ⟨rb, 0, none⟩ = some (.slice (some ⟨g, 0, none⟩) SL cap)) (go_keep) (first | (go_at_call 72; refine hat.mono ?_; rintro e w8 ⟨rfl, rfl⟩))
 go_end0
 refine ⟨rfl, ⟨Q', ra', rcap', _, by rw [HE.out]; exact HR.out, HQ.out⟩, ?_⟩
 exact (Turn.setCell (A := fun b => b = rb \/ b = g) HT.out (p := ⟨g, i * 8 + 6, none⟩) (.inr rfl) _).drew
def whereN (l : List Nat) (wh : Int) (a : Nat) : Nat := if wh = 2 then l.length else if wh = 3 then (idxH l a).toNat else if wh = 4 then (idxH l a).toNat + 1 else 0
theorem rput_any (w : World) (base : Nat) (Q : Nat -> Prop) (rb : Nat) (D : Dc) (g cap : Nat) (ra : Option Addr) (rcap : Nat) (L : List (Value × Value)) (n p a i : Nat) (wh : Int) (h : RdS w base Q rb D g cap ra rcap L) (hf : Fits D) (hpp : p = 0 \/ ∃ s, sl D p = some s) (hpl : p < 18446744073709551616) (hnl : n < 18446744073709551616) (hll : (lst D p).length <= 4096) (hai : atI D.S n = some i)
  (hwh : wh = 1 \/ wh = 2 \/ ((wh = 3 \/ wh = 4) /\ a ∈ lst D p)) : Calls Tryz.prog 67 #[.pointer (some ⟨rb, 0, none⟩), .int .u64 (n : Int), .int .u64 (p : Int), .int .i64 wh, .int .u64 (a : Int)] w (OutP w base Q rb (setPar (setL D p (ins (lst D p) (whereN (lst D p) wh a) n)) n p) g cap) := by
 by_cases hne : 0 < (lst D p).length
 ·rcases hwh with rfl | rfl | ⟨hw, hm⟩
  ·exact rput_first w base Q rb D g cap ra rcap L n p a i 0 h hf hpp hpl hnl hll hne hai rfl
  ·exact rput_last w base Q rb D g cap ra rcap L n p a i 0 h hf hpp hpl hnl hll hne hai rfl
  ·obtain ⟨k, h1, h2, h3⟩ := idxH_mem hm
   rcases hw with rfl | rfl
   ·have e : whereN (lst D p) 3 a = k := by simp [whereN, h1]
    rw [e]
    exact rput_before w base Q rb D g cap ra rcap L n p a i k h hf hpp hpl hnl hll hne hai h1 h3
   ·have e : whereN (lst D p) 4 a = k + 1 := by simp [whereN, h1]
    rw [e]
    exact rput_after w base Q rb D g cap ra rcap L n p a i k h hf hpp hpl hnl hll hne hai h1 h3
 ·have hl : lst D p = [] := List.length_eq_zero_iff.1 (by omega)
  obtain ⟨la, lcap, _, _, hcal⟩ := rlist_any w _ rb D p h.done.view hf hpl hpp
  rw [hl] at hcal hwh ⊢
  have e : ∀ k, ins [] k n = [n] := fun k => by simp [ins]
  rw [e]
  rcases hwh with rfl | rfl | ⟨_, hm⟩
  ·cases la with
   | none => exact rput_e1n w base Q rb D g cap ra rcap L n p a i lcap h hf hpp hpl hnl hai hcal
   | some ad => exact rput_e1s w base Q rb D g cap ra rcap L n p a i ad lcap h hf hpp hpl hnl hai hcal
  ·cases la with
   | none => exact rput_e2n w base Q rb D g cap ra rcap L n p a i lcap h hf hpp hpl hnl hai hcal
   | some ad => exact rput_e2s w base Q rb D g cap ra rcap L n p a i ad lcap h hf hpp hpl hnl hai hcal
  ·simp at hm
end Go.Proofs.YtmapmkogjhinmaaGreat
