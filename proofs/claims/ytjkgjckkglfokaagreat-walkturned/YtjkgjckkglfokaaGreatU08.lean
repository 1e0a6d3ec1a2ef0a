/- A node put where there is none yet; put at whatever place, by the document. -/
import Derived.Test.YtjkgjckkglfokaaGreatU07
import Derived.Test.YtjkgjckkglfokaaGreatU01
namespace Go.Proofs.YtjkgjckkglfokaaGreat.Gr
open Go.RowKit
set_option linter.unusedVariables false
set_option linter.unusedSimpArgs false
set_option maxRecDepth 100000
set_option maxHeartbeats 1000000
attribute [local go_sem] ite_sliceAt sliceAt_zero
theorem rput_e1n (w : World) (base : Nat) (Q : Nat -> Prop) (rb : Nat) (D : Dc) (g cap : Nat) (ra : Option Addr) (rcap : Nat) (L : List (Value × Value)) (n p a i : Nat) (lcap : Nat) (h : RdS w base Q rb D g cap ra rcap L) (hf : Fits D) (hpp : p = 0 \/ ∃ s, sl D p = some s) (hpl : p < 18446744073709551616) (hnl : n < 18446744073709551616) (hai : atI D.S n = some i)
  (hcal : Calls Tryz.prog 32 #[.pointer (some ⟨rb, 0, none⟩), .int .u64 (p : Int)] w fun e w' => e = .returned (.slice none 0 lcap) /\ Below w.heap.size w w') :
  Calls Tryz.prog 76 #[.pointer (some ⟨rb, 0, none⟩), .int .u64 (n : Int), .int .u64 (p : Int), .int .i64 1, .int .u64 (a : Int)] w (OutP w base Q rb (setPar (setL D p [n]) n p) g cap) := by
 obtain ⟨s1, hs1, ha1⟩ := setL_at (p := p) (l' := [n]) hai
 have hf1 := setL_fits (p := p) (l' := [n]) hf
 have HS1 : Hid ((setL D p [n]).S[i]? = some s1) := hs1
 have HA1 : Hid (atI (setL D p [n]).S n = some i) := ha1
 have HF1 : Hid (Fits (setL D p [n])) := hf1
 have HD : Hid (RdS w base Q rb D g cap ra rcap L) := h
 have HF : Hid (Fits D) := hf
 have HPP : Hid (p = 0 \/ ∃ s, sl D p = some s) := hpp
 clear h hf hpp hai hs1 ha1 hf1
 have tok1 : True := trivial
 have tok2 : True := trivial
 have tok3 : True := trivial
 go_enter Tryz.func76, Tryz.ntmps76
 go_wp2_with fail
 refine hcal.mono ?_
 rintro e w1 ⟨rfl, hb1⟩
 have HB1 : Hid (Below w.heap.size w w1) := hb1
 have hsz := hb1.size
 clear hb1 hcal
 have HB3 : Hid (Below w1.heap.size w1 (w1.alloc (.cells #[] 27))) := below_new' w1 _
 go_wp2_with (first
  | (at_builtin; have _t := tok1; refine wpList_app rfl _ _ rfl Tryz.underlying23 info42 rfl (by decide) w1.heap.size (.slice (some ⟨w1.heap.size, 0, none⟩) 0 0) 0 [] rfl (own_new w1 27 1) _ _ _ [] rfl rfl (fun j u hu => by simp at hu) (fun u hu => by simp at hu) (by unfold maxLen; omega) (by omega) (by simp) ?_; intro v1 w4 hown1 hg1 _ hat1; obtain ⟨va1, vc1, hv1⟩ := own_slice hown1; subst hv1; rw [Nat.zero_add, List.nil_append] at hown1; rw [Nat.zero_add]; have HO1 : Hid (w4.ownsRow w1.heap.size 27 1 (.slice va1 0 vc1) 0 []) := hown1; have HB4 : Hid (Below w1.heap.size w1 w4) := HB3.out.grown hg1 (by simp) (fun k hk => by simp only [Value.ownBlock, Option.some.injEq] at hk; omega); have hs4 := HB4.out.size; clear hown1 hg1 hat1 tok1 _t)
  | (at_builtin; have _t := tok2; refine wpList_app rfl _ _ rfl Tryz.underlying23 info42 rfl (by decide) w1.heap.size (.slice va1 0 vc1) 0 [] rfl (own_of_block HO1.out (fun k hk => Below.heap_alloc _ _ _ (own_block_lt HO1.out k hk).2)) (some ⟨w4.heap.size, 0, none⟩) 1 1 [.int .u64 (n : Int)] rfl rfl (news_new w4 #[.int .u64 (n : Int)] 27) (by simp [Value.oneCell']) (by unfold maxLen; omega) (by omega) (by simp; omega) ?_; intro v2 w5 hown2 hg2 _ hat2; obtain ⟨va2, vc2, hv2⟩ := own_slice hown2; subst hv2; rw [Nat.zero_add, List.nil_append] at hown2; rw [Nat.zero_add]; have HO2 : Hid (w5.ownsRow w1.heap.size 27 1 (.slice va2 1 vc2) 1 (hvals [n])) := hown2; have HB5 : Hid (Below w1.heap.size w1 w5) := (HB4.out.alloc hs4 _).grown hg2 (by simp; omega) (fun k hk => (own_block_lt HO1.out k hk).1); have hs5 := HB5.out.size; clear hown2 hg2 hat2 tok2 _t)
  | (at_builtin; have _t := tok3; refine wpList_app rfl _ _ rfl Tryz.underlying23 info42 rfl (by decide) w1.heap.size (.slice va2 1 vc2) 1 (hvals [n]) rfl HO2.out _ _ _ [] rfl rfl (fun j u hu => by simp at hu) (fun u hu => by simp at hu) (by unfold maxLen; omega) (by omega) hs5 ?_; intro v3 w6 hown3 hg3 _ hat3; obtain ⟨va3, vc3, hv3⟩ := own_slice hown3; subst hv3; have HB6 : Hid (Below w1.heap.size w1 w6) := HB5.out.grown hg3 hs5 (fun k hk => (own_block_lt HO2.out k hk).1); rw [Nat.add_zero, List.append_nil] at hown3; rw [Nat.add_zero]; have HCN := rset_new w w1 w6 base Q rb D g cap ra rcap L p [n] va3 vc3 1 HD.out HF.out HPP.out hpl HB1.out HB6.out rfl hown3; clear hown3 hg3 hat3 tok3 _t))
 refine HCN.mono ?_
 rintro e w7 ⟨rfl, ⟨Q', ra', rcap', L', hr, hQ'⟩, ht7⟩
 clear HCN
 obtain ⟨q, hq, -, hcap, hhd, hcl⟩ := hr.slot HS1.out
 have hat := rat_any w7.drew _ rb _ n (hr.done.view.below ((Below.refl _ _).drew)) HF1.out hnl
 rw [atR_some HA1.out] at hat
 have hc6 := (hcl 6 _ rfl).1
 have hf6 := (hcl 6 _ rfl).2
 have hil : (i : Int) < (((setL D p ([n])).S.length : Nat) : Int) := by have := (List.getElem?_eq_some_iff.1 HS1.out).1; omega
 have hl4 := HF1.out.len
 have hgs := hr.gb
 have hgr : ¬ g = rb := by have := hr.rbl; omega
 have hgr2 : ¬ rb = g := by omega
 have e1 : setPar (setL D p ([n])) n p = { (setL D p ([n])) with S := (setL D p ([n])).S.set i { s1 with parent := p } } := by simp only [setPar, HA1.out, HS1.out]
 have HE : Hid (setPar (setL D p ([n])) n p = { (setL D p ([n])) with S := (setL D p ([n])).S.set i { s1 with parent := p } }) := e1
 have HR : Hid (RdS ((w7.drew).setCell ⟨g, i * 8 + 6, none⟩ (.int .u64 (p : Int))) base Q' rb { (setL D p ([n])) with S := (setL D p ([n])).S.set i { s1 with parent := p } } g cap ra' rcap' (L'.set i q)) := (hr.below ((Below.refl _ _).drew)).setPar HS1.out hq p
 have HQ : Hid (∀ b, Q' b -> Q b \/ w.heap.size <= b) := hQ'
 have HT : Hid (Turn (fun b => b = rb \/ b = g) w w7) := ht7
 generalize (setL D p ([n])).S.length = SL at *
 clear hr hq hcl e1 hQ' ht7
 go_wp2_with fail
 go_region_held3 (fun w' => w'.cell? ⟨rb, 0, none⟩ = some (.slice (some ⟨g, 0, none⟩) SL cap)) (go_keep) (first | (go_at_call 28; refine hat.mono ?_; rintro e w8 ⟨rfl, rfl⟩))
 go_end0
 refine ⟨rfl, ⟨Q', ra', rcap', _, by rw [HE.out]; exact HR.out, HQ.out⟩, ?_⟩
 exact (Turn.setCell (A := fun b => b = rb \/ b = g) HT.out (p := ⟨g, i * 8 + 6, none⟩) (.inr rfl) _).drew
theorem rput_e1s (w : World) (base : Nat) (Q : Nat -> Prop) (rb : Nat) (D : Dc) (g cap : Nat) (ra : Option Addr) (rcap : Nat) (L : List (Value × Value)) (n p a i : Nat) (ad : Addr) (lcap : Nat) (h : RdS w base Q rb D g cap ra rcap L) (hf : Fits D) (hpp : p = 0 \/ ∃ s, sl D p = some s) (hpl : p < 18446744073709551616) (hnl : n < 18446744073709551616) (hai : atI D.S n = some i)
  (hcal : Calls Tryz.prog 32 #[.pointer (some ⟨rb, 0, none⟩), .int .u64 (p : Int)] w fun e w' => e = .returned (.slice (some ad) 0 lcap) /\ Below w.heap.size w w') :
  Calls Tryz.prog 76 #[.pointer (some ⟨rb, 0, none⟩), .int .u64 (n : Int), .int .u64 (p : Int), .int .i64 1, .int .u64 (a : Int)] w (OutP w base Q rb (setPar (setL D p [n]) n p) g cap) := by
 obtain ⟨s1, hs1, ha1⟩ := setL_at (p := p) (l' := [n]) hai
 have hf1 := setL_fits (p := p) (l' := [n]) hf
 have HS1 : Hid ((setL D p [n]).S[i]? = some s1) := hs1
 have HA1 : Hid (atI (setL D p [n]).S n = some i) := ha1
 have HF1 : Hid (Fits (setL D p [n])) := hf1
 have HD : Hid (RdS w base Q rb D g cap ra rcap L) := h
 have HF : Hid (Fits D) := hf
 have HPP : Hid (p = 0 \/ ∃ s, sl D p = some s) := hpp
 clear h hf hpp hai hs1 ha1 hf1
 have tok1 : True := trivial
 have tok2 : True := trivial
 have tok3 : True := trivial
 go_enter Tryz.func76, Tryz.ntmps76
 go_wp2_with fail
 refine hcal.mono ?_
 rintro e w1 ⟨rfl, hb1⟩
 have HB1 : Hid (Below w.heap.size w w1) := hb1
 have hsz := hb1.size
 clear hb1 hcal
 have HB3 : Hid (Below w1.heap.size w1 (w1.alloc (.cells #[] 27))) := below_new' w1 _
 go_wp2_with (first
  | (at_builtin; have _t := tok1; refine wpList_app rfl _ _ rfl Tryz.underlying23 info42 rfl (by decide) w1.heap.size (.slice (some ⟨w1.heap.size, 0, none⟩) 0 0) 0 [] rfl (own_new w1 27 1) _ _ _ [] rfl rfl (fun j u hu => by simp at hu) (fun u hu => by simp at hu) (by unfold maxLen; omega) (by omega) (by simp) ?_; intro v1 w4 hown1 hg1 _ hat1; obtain ⟨va1, vc1, hv1⟩ := own_slice hown1; subst hv1; rw [Nat.zero_add, List.nil_append] at hown1; rw [Nat.zero_add]; have HO1 : Hid (w4.ownsRow w1.heap.size 27 1 (.slice va1 0 vc1) 0 []) := hown1; have HB4 : Hid (Below w1.heap.size w1 w4) := HB3.out.grown hg1 (by simp) (fun k hk => by simp only [Value.ownBlock, Option.some.injEq] at hk; omega); have hs4 := HB4.out.size; clear hown1 hg1 hat1 tok1 _t)
  | (at_builtin; have _t := tok2; refine wpList_app rfl _ _ rfl Tryz.underlying23 info42 rfl (by decide) w1.heap.size (.slice va1 0 vc1) 0 [] rfl (own_of_block HO1.out (fun k hk => Below.heap_alloc _ _ _ (own_block_lt HO1.out k hk).2)) (some ⟨w4.heap.size, 0, none⟩) 1 1 [.int .u64 (n : Int)] rfl rfl (news_new w4 #[.int .u64 (n : Int)] 27) (by simp [Value.oneCell']) (by unfold maxLen; omega) (by omega) (by simp; omega) ?_; intro v2 w5 hown2 hg2 _ hat2; obtain ⟨va2, vc2, hv2⟩ := own_slice hown2; subst hv2; rw [Nat.zero_add, List.nil_append] at hown2; rw [Nat.zero_add]; have HO2 : Hid (w5.ownsRow w1.heap.size 27 1 (.slice va2 1 vc2) 1 (hvals [n])) := hown2; have HB5 : Hid (Below w1.heap.size w1 w5) := (HB4.out.alloc hs4 _).grown hg2 (by simp; omega) (fun k hk => (own_block_lt HO1.out k hk).1); have hs5 := HB5.out.size; clear hown2 hg2 hat2 tok2 _t)
  | (at_builtin; have _t := tok3; refine wpList_app rfl _ _ rfl Tryz.underlying23 info42 rfl (by decide) w1.heap.size (.slice va2 1 vc2) 1 (hvals [n]) rfl HO2.out _ _ _ [] rfl rfl (fun j u hu => by simp at hu) (fun u hu => by simp at hu) (by unfold maxLen; omega) (by omega) hs5 ?_; intro v3 w6 hown3 hg3 _ hat3; obtain ⟨va3, vc3, hv3⟩ := own_slice hown3; subst hv3; have HB6 : Hid (Below w1.heap.size w1 w6) := HB5.out.grown hg3 hs5 (fun k hk => (own_block_lt HO2.out k hk).1); rw [Nat.add_zero, List.append_nil] at hown3; rw [Nat.add_zero]; have HCN := rset_new w w1 w6 base Q rb D g cap ra rcap L p [n] va3 vc3 1 HD.out HF.out HPP.out hpl HB1.out HB6.out rfl hown3; clear hown3 hg3 hat3 tok3 _t))
 refine HCN.mono ?_
 rintro e w7 ⟨rfl, ⟨Q', ra', rcap', L', hr, hQ'⟩, ht7⟩
 clear HCN
 obtain ⟨q, hq, -, hcap, hhd, hcl⟩ := hr.slot HS1.out
 have hat := rat_any w7.drew _ rb _ n (hr.done.view.below ((Below.refl _ _).drew)) HF1.out hnl
 rw [atR_some HA1.out] at hat
 have hc6 := (hcl 6 _ rfl).1
 have hf6 := (hcl 6 _ rfl).2
 have hil : (i : Int) < (((setL D p ([n])).S.length : Nat) : Int) := by have := (List.getElem?_eq_some_iff.1 HS1.out).1; omega
 have hl4 := HF1.out.len
 have hgs := hr.gb
 have hgr : ¬ g = rb := by have := hr.rbl; omega
 have hgr2 : ¬ rb = g := by omega
 have e1 : setPar (setL D p ([n])) n p = { (setL D p ([n])) with S := (setL D p ([n])).S.set i { s1 with parent := p } } := by simp only [setPar, HA1.out, HS1.out]
 have HE : Hid (setPar (setL D p ([n])) n p = { (setL D p ([n])) with S := (setL D p ([n])).S.set i { s1 with parent := p } }) := e1
 have HR : Hid (RdS ((w7.drew).setCell ⟨g, i * 8 + 6, none⟩ (.int .u64 (p : Int))) base Q' rb { (setL D p ([n])) with S := (setL D p ([n])).S.set i { s1 with parent := p } } g cap ra' rcap' (L'.set i q)) := (hr.below ((Below.refl _ _).drew)).setPar HS1.out hq p
 have HQ : Hid (∀ b, Q' b -> Q b \/ w.heap.size <= b) := hQ'
 have HT : Hid (Turn (fun b => b = rb \/ b = g) w w7) := ht7
 generalize (setL D p ([n])).S.length = SL at *
 clear hr hq hcl e1 hQ' ht7
 go_wp2_with fail
 go_region_held3 (fun w' => w'.cell? ⟨rb, 0, none⟩ = some (.slice (some ⟨g, 0, none⟩) SL cap)) (go_keep) (first | (go_at_call 28; refine hat.mono ?_; rintro e w8 ⟨rfl, rfl⟩))
 go_end0
 refine ⟨rfl, ⟨Q', ra', rcap', _, by rw [HE.out]; exact HR.out, HQ.out⟩, ?_⟩
 exact (Turn.setCell (A := fun b => b = rb \/ b = g) HT.out (p := ⟨g, i * 8 + 6, none⟩) (.inr rfl) _).drew
theorem rput_e2n (w : World) (base : Nat) (Q : Nat -> Prop) (rb : Nat) (D : Dc) (g cap : Nat) (ra : Option Addr) (rcap : Nat) (L : List (Value × Value)) (n p a i : Nat) (lcap : Nat) (h : RdS w base Q rb D g cap ra rcap L) (hf : Fits D) (hpp : p = 0 \/ ∃ s, sl D p = some s) (hpl : p < 18446744073709551616) (hnl : n < 18446744073709551616) (hai : atI D.S n = some i)
  (hcal : Calls Tryz.prog 32 #[.pointer (some ⟨rb, 0, none⟩), .int .u64 (p : Int)] w fun e w' => e = .returned (.slice none 0 lcap) /\ Below w.heap.size w w') :
  Calls Tryz.prog 76 #[.pointer (some ⟨rb, 0, none⟩), .int .u64 (n : Int), .int .u64 (p : Int), .int .i64 2, .int .u64 (a : Int)] w (OutP w base Q rb (setPar (setL D p [n]) n p) g cap) := by
 obtain ⟨s1, hs1, ha1⟩ := setL_at (p := p) (l' := [n]) hai
 have hf1 := setL_fits (p := p) (l' := [n]) hf
 have HS1 : Hid ((setL D p [n]).S[i]? = some s1) := hs1
 have HA1 : Hid (atI (setL D p [n]).S n = some i) := ha1
 have HF1 : Hid (Fits (setL D p [n])) := hf1
 have HD : Hid (RdS w base Q rb D g cap ra rcap L) := h
 have HF : Hid (Fits D) := hf
 have HPP : Hid (p = 0 \/ ∃ s, sl D p = some s) := hpp
 clear h hf hpp hai hs1 ha1 hf1
 have tok1 : True := trivial
 have tok2 : True := trivial
 have tok3 : True := trivial
 go_enter Tryz.func76, Tryz.ntmps76
 go_wp2_with fail
 refine hcal.mono ?_
 rintro e w1 ⟨rfl, hb1⟩
 have HB1 : Hid (Below w.heap.size w w1) := hb1
 have hsz := hb1.size
 clear hb1 hcal
 have HB3 : Hid (Below w1.heap.size w1 (w1.alloc (.cells #[] 27))) := below_new' w1 _
 go_wp2_with (first
  | (at_builtin; have _t := tok1; refine wpList_app rfl _ _ rfl Tryz.underlying23 info42 rfl (by decide) w1.heap.size (.slice (some ⟨w1.heap.size, 0, none⟩) 0 0) 0 [] rfl (own_new w1 27 1) _ _ _ [] rfl rfl (fun j u hu => by simp at hu) (fun u hu => by simp at hu) (by unfold maxLen; omega) (by omega) (by simp) ?_; intro v1 w4 hown1 hg1 _ hat1; obtain ⟨va1, vc1, hv1⟩ := own_slice hown1; subst hv1; rw [Nat.zero_add, List.nil_append] at hown1; rw [Nat.zero_add]; have HO1 : Hid (w4.ownsRow w1.heap.size 27 1 (.slice va1 0 vc1) 0 []) := hown1; have HB4 : Hid (Below w1.heap.size w1 w4) := HB3.out.grown hg1 (by simp) (fun k hk => by simp only [Value.ownBlock, Option.some.injEq] at hk; omega); have hs4 := HB4.out.size; clear hown1 hg1 hat1 tok1 _t)
  | (at_builtin; have _t := tok2; refine wpList_app rfl _ _ rfl Tryz.underlying23 info42 rfl (by decide) w1.heap.size (.slice va1 0 vc1) 0 [] rfl (own_of_block HO1.out (fun k hk => Below.heap_alloc _ _ _ (own_block_lt HO1.out k hk).2)) (some ⟨w4.heap.size, 0, none⟩) 1 1 [.int .u64 (n : Int)] rfl rfl (news_new w4 #[.int .u64 (n : Int)] 27) (by simp [Value.oneCell']) (by unfold maxLen; omega) (by omega) (by simp; omega) ?_; intro v2 w5 hown2 hg2 _ hat2; obtain ⟨va2, vc2, hv2⟩ := own_slice hown2; subst hv2; rw [Nat.zero_add, List.nil_append] at hown2; rw [Nat.zero_add]; have HO2 : Hid (w5.ownsRow w1.heap.size 27 1 (.slice va2 1 vc2) 1 (hvals [n])) := hown2; have HB5 : Hid (Below w1.heap.size w1 w5) := (HB4.out.alloc hs4 _).grown hg2 (by simp; omega) (fun k hk => (own_block_lt HO1.out k hk).1); have hs5 := HB5.out.size; clear hown2 hg2 hat2 tok2 _t)
  | (at_builtin; have _t := tok3; refine wpList_app rfl _ _ rfl Tryz.underlying23 info42 rfl (by decide) w1.heap.size (.slice va2 1 vc2) 1 (hvals [n]) rfl HO2.out _ _ _ [] rfl rfl (fun j u hu => by simp at hu) (fun u hu => by simp at hu) (by unfold maxLen; omega) (by omega) hs5 ?_; intro v3 w6 hown3 hg3 _ hat3; obtain ⟨va3, vc3, hv3⟩ := own_slice hown3; subst hv3; have HB6 : Hid (Below w1.heap.size w1 w6) := HB5.out.grown hg3 hs5 (fun k hk => (own_block_lt HO2.out k hk).1); rw [Nat.add_zero, List.append_nil] at hown3; rw [Nat.add_zero]; have HCN := rset_new w w1 w6 base Q rb D g cap ra rcap L p [n] va3 vc3 1 HD.out HF.out HPP.out hpl HB1.out HB6.out rfl hown3; clear hown3 hg3 hat3 tok3 _t))
 refine HCN.mono ?_
 rintro e w7 ⟨rfl, ⟨Q', ra', rcap', L', hr, hQ'⟩, ht7⟩
 clear HCN
 obtain ⟨q, hq, -, hcap, hhd, hcl⟩ := hr.slot HS1.out
 have hat := rat_any w7.drew _ rb _ n (hr.done.view.below ((Below.refl _ _).drew)) HF1.out hnl
 rw [atR_some HA1.out] at hat
 have hc6 := (hcl 6 _ rfl).1
 have hf6 := (hcl 6 _ rfl).2
 have hil : (i : Int) < (((setL D p ([n])).S.length : Nat) : Int) := by have := (List.getElem?_eq_some_iff.1 HS1.out).1; omega
 have hl4 := HF1.out.len
 have hgs := hr.gb
 have hgr : ¬ g = rb := by have := hr.rbl; omega
 have hgr2 : ¬ rb = g := by omega
 have e1 : setPar (setL D p ([n])) n p = { (setL D p ([n])) with S := (setL D p ([n])).S.set i { s1 with parent := p } } := by simp only [setPar, HA1.out, HS1.out]
 have HE : Hid (setPar (setL D p ([n])) n p = { (setL D p ([n])) with S := (setL D p ([n])).S.set i { s1 with parent := p } }) := e1
 have HR : Hid (RdS ((w7.drew).setCell ⟨g, i * 8 + 6, none⟩ (.int .u64 (p : Int))) base Q' rb { (setL D p ([n])) with S := (setL D p ([n])).S.set i { s1 with parent := p } } g cap ra' rcap' (L'.set i q)) := (hr.below ((Below.refl _ _).drew)).setPar HS1.out hq p
 have HQ : Hid (∀ b, Q' b -> Q b \/ w.heap.size <= b) := hQ'
 have HT : Hid (Turn (fun b => b = rb \/ b = g) w w7) := ht7
 generalize (setL D p ([n])).S.length = SL at *
 clear hr hq hcl e1 hQ' ht7
 go_wp2_with fail
 go_region_held3 (fun w' => w'.cell? ⟨rb, 0, none⟩ = some (.slice (some ⟨g, 0, none⟩) SL cap)) (go_keep) (first | (go_at_call 28; refine hat.mono ?_; rintro e w8 ⟨rfl, rfl⟩))
 go_end0
 refine ⟨rfl, ⟨Q', ra', rcap', _, by rw [HE.out]; exact HR.out, HQ.out⟩, ?_⟩
 exact (Turn.setCell (A := fun b => b = rb \/ b = g) HT.out (p := ⟨g, i * 8 + 6, none⟩) (.inr rfl) _).drew
theorem rput_e2s (w : World) (base : Nat) (Q : Nat -> Prop) (rb : Nat) (D : Dc) (g cap : Nat) (ra : Option Addr) (rcap : Nat) (L : List (Value × Value)) (n p a i : Nat) (ad : Addr) (lcap : Nat) (h : RdS w base Q rb D g cap ra rcap L) (hf : Fits D) (hpp : p = 0 \/ ∃ s, sl D p = some s) (hpl : p < 18446744073709551616) (hnl : n < 18446744073709551616) (hai : atI D.S n = some i)
  (hcal : Calls Tryz.prog 32 #[.pointer (some ⟨rb, 0, none⟩), .int .u64 (p : Int)] w fun e w' => e = .returned (.slice (some ad) 0 lcap) /\ Below w.heap.size w w') :
  Calls Tryz.prog 76 #[.pointer (some ⟨rb, 0, none⟩), .int .u64 (n : Int), .int .u64 (p : Int), .int .i64 2, .int .u64 (a : Int)] w (OutP w base Q rb (setPar (setL D p [n]) n p) g cap) := by
 obtain ⟨s1, hs1, ha1⟩ := setL_at (p := p) (l' := [n]) hai
 have hf1 := setL_fits (p := p) (l' := [n]) hf
 have HS1 : Hid ((setL D p [n]).S[i]? = some s1) := hs1
 have HA1 : Hid (atI (setL D p [n]).S n = some i) := ha1
 have HF1 : Hid (Fits (setL D p [n])) := hf1
 have HD : Hid (RdS w base Q rb D g cap ra rcap L) := h
 have HF : Hid (Fits D) := hf
 have HPP : Hid (p = 0 \/ ∃ s, sl D p = some s) := hpp
 clear h hf hpp hai hs1 ha1 hf1
 have tok1 : True := trivial
 have tok2 : True := trivial
 have tok3 : True := trivial
 go_enter Tryz.func76, Tryz.ntmps76
 go_wp2_with fail
 refine hcal.mono ?_
 rintro e w1 ⟨rfl, hb1⟩
 have HB1 : Hid (Below w.heap.size w w1) := hb1
 have hsz := hb1.size
 clear hb1 hcal
 have HB3 : Hid (Below w1.heap.size w1 (w1.alloc (.cells #[] 27))) := below_new' w1 _
 go_wp2_with (first
  | (at_builtin; have _t := tok1; refine wpList_app rfl _ _ rfl Tryz.underlying23 info42 rfl (by decide) w1.heap.size (.slice (some ⟨w1.heap.size, 0, none⟩) 0 0) 0 [] rfl (own_new w1 27 1) _ _ _ [] rfl rfl (fun j u hu => by simp at hu) (fun u hu => by simp at hu) (by unfold maxLen; omega) (by omega) (by simp) ?_; intro v1 w4 hown1 hg1 _ hat1; obtain ⟨va1, vc1, hv1⟩ := own_slice hown1; subst hv1; rw [Nat.zero_add, List.nil_append] at hown1; rw [Nat.zero_add]; have HO1 : Hid (w4.ownsRow w1.heap.size 27 1 (.slice va1 0 vc1) 0 []) := hown1; have HB4 : Hid (Below w1.heap.size w1 w4) := HB3.out.grown hg1 (by simp) (fun k hk => by simp only [Value.ownBlock, Option.some.injEq] at hk; omega); have hs4 := HB4.out.size; clear hown1 hg1 hat1 tok1 _t)
  | (at_builtin; have _t := tok2; refine wpList_app rfl _ _ rfl Tryz.underlying23 info42 rfl (by decide) w1.heap.size (.slice va1 0 vc1) 0 [] rfl (own_of_block HO1.out (fun k hk => Below.heap_alloc _ _ _ (own_block_lt HO1.out k hk).2)) (some ⟨w4.heap.size, 0, none⟩) 1 1 [.int .u64 (n : Int)] rfl rfl (news_new w4 #[.int .u64 (n : Int)] 27) (by simp [Value.oneCell']) (by unfold maxLen; omega) (by omega) (by simp; omega) ?_; intro v2 w5 hown2 hg2 _ hat2; obtain ⟨va2, vc2, hv2⟩ := own_slice hown2; subst hv2; rw [Nat.zero_add, List.nil_append] at hown2; rw [Nat.zero_add]; have HO2 : Hid (w5.ownsRow w1.heap.size 27 1 (.slice va2 1 vc2) 1 (hvals [n])) := hown2; have HB5 : Hid (Below w1.heap.size w1 w5) := (HB4.out.alloc hs4 _).grown hg2 (by simp; omega) (fun k hk => (own_block_lt HO1.out k hk).1); have hs5 := HB5.out.size; clear hown2 hg2 hat2 tok2 _t)
  | (at_builtin; have _t := tok3; refine wpList_app rfl _ _ rfl Tryz.underlying23 info42 rfl (by decide) w1.heap.size (.slice va2 1 vc2) 1 (hvals [n]) rfl HO2.out _ _ _ [] rfl rfl (fun j u hu => by simp at hu) (fun u hu => by simp at hu) (by unfold maxLen; omega) (by omega) hs5 ?_; intro v3 w6 hown3 hg3 _ hat3; obtain ⟨va3, vc3, hv3⟩ := own_slice hown3; subst hv3; have HB6 : Hid (Below w1.heap.size w1 w6) := HB5.out.grown hg3 hs5 (fun k hk => (own_block_lt HO2.out k hk).1); rw [Nat.add_zero, List.append_nil] at hown3; rw [Nat.add_zero]; have HCN := rset_new w w1 w6 base Q rb D g cap ra rcap L p [n] va3 vc3 1 HD.out HF.out HPP.out hpl HB1.out HB6.out rfl hown3; clear hown3 hg3 hat3 tok3 _t))
 refine HCN.mono ?_
 rintro e w7 ⟨rfl, ⟨Q', ra', rcap', L', hr, hQ'⟩, ht7⟩
 clear HCN
 obtain ⟨q, hq, -, hcap, hhd, hcl⟩ := hr.slot HS1.out
 have hat := rat_any w7.drew _ rb _ n (hr.done.view.below ((Below.refl _ _).drew)) HF1.out hnl
 rw [atR_some HA1.out] at hat
 have hc6 := (hcl 6 _ rfl).1
 have hf6 := (hcl 6 _ rfl).2
 have hil : (i : Int) < (((setL D p ([n])).S.length : Nat) : Int) := by have := (List.getElem?_eq_some_iff.1 HS1.out).1; omega
 have hl4 := HF1.out.len
 have hgs := hr.gb
 have hgr : ¬ g = rb := by have := hr.rbl; omega
 have hgr2 : ¬ rb = g := by omega
 have e1 : setPar (setL D p ([n])) n p = { (setL D p ([n])) with S := (setL D p ([n])).S.set i { s1 with parent := p } } := by simp only [setPar, HA1.out, HS1.out]
 have HE : Hid (setPar (setL D p ([n])) n p = { (setL D p ([n])) with S := (setL D p ([n])).S.set i { s1 with parent := p } }) := e1
 have HR : Hid (RdS ((w7.drew).setCell ⟨g, i * 8 + 6, none⟩ (.int .u64 (p : Int))) base Q' rb { (setL D p ([n])) with S := (setL D p ([n])).S.set i { s1 with parent := p } } g cap ra' rcap' (L'.set i q)) := (hr.below ((Below.refl _ _).drew)).setPar HS1.out hq p
 have HQ : Hid (∀ b, Q' b -> Q b \/ w.heap.size <= b) := hQ'
 have HT : Hid (Turn (fun b => b = rb \/ b = g) w w7) := ht7
 generalize (setL D p ([n])).S.length = SL at *
 clear hr hq hcl e1 hQ' ht7
 go_wp2_with fail
 go_region_held3 (fun w' => w'.cell? ⟨rb, 0, none⟩ = some (.slice (some ⟨g, 0, none⟩) SL cap)) (go_keep) (first | (go_at_call 28; refine hat.mono ?_; rintro e w8 ⟨rfl, rfl⟩))
 go_end0
 refine ⟨rfl, ⟨Q', ra', rcap', _, by rw [HE.out]; exact HR.out, HQ.out⟩, ?_⟩
 exact (Turn.setCell (A := fun b => b = rb \/ b = g) HT.out (p := ⟨g, i * 8 + 6, none⟩) (.inr rfl) _).drew
def whereN (l : List Nat) (wh : Int) (a : Nat) : Nat := if wh = 2 then l.length else if wh = 3 then (idxH l a).toNat else if wh = 4 then (idxH l a).toNat + 1 else 0
theorem rput_any (w : World) (base : Nat) (Q : Nat -> Prop) (rb : Nat) (D : Dc) (g cap : Nat) (ra : Option Addr) (rcap : Nat) (L : List (Value × Value)) (n p a i : Nat) (wh : Int) (h : RdS w base Q rb D g cap ra rcap L) (hf : Fits D) (hpp : p = 0 \/ ∃ s, sl D p = some s) (hpl : p < 18446744073709551616) (hnl : n < 18446744073709551616) (hll : (lst D p).length <= 4096) (hai : atI D.S n = some i)
  (hwh : wh = 1 \/ wh = 2 \/ ((wh = 3 \/ wh = 4) /\ a ∈ lst D p)) : Calls Tryz.prog 76 #[.pointer (some ⟨rb, 0, none⟩), .int .u64 (n : Int), .int .u64 (p : Int), .int .i64 wh, .int .u64 (a : Int)] w (OutP w base Q rb (setPar (setL D p (ins (lst D p) (whereN (lst D p) wh a) n)) n p) g cap) := by
 by_cases hne : 0 < (lst D p).length
 ·rcases hwh with rfl | rfl | ⟨hw, hm⟩
  ·exact rput_first w base Q rb D g cap ra rcap L n p a i 0 h hf hpp hpl hnl hll hne hai rfl
  ·exact rput_last w base Q rb D g cap ra rcap L n p a i 0 h hf hpp hpl hnl hll hne hai rfl
  ·obtain ⟨k, h1, h2, h3⟩ := idxH_mem hm
   rcases hw with rfl | rfl
   ·have e : whereN (lst D p) 3 a = k := by simp [whereN, h1]
    rw [e]
    exact rput_before w base Q rb D g cap ra rcap L n p a i k h hf hpp hpl hnl hll hne hai h1 h3
   ·have e : whereN (lst D p) 4 a = k + 1 := by simp [whereN, h1]
    rw [e]
    exact rput_after w base Q rb D g cap ra rcap L n p a i k h hf hpp hpl hnl hll hne hai h1 h3
 ·have hl : lst D p = [] := List.length_eq_zero_iff.1 (by omega)
  obtain ⟨la, lcap, _, _, hcal⟩ := rlist_any w _ rb D p h.done.view hf hpl hpp
  rw [hl] at hcal hwh ⊢
  have e : ∀ k, ins [] k n = [n] := fun k => by simp [ins]
  rw [e]
  rcases hwh with rfl | rfl | ⟨_, hm⟩
  ·cases la with
   | none => exact rput_e1n w base Q rb D g cap ra rcap L n p a i lcap h hf hpp hpl hnl hai hcal
   | some ad => exact rput_e1s w base Q rb D g cap ra rcap L n p a i ad lcap h hf hpp hpl hnl hai hcal
  ·cases la with
   | none => exact rput_e2n w base Q rb D g cap ra rcap L n p a i lcap h hf hpp hpl hnl hai hcal
   | some ad => exact rput_e2s w base Q rb D g cap ra rcap L n p a i ad lcap h hf hpp hpl hnl hai hcal
  ·simp at hm
end Go.Proofs.YtjkgjckkglfokaaGreat.Gr
/- Nodes taken away, in plain, and one slot emptied by the document. -/
namespace Go.Proofs.YtjkgjckkglfokaaGreat.Gr
open Go.RowKit
set_option linter.unusedVariables false
set_option linter.unusedSimpArgs false
def killD (D : Dc) (x : Nat) : Dc :=
 match atI D.S x with
 | none => D
 | some i => match D.S[i]? with
  | none => D
  | some s => { D with S := D.S.set i (zeroSl s.gen) }
def killA (D : Dc) (l : List Nat) : Dc := l.foldl killD D
theorem kill_at {D : Dc} {x i : Nat} {s : Sl} (ha : atI D.S x = some i) (hs : D.S[i]? = some s) : killD D x = { D with S := D.S.set i (zeroSl s.gen) } := by
 simp only [killD, ha, hs]
theorem atI_set_ne {S : List Sl} {i j h : Nat} {s' : Sl} (hn : i ≠ j) (ha : atI S h = some j) : atI (S.set i s') h = some j := by
 obtain ⟨s, h1, h2, h3, h4, h5, _⟩ := atI_some ha
 unfold atI
 rw [if_neg h5, <- h4, List.getElem?_set_ne hn, h1]
 simp [h2, h3]
theorem atI_set_same {S : List Sl} {i j h : Nat} {s s' : Sl} (hs : S[i]? = some s) (hl : s'.live = s.live) (hg : s'.gen = s.gen) : atI (S.set i s') h = atI S h := by
 unfold atI
 by_cases h0 : h % 4294967296 = 0
 ·rw [if_pos h0, if_pos h0]
 ·rw [if_neg h0, if_neg h0]
  by_cases e : i = h % 4294967296 - 1
  ·rw [<- e, List.getElem?_set_self (List.getElem?_eq_some_iff.1 hs).1, hs]
   simp only [hl, hg]
  ·rw [List.getElem?_set_ne e]
theorem sl_kill_ne {D : Dc} {x y : Nat} {t : Sl} (hy : sl D y = some t) (hne : y ≠ x) : sl (killD D x) y = some t := by
 cases ha : atI D.S x with
 | none => simpa [killD, ha] using hy
 | some i =>
  obtain ⟨s, hs, _, _, _, _, hx⟩ := atI_some ha
  rw [kill_at ha hs]
  obtain ⟨j, hj, htj, _, hyy⟩ := sl_live hy
  have hij : i ≠ j := by
   rintro rfl
   rw [hs] at htj
   cases htj
   exact hne (hyy.trans hx.symm)
  have h1 := atI_set_ne (s' := zeroSl s.gen) hij hj
  simp only [sl, h1, Option.bind_some]
  rw [List.getElem?_set_ne hij]
  exact htj
theorem sl_killA_ne : ∀ (l : List Nat) (D : Dc) (y : Nat) (t : Sl), sl D y = some t -> y ∉ l -> sl (killA D l) y = some t
 | [], D, y, t, hy, _ => hy
 | a :: r, D, y, t, hy, hn => by
  simp only [List.mem_cons, not_or] at hn
  exact sl_killA_ne r (killD D a) y t (sl_kill_ne hy hn.1) hn.2
theorem killA_snoc {D : Dc} {l : List Nat} {k x : Nat} (hx : l[k]? = some x) : killA D (l.take (k + 1)) = killD (killA D (l.take k)) x := by
 unfold killA
 rw [List.take_add_one, hx, List.foldl_append]
 rfl
theorem Fits.kill {D : Dc} (hf : Fits D) (x : Nat) : Fits (killD D x) := by
 cases ha : atI D.S x with
 | none => simpa [killD, ha] using hf
 | some i =>
  obtain ⟨s, hs, _⟩ := atI_some ha
  rw [kill_at ha hs]
  refine ⟨by simpa using hf.len, fun j t ht => ?_⟩
  by_cases e : i = j
  ·subst e
   have ht' : (D.S.set i (zeroSl s.gen))[i]? = some t := ht
   rw [List.getElem?_set_self (List.getElem?_eq_some_iff.1 hs).1] at ht'
   cases ht'
   exact hf.gen i s hs
  ·have ht' : (D.S.set i (zeroSl s.gen))[j]? = some t := ht
   rw [List.getElem?_set_ne e] at ht'
   exact hf.gen j t ht'
theorem Fits.killA : ∀ (l : List Nat) {D : Dc}, Fits D -> Fits (killA D l)
 | [], _, hf => hf
 | a :: r, _, hf => Fits.killA r (hf.kill a)
theorem Fits.setL {D : Dc} (hf : Fits D) (p : Nat) (l' : List Nat) : Fits (setL D p l') := by
 unfold Gr.setL
 split
 ·exact ⟨hf.len, hf.gen⟩
 ·split
  ·exact hf
  ·rename_i i ha
   split
   ·exact hf
   ·rename_i s hs
    refine ⟨by simpa using hf.len, fun j t ht => ?_⟩
    by_cases e : i = j
    ·subst e
     have ht' : (D.S.set i { s with kids := l' })[i]? = some t := ht
     rw [List.getElem?_set_self (List.getElem?_eq_some_iff.1 hs).1] at ht'
     cases ht'
     exact hf.gen i s hs
    ·have ht' : (D.S.set i { s with kids := l' })[j]? = some t := ht
     rw [List.getElem?_set_ne e] at ht'
     exact hf.gen j t ht'
theorem sl_setL {D : Dc} {p y : Nat} {l' : List Nat} {t : Sl} (hy : sl D y = some t) : ∃ t', sl (setL D p l') y = some t' /\ t'.gen = t.gen := by
 unfold setL
 split
 ·exact ⟨t, hy, rfl⟩
 ·split
  ·exact ⟨t, hy, rfl⟩
  ·rename_i i ha
   split
   ·exact ⟨t, hy, rfl⟩
   ·rename_i s hs
    obtain ⟨j, hj, htj, _, _⟩ := sl_live hy
    have h1 := atI_set_same (h := y) (j := 0) (s' := { s with kids := l' }) hs rfl rfl
    rw [hj] at h1
    simp only [sl, h1, Option.bind_some]
    by_cases e : i = j
    ·subst e
     rw [hs] at htj
     cases htj
     exact ⟨_, List.getElem?_set_self (List.getElem?_eq_some_iff.1 hs).1, rfl⟩
    ·rw [List.getElem?_set_ne e]
     exact ⟨t, htj, rfl⟩
def delD (D : Dc) (h : Nat) : Dc × Int :=
 match sl D h with
 | none => (D, 8)
 | some s => (killA (setL D s.parent ((lst D s.parent).take (idxH (lst D s.parent) h).toNat ++ (lst D s.parent).drop ((idxH (lst D s.parent) h).toNat + 1))) (allH D h), 0)
theorem RdS.store' {w : World} {base : Nat} {Q : Nat -> Prop} {rb : Nat} {D : Dc} {g cap : Nat} {ra : Option Addr} {rcap : Nat} {L : List (Value × Value)} {i : Nat} {s : Sl} {p : Value × Value} (h : RdS w base Q rb { D with S := D.S.set i s } g cap ra rcap (L.set i p)) {j : Nat} {s' : Sl} {p' : Value × Value} {u : Value} (hi : i < D.S.length) (hl : L.length = D.S.length) (hj : j < 8) (hc : slotCells s' p' = (slotCells s p).set j u)
  (hv : SlotVals w Q s' p') : RdS (w.setCell ⟨g, i * 8 + j, none⟩ u) base Q rb { D with S := D.S.set i s' } g cap ra rcap (L.set i p') := by
 have := h.store (i := i) (s := s) (p := p) (List.getElem?_set_self hi) (List.getElem?_set_self (by omega)) hj hc hv
 simpa only [List.set_set] using this
theorem SlotVals.set {w : World} {Q : Nat -> Prop} {s : Sl} {p : Value × Value} (h : SlotVals w Q s p) {g o : Nat} {u : Value} (hq : ∀ b, Q b -> b ≠ g) : SlotVals (w.setCell ⟨g, o, none⟩ u) Q s p :=
 h.to (fun _ h => h) (fun b o' hb => World.cell?_of_block (w := w) (a := ⟨b, o', none⟩) (Below.heap_setCell _ _ _ _ (hq b hb)))
def killW (w : World) (g i : Nat) (gen : Nat) : World :=
 (((((((w.setCell ⟨g, i * 8, none⟩ (.int .u32 (gen : Int))).setCell ⟨g, i * 8 + 1, none⟩ (.bool false)).setCell ⟨g, i * 8 + 2, none⟩ (.int .i64 0)).setCell ⟨g, i * 8 + 3, none⟩ (.string ⟨#[]⟩)).setCell ⟨g, i * 8 + 4, none⟩ (.slice none 0 0)).setCell ⟨g, i * 8 + 5, none⟩ (.string ⟨#[]⟩)).setCell ⟨g, i * 8 + 6, none⟩ (.int .u64 0)).setCell ⟨g, i * 8 + 7, none⟩ (.slice none 0 0)
theorem RdS.kill {w : World} {base : Nat} {Q : Nat -> Prop} {rb : Nat} {D : Dc} {g cap : Nat} {ra : Option Addr} {rcap : Nat} {L : List (Value × Value)} (h : RdS w base Q rb D g cap ra rcap L) {i : Nat} {s : Sl} (hs : D.S[i]? = some s) : ∃ L', RdS (killW w g i s.gen) base Q rb { D with S := D.S.set i (zeroSl s.gen) } g cap ra rcap L' := by
 have hi := (List.getElem?_eq_some_iff.1 hs).1
 have hl := h.len
 obtain ⟨p, hp⟩ : ∃ p, L[i]? = some p := ⟨_, List.getElem?_eq_getElem (by rw [h.len]; exact hi)⟩
 obtain ⟨aa, ac, ka, kc, e, l1, l2, v1, v2⟩ := h.vals i s p hs hp
 subst e
 have hq : ∀ b, Q b -> b ≠ g := fun b hb => (h.qne b hb).1
 have z4 : SlotVals w Q { gen := s.gen, live := false, kind := 0, name := ⟨#[]⟩, attrs := [], text := s.text, parent := s.parent, kids := s.kids } (.slice none 0 0, .slice ka s.kids.length kc) := ⟨none, 0, ka, kc, rfl, Nat.le_refl _, l2, (fun i a ha => by simp at ha), v2⟩
 have z7 : SlotVals w Q (zeroSl s.gen) (.slice none 0 0, .slice none 0 0) := ⟨none, 0, none, 0, rfl, Nat.le_refl _, Nat.le_refl _, (fun i a ha => by simp [zeroSl] at ha), (fun i a ha => by simp [zeroSl] at ha)⟩
 have z0 : SlotVals w Q s (.slice aa s.attrs.length ac, .slice ka s.kids.length kc) := ⟨aa, ac, ka, kc, rfl, l1, l2, v1, v2⟩
 have h0 := h.store (j := 0) (s' := s) (u := .int .u32 (s.gen : Int)) hs hp (by omega) rfl z0
 have h1 := h0.store' (j := 1) (s' := { s with live := false }) (u := .bool false) hi hl (by omega) rfl (z0.set hq)
 have h2 := h1.store' (j := 2) (s' := { s with live := false, kind := 0 }) (u := .int .i64 0) hi hl (by omega) rfl ((z0.set hq).set hq)
 have h3 := h2.store' (j := 3) (s' := { s with live := false, kind := 0, name := ⟨#[]⟩ }) (u := .string ⟨#[]⟩) hi hl (by omega) rfl (((z0.set hq).set hq).set hq)
 have h4 := h3.store' (j := 4) (s' := { s with live := false, kind := 0, name := ⟨#[]⟩, attrs := [] }) (u := .slice none 0 0) hi hl (by omega) rfl ((((z4.set hq).set hq).set hq).set hq)
 have h5 := h4.store' (j := 5) (s' := { s with live := false, kind := 0, name := ⟨#[]⟩, attrs := [], text := ⟨#[]⟩ }) (u := .string ⟨#[]⟩) hi hl (by omega) rfl (((((z4.set hq).set hq).set hq).set hq).set hq)
 have h6 := h5.store' (j := 6) (s' := { s with live := false, kind := 0, name := ⟨#[]⟩, attrs := [], text := ⟨#[]⟩, parent := 0 }) (u := .int .u64 0) hi hl (by omega) rfl ((((((z4.set hq).set hq).set hq).set hq).set hq).set hq)
 have h7 := h6.store' (j := 7) (s' := zeroSl s.gen) (p' := (.slice none 0 0, .slice none 0 0)) (u := .slice none 0 0) hi hl (by omega) rfl (((((((z7.set hq).set hq).set hq).set hq).set hq).set hq).set hq)
 exact ⟨_, h7⟩
theorem Turn.kill {A : Nat -> Prop} {a w : World} (h : Turn A a w) {g : Nat} (hg : a.heap.size <= g) (i gen : Nat) : Turn A a (killW w g i gen) :=
 (((((((h.setNew (p := ⟨g, _, none⟩) hg _).setNew (p := ⟨g, _, none⟩) hg _).setNew (p := ⟨g, _, none⟩) hg _).setNew (p := ⟨g, _, none⟩) hg _).setNew (p := ⟨g, _, none⟩) hg _).setNew (p := ⟨g, _, none⟩) hg _).setNew (p := ⟨g, _, none⟩) hg _).setNew (p := ⟨g, _, none⟩) hg _
end Go.Proofs.YtjkgjckkglfokaaGreat.Gr
/- Delete, by the document. -/
namespace Go.Proofs.YtjkgjckkglfokaaGreat.Gr
open Go.RowKit
set_option linter.unusedVariables false
set_option linter.unusedSimpArgs false
set_option maxRecDepth 100000
set_option maxHeartbeats 1000000
theorem RdS.close {w0 w1 w' : World} {Q Q' : Nat -> Prop} {rb : Nat} {D : Dc} {g cap : Nat} {ra : Option Addr} {rcap : Nat} {L : List (Value × Value)} {z : Int} (h : RdS w' w1.heap.size Q' rb D g cap ra rcap L) (h01 : Below w0.heap.size w0 w1) (ht : Turn (fun b => b = rb) w1 w') (hq : ∀ b, Q' b -> Q b \/ w0.heap.size <= b) (hQ : ∀ b, Q b -> b < w0.heap.size) (hn : ¬ Q rb) (hrb : rb < w0.heap.size) : RPost w0 Q rb D z (.returned (.int .i64 z)) w' := by
 have hs := h01.size
 have hs1 := ht.size
 refine ⟨rfl, ((below_turn h01).mono (fun _ _ h => h.elim)).trans ht, h.done.widen (fun b hb => ?_) (fun b hb => ?_) (fun hb => ?_)⟩
 ·rcases hb with hb | hb
  ·rcases hq b hb with h2 | h2
   ·exact .inl h2
   ·exact .inr ⟨h2, (h.qne b hb).2⟩
  ·exact .inr ⟨by omega, hb.2⟩
 ·rcases hb with hb | hb
  ·have := hQ b hb; omega
  ·exact hb.2
 ·rcases hb with hb | hb
  ·exact hn hb
  ·omega
theorem not_mem_take {A : List Nat} (h : A.Nodup) {j x : Nat} (hx : A[j]? = some x) : x ∉ A.take j := by
 intro hm
 obtain ⟨k, hk⟩ := List.getElem?_of_mem hm
 have hkj : k < j := by have := (List.getElem?_eq_some_iff.1 hk).1; simp at this; omega
 rw [List.getElem?_take_of_lt hkj] at hk
 have := (List.getElem?_inj (List.getElem?_eq_some_iff.1 hk).1 h).1 (hk.trans hx.symm)
 omega
theorem rdel_any (w : World) (Q : Nat -> Prop) (rb : Nat) (D : Dc) (h : Nat) (hd : RDoc w Q rb D) (hw : WF D) (hh : h < 18446744073709551616) :
  Calls Tryz.prog 40 #[.pointer (some ⟨rb, 0, none⟩), .int .u64 (h : Int)] w (RPost w Q rb (delD D h).1 (delD D h).2) := by
 have hlv := rlive_any w _ rb D h hd.view hw.fits hh
 cases hs : sl D h with
 | none =>
  have ha := sl_none hs
  have e1 : delD D h = (D, 8) := by simp only [delD, hs]
  rw [e1]
  rw [ha] at hlv
  have HD := hid hd
  clear hd ha e1 hs
  go_enter Tryz.func40, Tryz.ntmps40
  go_wp2_with fail
  refine hlv.mono ?_
  rintro e w1 ⟨rfl, rfl⟩
  go_wp2
  go_ret
  exact rpost_same HD.out (Below.refl _ _)
 | some s =>
  obtain ⟨i, hai, hsi, -, -⟩ := sl_live hs
  obtain ⟨k, hk, hkx, hkl⟩ := idxH_mem (hw.up h s hs)
  have e1 : delD D h = (killA (setL D s.parent ((lst D s.parent).take k ++ (lst D s.parent).drop (k + 1))) (allH D h), 0) := by simp only [delD, hs, hk, Int.toNat_natCast]
  rw [e1]
  have hsm : (atI D.S h).isSome = true := by simp [hai]
  rw [hsm] at hlv
  have h0 : h ≠ 0 := by rintro rfl; rw [sl_zero] at hs; cases hs
  have hAll := rAll_some w _ rb D h hd.view hw (.inr ⟨s, hs⟩)
  have hal := allA_len hw (.inr ⟨s, hs⟩ : h = 0 \/ ∃ s, sl D h = some s)
  have hax : allA D h = allH D h := if_neg h0
  rw [hax] at hAll hal
  have HLIVE : Hid (∀ x ∈ allH D h, ∃ t, sl (setL D s.parent ((lst D s.parent).take k ++ (lst D s.parent).drop (k + 1))) x = some t) := fun x hx => by
   obtain ⟨t, ht⟩ := allH_live hw hs x hx
   obtain ⟨t', h1, _⟩ := sl_setL (p := s.parent) (l' := (lst D s.parent).take k ++ (lst D s.parent).drop (k + 1)) ht
   exact ⟨t', h1⟩
  have HBIG : Hid (∀ x ∈ allH D h, x < 18446744073709551616) := fun x hx => by
   obtain ⟨t, ht⟩ := allH_live hw hs x hx
   exact (hw.lt ht).1
  have HND := hid (allH_nodup hw hs)
  have HFITS : Hid (Fits (setL D s.parent ((lst D s.parent).take k ++ (lst D s.parent).drop (k + 1)))) := hw.fits.setL _ _
  have HROUT : Hid (∀ w base Q rb g cap ra rcap L, RdS w base Q rb D g cap ra rcap L -> Calls Tryz.prog 79 #[.pointer (some ⟨rb, 0, none⟩), .int .u64 (h : Int)] w (OutP w base Q rb (setL D s.parent ((lst D s.parent).take k ++ (lst D s.parent).drop (k + 1))) g cap)) := fun w base Q rb g cap ra rcap L hr => rout_any w base Q rb D g cap ra rcap L h s k hr hw hs hk hkl
  have hl4 := hw.fits.len
  have hrb := hd.rbl
  have HQL := hid hd.lt
  have HNRB := hid hd.nrb
  have HDB : Hid (∀ W, Below w.heap.size w W -> RDoc W Q rb D) := fun W hb => hd.below hb
  clear hd hai hsi hsm e1 hs h0 hax hkx hk hw
  generalize setL D s.parent ((lst D s.parent).take k ++ (lst D s.parent).drop (k + 1)) = E at *
  generalize allH D h = A at *
  clear hkl
  go_enter Tryz.func40, Tryz.ntmps40
  go_wp2_with fail
  refine hlv.mono ?_
  rintro e w0 ⟨rfl, rfl⟩
  go_wp2_with fail
  refine hAll.mono ?_
  rintro e w1 ⟨la, lc, rfl, hown, hb⟩
  have hd1 := HDB.out w1 hb
  have hs1 := hb.size
  have HB1 := hid hb
  have HOW := hid hown
  obtain ⟨sa, scap, ra, rcap, hh1, hsc, hrc, hsl, hra⟩ := hd1.head
  obtain ⟨L, hL, hv, hnews⟩ := hsl.row
  have hz0 : w1.cell? ⟨rb, 0, none⟩ = some (.slice sa D.S.length scap) := by rw [hh1.cell]; rfl
  have HD := hid hd1
  have HH := hid hh1
  have HRA := hid hra
  have HV := hid hv
  have HL := hid hL
  have HN : Hid (∀ j u, (rowOf D.S L)[j]? = some u -> ∃ ad, sa = some ad /\ (w1.alloc (.cells #[] 100)).cell? (ad.add j) = some u) := fun j u hu => by
   obtain ⟨ad, e1, e2⟩ := hnews j u hu
   refine ⟨ad, e1, ?_⟩
   rw [World.cell?_of_block (w := w1) (Below.heap_alloc _ _ _ (World.block_lt_of_cell? w1 _ e2))]
   exact e2
  clear hd1 hh1 hra hv hL hnews hsl hb hown hAll HDB hlv
  have hrb1 : rb < w1.heap.size := by omega
  have tok : True := trivial
  go_wp2_with (at_builtin; have _t := tok; refine wpList_app rfl _ _ rfl Tryz.underlying22 info75 rfl (by decide) w1.heap.size (.slice (some ⟨w1.heap.size, 0, none⟩) 0 0) 0 [] rfl (own_new w1 100 8) sa D.S.length scap (rowOf D.S L) rfl (rowOf_len HL.out) HN.out (rows_vals HV.out) (by unfold maxLen; omega) (by omega) (by simp) ?_; intro v1 w2 hown1 hg1 hnil1 hat1; clear tok _t; rw [Nat.zero_add, List.nil_append] at hown1; obtain ⟨g, cap2, hv1, hrds, htn, hhd⟩ := HD.out.copied HH.out hrc HRA.out HL.out HV.out (below_new' w1 _) (fun k hk => by simp only [Value.ownBlock, Option.some.injEq] at hk; omega) (by simp) hown1 hg1 hnil1; subst hv1; have hc0 := hhd.cell; have hf0 := hhd.frozen; have HRS := hid hrds; have HT := hid htn; have hgb := hrds.gb; clear hrds htn hown1 hg1 hnil1 hat1 hhd)
  refine (HROUT.out _ _ _ _ _ _ _ _ _ HRS.out).mono ?_
  rintro e w3 ⟨rfl, ⟨Q', ra', rcap', L', hr3, hq3⟩, ht3⟩
  have hsz2 := HT.out.size
  have HT3 : Hid (Turn (fun b => b = rb) w1 w3) := ((HT.out.mono (B := fun b => b = rb \/ b = g) (fun _ _ h => .inl h)).trans ht3).mono (fun b hb h => by
   rcases h with h | h
   ·exact h
   ·omega)
  have HQ3 : Hid (∀ b, Q' b -> Q b \/ w0.heap.size <= b) := fun b hb => by
   rcases hq3 b hb with h | h
   ·exact .inl h
   ·exact .inr (by omega)
  have HR3 : Hid (∃ L, RdS w3 w1.heap.size Q' rb E g cap2 ra' rcap' L) := ⟨_, hr3⟩
  have hg1 := hgb.1
  clear hr3 hq3 ht3 hsz2 hgb HRS HT HROUT hc0 hf0 HN HL HV HRA HH HD hz0 hrc hsc
  go_wp2
  go_loopw [7, 8] (fun iv _ wr => ∃ (j : Nat), j <= A.length /\ iv = .int .i64 (j : Int) /\ Hid (∃ L, RdS wr w1.heap.size Q' rb (killA E (A.take j)) g cap2 ra' rcap' L) /\ Hid (Turn (fun b => b = rb) w1 wr)) (fun iv _ _ => A.length - (intOf iv).toNat)
  case atStart => exact ⟨0, by omega, rfl, HR3, HT3⟩
  case round =>
   obtain ⟨j, hj, rfl, hrj, htj⟩ := hrel
   clear HR3 HT3
   by_cases hlt : j < A.length
   ·obtain ⟨x, hx⟩ : ∃ x, A[j]? = some x := ⟨_, List.getElem?_eq_getElem hlt⟩
    have hxm := List.mem_of_getElem? hx
    obtain ⟨t0, ht0⟩ := HLIVE.out x hxm
    have ht := sl_killA_ne (A.take j) E x t0 ht0 (not_mem_take HND.out hx)
    have hxl := HBIG.out x hxm
    have hfj := Fits.killA (A.take j) HFITS.out
    have hsn := killA_snoc (D := E) hx
    obtain ⟨LL, hr⟩ := hrj.out
    have hownr := own_of_block HOW.out (w' := wr) (fun k hk => htj.out.block k (own_block_lt HOW.out k hk).2 (by have := (own_block_lt HOW.out k hk).1; omega))
    obtain ⟨hlc, -, hrow⟩ := row_cell hownr
    obtain ⟨b, rfl, hbl, hbs, hcx⟩ := hrow j _ (by simp only [hvals, List.getElem?_map, hx]; rfl)
    have hbs' : b < wr.heap.size := hbs
    generalize killA E (A.take j) = Ej at *
    obtain ⟨i, hai, hsi, -, -⟩ := sl_live ht
    obtain ⟨p, hp, hvp, hcap, hhd, hcl⟩ := hr.slot hsi
    have hat := rat_any wr _ rb Ej x hr.done.view hfj hxl
    rw [atR_some hai] at hat
    rw [kill_at hai hsi] at hsn
    have HSN := hid hsn
    have HK : Hid (∃ L', RdS (killW wr g i t0.gen).drew w1.heap.size Q' rb { Ej with S := Ej.S.set i (zeroSl t0.gen) } g cap2 ra' rcap' L') := by
     obtain ⟨L', hk⟩ := hr.kill hsi
     exact ⟨L', hk.below ((Below.refl _ _).drew)⟩
    have HTK := hid ((htj.out.kill hg1 i t0.gen).drew)
    have hil : (i : Int) < ((Ej.S.length : Nat) : Int) := by have := (List.getElem?_eq_some_iff.1 hsi).1; omega
    have hlj := hfj.len
    have c0 : wr.cell? ⟨g, i * 8, none⟩ = _ := (hcl 0 _ rfl).1
    have c1 := (hcl 1 _ rfl).1
    have c2 := (hcl 2 _ rfl).1
    have c3 := (hcl 3 _ rfl).1
    have c4 := (hcl 4 _ rfl).1
    have c5 := (hcl 5 _ rfl).1
    have c6 := (hcl 6 _ rfl).1
    have c7 := (hcl 7 _ rfl).1
    have f0 : wr.frozen? ⟨g, i * 8, none⟩ = _ := (hcl 0 _ rfl).2
    have f1 := (hcl 1 _ rfl).2
    have f2 := (hcl 2 _ rfl).2
    have f3 := (hcl 3 _ rfl).2
    have f4 := (hcl 4 _ rfl).2
    have f5 := (hcl 5 _ rfl).2
    have f6 := (hcl 6 _ rfl).2
    have f7 := (hcl 7 _ rfl).2
    have hgs := hr.gb
    clear hr hcl hvp hp hsn hai hsi ht ht0 hxm hx hrow hownr hfj hrj htj hbs
    go_wp2_with fail
    refine hat.mono ?_
    rintro e w4 ⟨rfl, rfl⟩
    go_wp2
    go_region
    go_wp2
    go_roundw
    case rel => exact ⟨j + 1, by omega, by go_num, by rw [HSN.out]; exact HK, HTK⟩
    case measure => simp [intOf]; omega
   ·have hje : j = A.length := by omega
    subst hje
    have hr := hrj.out
    rw [List.take_length] at hr
    have HRF := hid hr
    clear hr hrj
    go_wp2
    go_ret
    obtain ⟨LF, hrf⟩ := HRF.out
    exact hrf.close HB1.out htj.out HQ3.out HQL.out HNRB.out hrb
end Go.Proofs.YtjkgjckkglfokaaGreat.Gr
/- Get, by the document. -/
namespace Go.Proofs.YtjkgjckkglfokaaGreat.Gr
open Go.RowKit
set_option linter.unusedVariables false
set_option linter.unusedSimpArgs false
set_option maxRecDepth 100000
set_option maxHeartbeats 400000
theorem rget_some (w : World) (R : Nat -> Prop) (db : Nat) (D : Dc) (h i : Nat) (s : Sl) (hv : View w R db D) (hf : Fits D) (hh : h < 18446744073709551616) (ha : atI D.S h = some i) (hs : D.S[i]? = some s) :
  ∃ aa ac, s.attrs.length <= ac /\ AttrsR w R aa s.attrs /\ Calls Tryz.prog 110 #[.pointer (some ⟨db, 0, none⟩), .int .u64 (h : Int)] w fun e w' => e = .returned (.tuple #[.agg (tv s.kind s.name aa s.attrs.length ac s.text none 0 0), .int .i64 0]) /\ Below w.heap.size w w' := by
 have hat := fun W (hb : Below w.heap.size w W) => rat_any W _ db D h (hv.below hb) hf hh
 rw [atR_some ha] at hat
 obtain ⟨b, o, cap, aa, ac, ka, kc, h1, hcl, hbR, c0, c1, c2, c3, c4, c5, c6, c7, l1, l2, v1, v2⟩ := hv.slot hs
 refine ⟨aa, ac, l1, v1, ?_⟩
 have hbl := hv.lt b hbR
 have hdl := hv.lt db hv.docs
 have hi1 : (i : Int) < ((D.S.length : Nat) : Int) := by have := (List.getElem?_eq_some_iff.1 hs).1; omega
 have hl4 := hf.len
 clear hv ha hs v1 v2 hbR
 go_enter Tryz.func110, Tryz.ntmps110
 go_wp2_with fail
 refine (hat _ (below_new' w _)).mono ?_
 rintro e w1 ⟨rfl, rfl⟩
 go_wp2
 refine bodyPost_ret (v := .tuple #[.agg #[.int .i64 s.kind, .string s.name, .slice aa s.attrs.length ac, .string s.text, .slice none 0 0], .int .i64 0]) (by simp [results, Tryz.results110, go_sem]) rfl ⟨rfl, ?_⟩
 exact (below_new' w _).alloc (by simp) _
end Go.Proofs.YtjkgjckkglfokaaGreat.Gr
/- A node in plain, as the document makes it: child by child. -/
namespace Go.Proofs.YtjkgjckkglfokaaGreat.Gr
open Go.RowKit
set_option linter.unusedVariables false
set_option linter.unusedSimpArgs false
def mkN {α : Type} (s : Sl) (l : List α) : Nd α := { kind := s.kind, name := s.name, attrs := s.attrs, text := s.text, kids := l }
def slD (D : Dc) (h : Nat) : Sl := (sl D h).getD (zeroSl 0)
def kidT (D : Dc) : (m : Nat) -> Nat -> List (T m)
 | 0, _ => []
 | m + 1, h => (lst D h).map fun c => (mkN (slD D c) (kidT D m c) : Nd (T m))
def subT (D : Dc) (m : Nat) (h : Nat) : T (m + 1) := (mkN (slD D h) (kidT D m h) : Nd (T m))
def SubP (w : World) (R : Nat -> Prop) (n : Nat) (t : T n) (e : Ending) (w' : World) : Prop :=
 ∃ v, e = .returned (.tuple #[.agg v, .int .i64 0]) /\ TreeR w' (fun b => R b \/ (w.heap.size <= b /\ b < w'.heap.size)) n v t /\ Below w.heap.size w w'
structure SubSt (w wr : World) (R : Nat -> Prop) (m : Nat) (s : Sl) (L : List (T m)) (aa : Option Addr) (ac bx i : Nat) (la : Option Addr) (lcap : Nat) (xs : List Value) : Prop where
 res : IsCells wr w.heap.size #[.int .i64 0, .string ⟨#[]⟩, .slice none 0 0, .string ⟨#[]⟩, .slice none 0 0]
 box : IsCells wr bx #[.int .i64 s.kind, .string s.name, .slice aa s.attrs.length ac, .string s.text, .slice la i lcap]
 bxl : w.heap.size < bx
 own : wr.ownsRow (bx + 1) 31 5 (.slice la i lcap) i xs
 kids : CopiesAt wr (fun b => R b \/ (bx + 1 <= b /\ b < wr.heap.size /\ (Value.slice la i lcap).ownBlock ≠ some b)) m xs (L.take i)
 bel : Below w.heap.size w wr
theorem SubSt.step {w wr w2 w3 : World} {R : Nat -> Prop} {m : Nat} {s : Sl} {L : List (T m)} {aa : Option Addr} {ac bx i : Nat} {la : Option Addr} {lcap : Nat} {xs : List Value} (h : SubSt w wr R m s L aa ac bx i la lcap xs) (hR : ∀ b, R b -> b < w.heap.size) {k : T m} (hk : L[i]? = some k)
  {u : Array Value} (hu : TreeR w2 (fun b => R b \/ (wr.heap.size <= b /\ b < w2.heap.size)) m u k) (hb : Below wr.heap.size wr w2) {o o' : Obj} {la' : Option Addr} {lcap' : Nat} (hown : w3.ownsRow (bx + 1) 31 5 (.slice la' (i + 1) lcap') (i + 1) (xs ++ u.toList))
  (hg : ((w2.alloc o).alloc o').grownBy w3 (Value.slice la i lcap).ownBlock) (hat : (Value.slice la' (i + 1) lcap').ownBlock = (Value.slice la i lcap).ownBlock \/ (Value.slice la' (i + 1) lcap').ownBlock = some (w2.heap.size + 2)) :
  SubSt w (w3.setCell ⟨bx, 4, none⟩ (.slice la' (i + 1) lcap')) R m s L aa ac bx (i + 1) la' lcap' (xs ++ u.toList) := by
 have hs := hb.size
 have hs3 : w2.heap.size + 2 <= w3.heap.size := by have := hg.size; simpa using this
 have hbl := h.bel.size
 have hox := own_block_lt h.own
 have hbx := h.box.lt
 have hrx := h.res.lt
 have hbb := h.bxl
 have hss : (w3.setCell ⟨bx, 4, none⟩ (.slice la' (i + 1) lcap')).heap.size = w3.heap.size := by simp [World.setCell]
 have far : ∀ b, b < w2.heap.size -> (Value.slice la i lcap).ownBlock ≠ some b -> w3.heap[b]? = w2.heap[b]? := fun b hb1 hb2 =>
  (hg.block b (by simp; omega) (fun e => hb2 e.symm)).trans ((Below.heap_alloc _ _ _ (by simp; omega)).trans (Below.heap_alloc _ _ _ hb1))
 have far2 : ∀ b, b < wr.heap.size -> (Value.slice la i lcap).ownBlock ≠ some b -> w3.heap[b]? = wr.heap[b]? := fun b hb1 hb2 => (far b (by omega) hb2).trans (hb.block b hb1)
 have hnew : ∀ b, b < w2.heap.size -> (Value.slice la i lcap).ownBlock ≠ some b -> (Value.slice la' (i + 1) lcap').ownBlock ≠ some b := fun b h1 h2 e => by
  rcases hat with hat | hat
  ·rw [hat] at e; exact h2 e
  ·rw [hat] at e; simp only [Option.some.injEq] at e; omega
 have hnb : ∀ b, b <= bx -> (Value.slice la i lcap).ownBlock ≠ some b := fun b hb e => by have := hox _ e; omega
 have cell3 : ∀ b o, b ≠ bx -> (w3.setCell ⟨bx, 4, none⟩ (.slice la' (i + 1) lcap')).cell? ⟨b, o, none⟩ = w3.cell? ⟨b, o, none⟩ := fun b o hb => World.cell?_of_block (w := w3) (a := ⟨b, o, none⟩) (Below.heap_setCell _ _ _ _ hb)
 refine ⟨(h.res.of_block (far2 _ hrx (hnb _ (by omega)))).other (by show w.heap.size ≠ bx; omega) _, ?_, hbb, own_of_block hown (fun k hk => Below.heap_setCell _ _ _ _ (by have := (own_block_lt hown k hk).1; show k ≠ bx; omega)), ?_, ?_⟩
 ·have := (h.box.of_block (far2 _ hbx (hnb _ (by omega)))).set 4 (.slice la' (i + 1) lcap')
  simpa using this
 ·rw [take_more hk]
  have hne : ∀ b, wr.heap.size <= b -> (Value.slice la i lcap).ownBlock ≠ some b := fun b h1 e => by have := hox _ e; omega
  refine CopiesAt.snoc (h.kids.to (fun b hb' => ?_) (fun b o hb' => ?_)) (hu.to (fun b hb' => ?_) (fun b o hb' => ?_))
  ·rcases hb' with hb' | hb'
   ·exact .inl hb'
   ·exact .inr ⟨hb'.1, by rw [hss]; omega, hnew b (by omega) hb'.2.2⟩
  ·rcases hb' with hb' | hb'
   ·have := hR b hb'
    rw [cell3 b o (by omega)]
    exact World.cell?_of_block (w := wr) (a := ⟨b, o, none⟩) (far2 b (by omega) (hnb b (by omega)))
   ·rw [cell3 b o (by omega)]
    exact World.cell?_of_block (w := wr) (a := ⟨b, o, none⟩) (far2 b hb'.2.1 hb'.2.2)
  ·rcases hb' with hb' | hb'
   ·exact .inl hb'
   ·exact .inr ⟨by omega, by rw [hss]; omega, hnew b hb'.2 (hne b hb'.1)⟩
  ·rcases hb' with hb' | hb'
   ·have := hR b hb'
    rw [cell3 b o (by omega)]
    exact World.cell?_of_block (w := w2) (a := ⟨b, o, none⟩) (far b (by omega) (hnb b (by omega)))
   ·rw [cell3 b o (by omega)]
    exact World.cell?_of_block (w := w2) (a := ⟨b, o, none⟩) (far b hb'.2 (hne b hb'.1))
 ·exact ((h.bel.trans (hb.mono hbl)).trans ⟨hg.os, hg.tape, hg.output, by omega, fun k hk => far k (by omega) (hnb k (by omega))⟩).setCell (p := ⟨bx, 4, none⟩) (by show w.heap.size <= bx; omega) _
theorem SubSt.done {w wr w' : World} {R : Nat -> Prop} {m : Nat} {s : Sl} {L : List (T m)} {aa : Option Addr} {ac bx : Nat} {la : Option Addr} {lcap : Nat} {xs : List Value} (h : SubSt w wr R m s L aa ac bx L.length la lcap xs) (hR : ∀ b, R b -> b < w.heap.size) (hat : AttrsR w R aa s.attrs) (ha : s.attrs.length <= maxA) (hk : L.length <= maxK) (hc : s.attrs.length <= ac)
  (ht : Turn (fun b => b = w.heap.size) wr w') : TreeR w' (fun b => R b \/ (w.heap.size <= b /\ b < w'.heap.size)) (m + 1) #[.int .i64 s.kind, .string s.name, .slice aa s.attrs.length ac, .string s.text, .slice la L.length lcap] (mkN s L : Nd (T m)) /\ Below w.heap.size w w' := by
 have hs := ht.size
 have hbs := h.bel.size
 have hbb := h.bxl
 have hcell : ∀ b o, b ≠ w.heap.size -> b < wr.heap.size -> w'.cell? ⟨b, o, none⟩ = wr.cell? ⟨b, o, none⟩ := fun b o h1 h2 => World.cell?_of_block (w := wr) (a := ⟨b, o, none⟩) (ht.block b h2 h1)
 obtain ⟨hlc, hxl, hrow⟩ := row_cell h.own
 refine ⟨⟨aa, ac, la, lcap, rfl, ha, hk, hc, hlc, hat.to (fun b hb => .inl hb) (fun b o hb => ?_), fun i k hk => ?_⟩, h.bel.trans (ht.below hbs (fun k hk => by omega))⟩
 ·have := hR b hb
  rw [hcell b o (by omega) (by omega)]
  exact h.bel.cell (p := ⟨b, o, none⟩) this
 obtain ⟨_, _, hkids⟩ := h.kids
 obtain ⟨u, h1, h2, h3⟩ := hkids i k (by rw [List.take_length]; exact hk)
 have hj : ∀ j, j < 5 -> ∃ g, la = some ⟨g, 0, none⟩ /\ bx + 1 <= g /\ g < wr.heap.size /\ wr.cell? ⟨g, i * 5 + j, none⟩ = u[j]? := fun j hj => by
  have hu := h2 j hj
  rw [Array.getElem?_eq_getElem (by omega)] at hu
  obtain ⟨g, e1, e2, e3, e4⟩ := hrow _ _ hu
  exact ⟨g, e1, e2, e3, by rw [e4, Array.getElem?_eq_getElem (by omega)]⟩
 obtain ⟨g, rfl, hg1, hg2, _⟩ := hj 0 (by omega)
 refine ⟨g, 0, u, rfl, .inr ⟨by omega, by omega⟩, h1, fun j hj' => ?_, h3.to (fun b hb => ?_) (fun b o hb => ?_)⟩
 ·obtain ⟨g', e1, _, _, e4⟩ := hj j hj'
  cases e1
  rw [Nat.zero_add, hcell g _ (by omega) hg2, e4]
 ·rcases hb with hb | hb
  ·exact .inl hb
  ·exact .inr ⟨by omega, by omega⟩
 ·rcases hb with hb | hb
  ·have := hR b hb
   exact hcell b o (by omega) (by omega)
  ·exact hcell b o (by omega) hb.2.1
end Go.Proofs.YtjkgjckkglfokaaGreat.Gr
