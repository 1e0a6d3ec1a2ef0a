/- Move, by the document. -/
import Derived.Test.YtjkgjckkglfokaaGreatU01
import Derived.Test.YtjkgjckkglfokaaGreatU09
import Derived.Deep.RegionHeld3
namespace Go.Proofs.YtjkgjckkglfokaaGreat.Gr
open Go.RowKit
set_option linter.unusedVariables false
set_option linter.unusedSimpArgs false
set_option maxRecDepth 100000
set_option maxHeartbeats 1000000
def movD (D : Dc) (n : Nat) (wh : Int) (a : Nat) : Dc × Int :=
 if isPlaceB wh a = false then (D, 1) else match sl D n with
 | none => (D, 8)
 | some s => if (placeE D wh a).2 = 8 then (D, 8) else if (ups D a).contains n = true then (D, 34) else if (placeE D wh a).2 ≠ 0 then (D, (placeE D wh a).2)
  else if 64 < (ups D (placeE D wh a).1).length + hgt D n then (D, 32) else (putD (outD D n s) n (placeE D wh a).1 wh a, 0)
theorem placeE_live {D : Dc} (hw : WF D) {wh : Int} {a : Nat} (he : (placeE D wh a).2 = 0) : ((placeE D wh a).1 = 0 \/ ∃ s, sl D (placeE D wh a).1 = some s) /\ (a = 0 \/ ∃ s, sl D a = some s) /\ (¬ wh <= 2 -> a ≠ 0 -> a ∈ lst D (placeE D wh a).1) := by
 unfold placeE at *
 by_cases h0 : a = 0
 ·rw [if_pos h0]
  exact ⟨.inl rfl, .inl h0, fun _ h => absurd h0 h⟩
 ·rw [if_neg h0] at he ⊢
  cases hs : sl D a with
  | none => rw [hs] at he; simp at he
  | some s =>
   rw [hs] at he
   simp only at he ⊢
   refine ⟨?_, .inr ⟨s, rfl⟩, ?_⟩
   ·by_cases h2 : wh <= 2
    ·rw [if_pos h2] at he ⊢
     by_cases h3 : s.kind = 2
     ·rw [if_pos h3] at he; simp at he
     ·rw [if_neg h3]; exact .inr ⟨s, hs⟩
    ·rw [if_neg h2]
     obtain ⟨lv, hl⟩ := hw.lev
     exact (dep_par hl hs).2
   ·intro h2 _
    rw [if_neg h2]
    exact hw.up a s hs
theorem rmov_ok (w : World) (Q : Nat -> Prop) (rb : Nat) (D : Dc) (n : Nat) (wh : Int) (a : Nat) (s : Sl) (p : Nat) (hd : RDoc w Q rb D) (hw : WF D) (hh : n < 18446744073709551616) (hal : a < 18446744073709551616) (hs : sl D n = some s) (hpl : isPlaceB wh a = true) (hpe : placeE D wh a = (p, 0)) (hup : (ups D a).contains n = false) (hht : ¬ 64 < (ups D p).length + hgt D n) :
  Calls Tryz.prog 39 #[.pointer (some ⟨rb, 0, none⟩), .int .u64 (n : Int), .int .i64 wh, .int .u64 (a : Int)] w (RPost w Q rb (putD (outD D n s) n p wh a) 0) := by
 obtain ⟨lv, hl⟩ := hw.lev
 have hpz := placeE_live hw (wh := wh) (a := a) (by rw [hpe])
 rw [hpe] at hpz
 obtain ⟨hp1, ha1, hin⟩ := hpz
 replace hp1 : p = 0 \/ ∃ s, sl D p = some s := hp1
 replace hin : ¬ wh <= 2 -> a ≠ 0 -> a ∈ lst D p := hin
 obtain ⟨-, hn0, i, hai, hsi, -⟩ := hw.lt hs
 have hpl2 := hw.ltz hp1
 obtain ⟨k, hk, hkx, hkl⟩ := idxH_mem (hw.up n s hs)
 have hsm : (atI D.S n).isSome = true := by simp [hai]
 have hplc := rplace_any w _ rb D wh a hd.view hw hal hpl
 rw [hpe] at hplc
 have HLV : Hid (∀ W, Below w.heap.size w W -> Calls Tryz.prog 9 #[.pointer (some ⟨rb, 0, none⟩), .int .u64 (n : Int)] W fun e w' => e = .returned (.bool true) /\ w' = W) := fun W hb => by
  have := rlive_any W _ rb D n (hd.view.below hb) hw.fits hh
  rw [hsm] at this
  exact this
 have HWI : Hid (∀ W, Below w.heap.size w W -> Calls Tryz.prog 77 #[.pointer (some ⟨rb, 0, none⟩), .int .u64 (a : Int), .int .u64 (n : Int)] W fun e w' => e = .returned (.bool false) /\ Below W.heap.size W w') := fun W hb => rwithin_any W _ rb D a n (hd.view.below hb) hw ha1 (by omega) false hup
 have HSU : Hid (∀ W, Below w.heap.size w W -> Calls Tryz.prog 78 #[.pointer (some ⟨rb, 0, none⟩), .int .u64 (n : Int)] W (SubP W (fun b => Q b \/ b = rb) 64 (subT D 63 n))) := fun W hb => rsub_any D _ rb lv hw hl 63 W n s (hd.view.below hb) hs (by omega)
 have HLE : Hid (∀ W, Below w.heap.size w W -> Calls Tryz.prog 73 #[.pointer (some ⟨rb, 0, none⟩), .int .u64 (p : Int)] W fun e w' => e = .returned (.int .i64 (((ups D p).length : Int) - 1)) /\ Below W.heap.size W w') := fun W hb => rlevel_any W _ rb D p (hd.view.below hb) hw hp1
 have HCO := sub_counts hw hl 63 n s hs (by omega)
 obtain ⟨HOK, HNDE, HHTE⟩ := HCO
 have hnd : ndT 64 (subT D 63 n) <= 4096 := by rw [HNDE]; exact (kids_len hw hs).2
 have hhg : hgt D n <= 64 := hgts_le D 64 n
 have HSZ : Hid (∀ (W : World) (v : Array Value) (hi : Nat), TreeAt W 0 hi 64 v (subT D 63 n) -> hi <= W.heap.size -> Calls Tryz.prog 72 #[.agg v] W (MeaP W (ndT 64 (subT D 63 n)) (hgt D n))) := fun W v hi ht hle => by
  have := rsizeT_any 64 W v (subT D 63 n) 0 hi ht hle HOK hnd (by rw [HHTE]; omega)
  rw [HHTE] at this
  exact this
 have e1 : outD D n s = setL D s.parent ((lst D s.parent).take k ++ (lst D s.parent).drop (k + 1)) := by unfold outD; rw [hk, Int.toNat_natCast]
 have hsp := (dep_par hl hs).2
 have HROUT : Hid (∀ w base Q rb g cap ra rcap L, RdS w base Q rb D g cap ra rcap L -> Calls Tryz.prog 79 #[.pointer (some ⟨rb, 0, none⟩), .int .u64 (n : Int)] w (OutP w base Q rb (outD D n s) g cap)) := fun w base Q rb g cap ra rcap L hr => by
  rw [e1]
  exact rout_any w base Q rb D g cap ra rcap L n s k hr hw hs hk hkl
 have hmem : ∀ x ∈ lst D p, x ≠ n -> x ∈ lst (outD D n s) p := fun x hx hxn => by
  rw [e1]
  by_cases hps : p = s.parent
  ·rw [hps, lst_setL_eq hsp]
   exact mem_cut hkx (by rw [<- hps]; exact hx) hxn
  ·rw [lst_setL_ne hps]
   exact hx
 have hlen : (lst (outD D n s) p).length <= 4096 := by
  have hlp : (lst D p).length <= 4096 := lst_len hw hp1
  rw [e1]
  by_cases hps : p = s.parent
  ·rw [hps, lst_setL_eq hsp]
   rw [hps] at hlp
   simp only [List.length_append, List.length_take, List.length_drop]
   omega
  ·rw [lst_setL_ne hps]
   exact hlp
 have hlive : ∀ x, (∃ t, sl D x = some t) -> ∃ t, sl (outD D n s) x = some t := fun x ⟨t, ht⟩ => by
  obtain ⟨t', h1, _⟩ := sl_setL (p := s.parent) (l' := (lst D s.parent).take k ++ (lst D s.parent).drop (k + 1)) ht
  rw [e1]
  exact ⟨t', h1⟩
 obtain ⟨sn, hsn⟩ := hlive n ⟨s, hs⟩
 obtain ⟨i1, hai1, -, -, -⟩ := sl_live hsn
 have hwh : wh = 1 \/ wh = 2 \/ ((wh = 3 \/ wh = 4) /\ a ∈ lst (outD D n s) p) := by
  simp only [isPlaceB, decide_eq_true_eq] at hpl
  rcases hpl with h | h | ⟨h, ha0⟩
  ·exact .inl h
  ·exact .inr (.inl h)
  ·refine .inr (.inr ⟨h, hmem a (hin (by omega) ha0) ?_⟩)
   rintro rfl
   rw [ups_step hl hs] at hup
   simp at hup
 have hpp1 : p = 0 \/ ∃ t, sl (outD D n s) p = some t := by
  rcases hp1 with h | h
  ·exact .inl h
  ·exact .inr (hlive p h)
 have HRPUT : Hid (∀ w base Q rb g cap ra rcap L, RdS w base Q rb (outD D n s) g cap ra rcap L -> Calls Tryz.prog 76 #[.pointer (some ⟨rb, 0, none⟩), .int .u64 (n : Int), .int .u64 (p : Int), .int .i64 wh, .int .u64 (a : Int)] w (OutP w base Q rb (putD (outD D n s) n p wh a) g cap)) := fun w base Q rb g cap ra rcap L hr =>
  rput_any w base Q rb (outD D n s) g cap ra rcap L n p a i1 wh hr (by rw [e1]; exact hw.fits.setL _ _) hpp1 hpl2 hh hlen hai1 hwh
 have hul : (ups D p).length <= 64 := by rw [ups_length hl hp1]; exact dep_le hl hp1
 have hl4 := hw.fits.len
 have hrb := hd.rbl
 have HQL := hid hd.lt
 have HNRB := hid hd.nrb
 have HDB : Hid (∀ W, Below w.heap.size w W -> RDoc W Q rb D) := fun W hb => hd.below hb
 clear hd hai hsi hsm hs hkx hk hw hkl hl hp1 ha1 hin HOK HNDE HHTE hmem hlen hlive hsn hai1 hwh hpp1 e1 hsp hpe hpl hup
 generalize putD (outD D n s) n p wh a = E2 at *
 generalize outD D n s = E1 at *
 generalize subT D 63 n = tr at *
 generalize hUU : (ups D p).length = U at *
 generalize hgt D n = HG at *
 generalize ndT 64 tr = ND at *
 clear hUU
 by_cases h0 : a = 0
 ·have hz : ((a : Int) != 0) = false := by simp [h0]
  clear h0
  go_enter Tryz.func39, Tryz.ntmps39
  go_wp2_with fail
  refine hplc.mono ?_
  rintro e w1 ⟨rfl, hb1⟩
  have hlv := HLV.out w1 hb1
  have HB1 := hid hb1
  have hs1 := hb1.size
  clear hb1 hplc
  go_wp2_with fail
  refine hlv.mono ?_
  rintro e w2 ⟨rfl, rfl⟩
  clear hlv
  have hsu := HSU.out w2 HB1.out
  go_wp2_with fail
  refine hsu.mono ?_
  rintro e w4 ⟨u, rfl, htu, hb4⟩
  have hsz0 := HB1.out.size
  have hs4 := hb4.size
  have HB4 := hid (HB1.out.trans (hb4.mono hsz0))
  have htat : TreeAt w4 0 w4.heap.size 64 u tr := (htu.to (R' := fun b => 0 <= b /\ b < w4.heap.size) (fun b hb => ⟨Nat.zero_le _, by
   rcases hb with (hb | hb) | hb
   ·have := HQL.out b hb; omega
   ·omega
   ·exact hb.2⟩) (fun _ _ _ => rfl)).toAt
  obtain ⟨kk', nm', a'', al'', ac'', tx', ka3, kl3, kc3, rfl⟩ := htu.form
  have hsz := HSZ.out (w4.alloc (.cells #[.int .i64 kk', .string nm', .slice a'' al'' ac'', .string tx', .slice ka3 kl3 kc3] 31)) _ w4.heap.size (htat.below (below_new' w4 _) (Nat.le_refl _)) (by simp)
  clear htu htat hb4 hsu
  go_wp2_with fail
  refine hsz.mono ?_
  rintro e w5 ⟨rfl, hb5⟩
  have hs5 : w4.heap.size + 1 <= w5.heap.size := by have := hb5.size; simpa using this
  have HB5 := hid ((HB4.out.alloc (by omega) _).trans (hb5.mono (by simp; omega)))
  have hle := HLE.out w5 HB5.out
  clear hb5 hsz
  go_wp2_with fail
  refine hle.mono ?_
  rintro e w6 ⟨rfl, hb6⟩
  have hs6 := hb6.size
  have HB6 := hid (HB5.out.trans (hb6.mono (by omega)))
  have hd1 := HDB.out w6 HB6.out
  obtain ⟨sa, scap, ra, rcap, hh1, hsc, hrc, hsl, hra⟩ := hd1.head
  obtain ⟨L, hL, hv, hnews⟩ := hsl.row
  have hz0 : w6.cell? ⟨rb, 0, none⟩ = some (.slice sa D.S.length scap) := by rw [hh1.cell]; rfl
  have HD := hid hd1
  have HH := hid hh1
  have HRA := hid hra
  have HV := hid hv
  have HL := hid hL
  have HN : Hid (∀ j u, (rowOf D.S L)[j]? = some u -> ∃ ad, sa = some ad /\ (w6.alloc (.cells #[] 100)).cell? (ad.add j) = some u) := fun j u hu => by
   obtain ⟨ad, e1, e2⟩ := hnews j u hu
   refine ⟨ad, e1, ?_⟩
   rw [World.cell?_of_block (w := w6) (Below.heap_alloc _ _ _ (World.block_lt_of_cell? w6 _ e2))]
   exact e2
  clear hd1 hh1 hra hv hL hnews hsl hb6 HDB hle HLE HSZ HSU HWI HLV
  have hrb1 : rb < w6.heap.size := by omega
  have tok : True := trivial
  go_wp2_with (at_builtin; have _t := tok; refine wpList_app rfl _ _ rfl Tryz.underlying22 info75 rfl (by decide) w6.heap.size (.slice (some ⟨w6.heap.size, 0, none⟩) 0 0) 0 [] rfl (own_new w6 100 8) sa D.S.length scap (rowOf D.S L) rfl (rowOf_len HL.out) HN.out (rows_vals HV.out) (by unfold maxLen; omega) (by omega) (by simp) ?_; intro v1 w7 hown1 hg1 hnil1 hat1; clear tok _t; rw [Nat.zero_add, List.nil_append] at hown1; obtain ⟨g, cap2, hv1, hrds, htn, hhd⟩ := HD.out.copied HH.out hrc HRA.out HL.out HV.out (below_new' w6 _) (fun k hk => by simp only [Value.ownBlock, Option.some.injEq] at hk; omega) (by simp) hown1 hg1 hnil1; subst hv1; have hc0 := hhd.cell; have hf0 := hhd.frozen; have HRS := hid hrds; have HT := hid htn; have hgb := hrds.gb; clear hrds htn hown1 hg1 hnil1 hat1 hhd)
  refine (HROUT.out _ _ _ _ _ _ _ _ _ HRS.out).mono ?_
  rintro e w8 ⟨rfl, ⟨Q', ra', rcap', L', hr8, hq8⟩, ht8⟩
  have hsz2 := HT.out.size
  have hsz8 := ht8.size
  have HT8 : Hid (Turn (fun b => b = rb) w6 w8) := ((HT.out.mono (B := fun b => b = rb \/ b = g) (fun _ _ h => .inl h)).trans ht8).mono (fun b hb h => by
   rcases h with h | h
   ·exact h
   ·omega)
  have HQ8 : Hid (∀ b, Q' b -> Q b \/ w.heap.size <= b) := fun b hb => by
   rcases hq8 b hb with h | h
   ·exact .inl h
   ·exact .inr (by omega)
  have hput := HRPUT.out _ _ _ _ _ _ _ _ _ hr8
  clear hr8 hq8 ht8 HRS HT HROUT hc0 hf0 HN HL HV HRA HH HD hz0 hrc hsc
  go_wp2_with fail
  refine hput.mono ?_
  rintro e w9 ⟨rfl, ⟨Q9, ra9, rcap9, L9, hr9, hq9⟩, ht9⟩
  have hsz9 := ht9.size
  have HT9 : Hid (Turn (fun b => b = rb) w6 w9) := ((HT8.out.mono (B := fun b => b = rb \/ b = g) (fun _ _ h => .inl h)).trans ht9).mono (fun b hb h => by
   rcases h with h | h
   ·exact h
   ·omega)
  have HQ9 : Hid (∀ b, Q9 b -> Q b \/ w.heap.size <= b) := fun b hb => by
   rcases hq9 b hb with h | h
   ·exact HQ8.out b h
   ·exact .inr (by omega)
  have HR9 := hid hr9
  clear hr9 hq9 ht9 hput HRPUT
  go_wp2
  go_ret
  exact HR9.out.close HB6.out HT9.out HQ9.out HQL.out HNRB.out hrb
 ·have hz : ((a : Int) != 0) = true := by simp; omega
  clear h0
  go_enter Tryz.func39, Tryz.ntmps39
  go_wp2_with fail
  refine hplc.mono ?_
  rintro e w1 ⟨rfl, hb1⟩
  have hlv := HLV.out w1 hb1
  have HB1 := hid hb1
  have hs1 := hb1.size
  clear hb1 hplc
  go_wp2_with fail
  refine hlv.mono ?_
  rintro e w2 ⟨rfl, rfl⟩
  clear hlv
  have hwi := HWI.out w2 HB1.out
  go_wp2_with fail
  refine hwi.mono ?_
  rintro e w3 ⟨rfl, hb3⟩
  have hs3 := hb3.size
  have HB3 := hid (HB1.out.trans (hb3.mono hs1))
  clear hb3 hwi
  have hsu := HSU.out w3 HB3.out
  go_wp2_with fail
  refine hsu.mono ?_
  rintro e w4 ⟨u, rfl, htu, hb4⟩
  have hsz0 := HB3.out.size
  have hs4 := hb4.size
  have HB4 := hid (HB3.out.trans (hb4.mono hsz0))
  have htat : TreeAt w4 0 w4.heap.size 64 u tr := (htu.to (R' := fun b => 0 <= b /\ b < w4.heap.size) (fun b hb => ⟨Nat.zero_le _, by
   rcases hb with (hb | hb) | hb
   ·have := HQL.out b hb; omega
   ·omega
   ·exact hb.2⟩) (fun _ _ _ => rfl)).toAt
  obtain ⟨kk', nm', a'', al'', ac'', tx', ka3, kl3, kc3, rfl⟩ := htu.form
  have hsz := HSZ.out (w4.alloc (.cells #[.int .i64 kk', .string nm', .slice a'' al'' ac'', .string tx', .slice ka3 kl3 kc3] 31)) _ w4.heap.size (htat.below (below_new' w4 _) (Nat.le_refl _)) (by simp)
  clear htu htat hb4 hsu
  go_wp2_with fail
  refine hsz.mono ?_
  rintro e w5 ⟨rfl, hb5⟩
  have hs5 : w4.heap.size + 1 <= w5.heap.size := by have := hb5.size; simpa using this
  have HB5 := hid ((HB4.out.alloc (by omega) _).trans (hb5.mono (by simp; omega)))
  have hle := HLE.out w5 HB5.out
  clear hb5 hsz
  go_wp2_with fail
  refine hle.mono ?_
  rintro e w6 ⟨rfl, hb6⟩
  have hs6 := hb6.size
  have HB6 := hid (HB5.out.trans (hb6.mono (by omega)))
  have hd1 := HDB.out w6 HB6.out
  obtain ⟨sa, scap, ra, rcap, hh1, hsc, hrc, hsl, hra⟩ := hd1.head
  obtain ⟨L, hL, hv, hnews⟩ := hsl.row
  have hz0 : w6.cell? ⟨rb, 0, none⟩ = some (.slice sa D.S.length scap) := by rw [hh1.cell]; rfl
  have HD := hid hd1
  have HH := hid hh1
  have HRA := hid hra
  have HV := hid hv
  have HL := hid hL
  have HN : Hid (∀ j u, (rowOf D.S L)[j]? = some u -> ∃ ad, sa = some ad /\ (w6.alloc (.cells #[] 100)).cell? (ad.add j) = some u) := fun j u hu => by
   obtain ⟨ad, e1, e2⟩ := hnews j u hu
   refine ⟨ad, e1, ?_⟩
   rw [World.cell?_of_block (w := w6) (Below.heap_alloc _ _ _ (World.block_lt_of_cell? w6 _ e2))]
   exact e2
  clear hd1 hh1 hra hv hL hnews hsl hb6 HDB hle HLE HSZ HSU HWI HLV
  have hrb1 : rb < w6.heap.size := by omega
  have tok : True := trivial
  go_wp2_with (at_builtin; have _t := tok; refine wpList_app rfl _ _ rfl Tryz.underlying22 info75 rfl (by decide) w6.heap.size (.slice (some ⟨w6.heap.size, 0, none⟩) 0 0) 0 [] rfl (own_new w6 100 8) sa D.S.length scap (rowOf D.S L) rfl (rowOf_len HL.out) HN.out (rows_vals HV.out) (by unfold maxLen; omega) (by omega) (by simp) ?_; intro v1 w7 hown1 hg1 hnil1 hat1; clear tok _t; rw [Nat.zero_add, List.nil_append] at hown1; obtain ⟨g, cap2, hv1, hrds, htn, hhd⟩ := HD.out.copied HH.out hrc HRA.out HL.out HV.out (below_new' w6 _) (fun k hk => by simp only [Value.ownBlock, Option.some.injEq] at hk; omega) (by simp) hown1 hg1 hnil1; subst hv1; have hc0 := hhd.cell; have hf0 := hhd.frozen; have HRS := hid hrds; have HT := hid htn; have hgb := hrds.gb; clear hrds htn hown1 hg1 hnil1 hat1 hhd)
  refine (HROUT.out _ _ _ _ _ _ _ _ _ HRS.out).mono ?_
  rintro e w8 ⟨rfl, ⟨Q', ra', rcap', L', hr8, hq8⟩, ht8⟩
  have hsz2 := HT.out.size
  have hsz8 := ht8.size
  have HT8 : Hid (Turn (fun b => b = rb) w6 w8) := ((HT.out.mono (B := fun b => b = rb \/ b = g) (fun _ _ h => .inl h)).trans ht8).mono (fun b hb h => by
   rcases h with h | h
   ·exact h
   ·omega)
  have HQ8 : Hid (∀ b, Q' b -> Q b \/ w.heap.size <= b) := fun b hb => by
   rcases hq8 b hb with h | h
   ·exact .inl h
   ·exact .inr (by omega)
  have hput := HRPUT.out _ _ _ _ _ _ _ _ _ hr8
  clear hr8 hq8 ht8 HRS HT HROUT hc0 hf0 HN HL HV HRA HH HD hz0 hrc hsc
  go_wp2_with fail
  refine hput.mono ?_
  rintro e w9 ⟨rfl, ⟨Q9, ra9, rcap9, L9, hr9, hq9⟩, ht9⟩
  have hsz9 := ht9.size
  have HT9 : Hid (Turn (fun b => b = rb) w6 w9) := ((HT8.out.mono (B := fun b => b = rb \/ b = g) (fun _ _ h => .inl h)).trans ht9).mono (fun b hb h => by
   rcases h with h | h
   ·exact h
   ·omega)
  have HQ9 : Hid (∀ b, Q9 b -> Q b \/ w.heap.size <= b) := fun b hb => by
   rcases hq9 b hb with h | h
   ·exact HQ8.out b h
   ·exact .inr (by omega)
  have HR9 := hid hr9
  clear hr9 hq9 ht9 hput HRPUT
  go_wp2
  go_ret
  exact HR9.out.close HB6.out HT9.out HQ9.out HQL.out HNRB.out hrb
end Go.Proofs.YtjkgjckkglfokaaGreat.Gr
/- Move, by the document: whatever is asked. -/
namespace Go.Proofs.YtjkgjckkglfokaaGreat.Gr
open Go.RowKit
set_option linter.unusedVariables false
set_option linter.unusedSimpArgs false
set_option maxRecDepth 100000
set_option maxHeartbeats 400000
theorem placeE_err (D : Dc) (wh : Int) (a : Nat) : (placeE D wh a).2 = 0 \/ (placeE D wh a).2 = 8 \/ (placeE D wh a).2 = 31 := by
 unfold placeE
 split
 ·exact .inl rfl
 ·split
  ·exact .inr (.inl rfl)
  ·split
   ·split
    ·exact .inr (.inr rfl)
    ·exact .inl rfl
   ·exact .inl rfl
theorem placeE_at {D : Dc} {wh : Int} {a : Nat} (h : (placeE D wh a).2 ≠ 8) : a = 0 \/ ∃ s, sl D a = some s := by
 unfold placeE at h
 by_cases h0 : a = 0
 ·exact .inl h0
 ·rw [if_neg h0] at h
  cases hs : sl D a with
  | none => rw [hs] at h; simp at h
  | some s => exact .inr ⟨s, rfl⟩
theorem rmov_arg (w : World) (Q : Nat -> Prop) (rb : Nat) (D : Dc) (n : Nat) (wh : Int) (a : Nat) (hd : RDoc w Q rb D) (hpl : isPlaceB wh a = false) :
  Calls Tryz.prog 39 #[.pointer (some ⟨rb, 0, none⟩), .int .u64 (n : Int), .int .i64 wh, .int .u64 (a : Int)] w (RPost w Q rb D 1) := by
 have hplc := rplace_arg w rb wh a hpl
 have HD := hid hd
 clear hd hpl
 go_enter Tryz.func39, Tryz.ntmps39
 go_wp2_with fail
 refine hplc.mono ?_
 rintro e w1 ⟨rfl, hb1⟩
 have HB1 := hid hb1
 clear hb1 hplc
 go_wp2
 go_ret
 exact rpost_same HD.out HB1.out
theorem rmov_dead (w : World) (Q : Nat -> Prop) (rb : Nat) (D : Dc) (n : Nat) (wh : Int) (a : Nat) (hd : RDoc w Q rb D) (hw : WF D) (hh : n < 18446744073709551616) (hal : a < 18446744073709551616) (hpl : isPlaceB wh a = true) (hs : sl D n = none) :
  Calls Tryz.prog 39 #[.pointer (some ⟨rb, 0, none⟩), .int .u64 (n : Int), .int .i64 wh, .int .u64 (a : Int)] w (RPost w Q rb D 8) := by
 have hplc := rplace_any w _ rb D wh a hd.view hw hal hpl
 have hz1 : ((placeE D wh a).2 == 1) = false := by have := placeE_err D wh a; simp; omega
 have HLV : Hid (∀ W, Below w.heap.size w W -> Calls Tryz.prog 9 #[.pointer (some ⟨rb, 0, none⟩), .int .u64 (n : Int)] W fun e w' => e = .returned (.bool false) /\ w' = W) := fun W hb => by
  have := rlive_any W _ rb D n (hd.view.below hb) hw.fits hh
  rw [sl_none hs] at this
  exact this
 have HD := hid hd
 clear hd hpl hw hs
 generalize (placeE D wh a).1 = p at *
 generalize (placeE D wh a).2 = z at *
 go_enter Tryz.func39, Tryz.ntmps39
 go_wp2_with fail
 refine hplc.mono ?_
 rintro e w1 ⟨rfl, hb1⟩
 have hlv := HLV.out w1 hb1
 have HB1 := hid hb1
 clear hb1 hplc
 go_wp2_with fail
 refine hlv.mono ?_
 rintro e w2 ⟨rfl, rfl⟩
 go_wp2
 go_ret
 exact rpost_same HD.out HB1.out
theorem rmov_node (w : World) (Q : Nat -> Prop) (rb : Nat) (D : Dc) (n : Nat) (wh : Int) (a : Nat) (s : Sl) (hd : RDoc w Q rb D) (hw : WF D) (hh : n < 18446744073709551616) (hal : a < 18446744073709551616) (hpl : isPlaceB wh a = true) (hs : sl D n = some s) (hz : (placeE D wh a).2 = 8) :
  Calls Tryz.prog 39 #[.pointer (some ⟨rb, 0, none⟩), .int .u64 (n : Int), .int .i64 wh, .int .u64 (a : Int)] w (RPost w Q rb D 8) := by
 obtain ⟨i, hai, -, -, -⟩ := sl_live hs
 have hplc := rplace_any w _ rb D wh a hd.view hw hal hpl
 rw [hz] at hplc
 have HLV : Hid (∀ W, Below w.heap.size w W -> Calls Tryz.prog 9 #[.pointer (some ⟨rb, 0, none⟩), .int .u64 (n : Int)] W fun e w' => e = .returned (.bool true) /\ w' = W) := fun W hb => by
  have := rlive_any W _ rb D n (hd.view.below hb) hw.fits hh
  rw [hai] at this
  exact this
 have HD := hid hd
 clear hd hpl hw hs hz hai
 generalize (placeE D wh a).1 = p at *
 go_enter Tryz.func39, Tryz.ntmps39
 go_wp2_with fail
 refine hplc.mono ?_
 rintro e w1 ⟨rfl, hb1⟩
 have hlv := HLV.out w1 hb1
 have HB1 := hid hb1
 clear hb1 hplc
 go_wp2_with fail
 refine hlv.mono ?_
 rintro e w2 ⟨rfl, rfl⟩
 go_wp2
 go_ret
 exact rpost_same HD.out HB1.out
theorem rmov_into (w : World) (Q : Nat -> Prop) (rb : Nat) (D : Dc) (n : Nat) (wh : Int) (a : Nat) (s : Sl) (b : Bool) (hd : RDoc w Q rb D) (hw : WF D) (hh : n < 18446744073709551616) (hal : a < 18446744073709551616) (hpl : isPlaceB wh a = true) (hs : sl D n = some s) (hz : (placeE D wh a).2 ≠ 8) (h0 : a ≠ 0) (hup : (ups D a).contains n = b) (hb : b = true \/ (placeE D wh a).2 = 31) :
  Calls Tryz.prog 39 #[.pointer (some ⟨rb, 0, none⟩), .int .u64 (n : Int), .int .i64 wh, .int .u64 (a : Int)] w (RPost w Q rb D (if b = true then 34 else 31)) := by
 obtain ⟨-, hn0, i, hai, -, -⟩ := hw.lt hs
 have hplc := rplace_any w _ rb D wh a hd.view hw hal hpl
 have hz1 : ((placeE D wh a).2 == 1) = false := by have := placeE_err D wh a; simp; omega
 have hz8 : ((placeE D wh a).2 == 8) = false := by simp; exact hz
 have ha0 : ((a : Int) != 0) = true := by simp; omega
 have HLV : Hid (∀ W, Below w.heap.size w W -> Calls Tryz.prog 9 #[.pointer (some ⟨rb, 0, none⟩), .int .u64 (n : Int)] W fun e w' => e = .returned (.bool true) /\ w' = W) := fun W hb => by
  have := rlive_any W _ rb D n (hd.view.below hb) hw.fits hh
  rw [hai] at this
  exact this
 have HWI : Hid (∀ W, Below w.heap.size w W -> Calls Tryz.prog 77 #[.pointer (some ⟨rb, 0, none⟩), .int .u64 (a : Int), .int .u64 (n : Int)] W fun e w' => e = .returned (.bool b) /\ Below W.heap.size W w') := fun W hb => rwithin_any W _ rb D a n (hd.view.below hb) hw (placeE_at hz) (by omega) b hup
 have HD := hid hd
 clear hd hpl hw hs hz hai h0 hup
 generalize (placeE D wh a).1 = p at *
 generalize (placeE D wh a).2 = z at *
 cases b
 ·have hz31 : z = 31 := by
   rcases hb with h | h
   ·cases h
   ·exact h
  subst hz31
  clear hb hz1 hz8
  go_enter Tryz.func39, Tryz.ntmps39
  go_wp2_with fail
  refine hplc.mono ?_
  rintro e w1 ⟨rfl, hb1⟩
  have hlv := HLV.out w1 hb1
  have HB1 := hid hb1
  clear hb1 hplc
  go_wp2_with fail
  refine hlv.mono ?_
  rintro e w2 ⟨rfl, rfl⟩
  have hwi := HWI.out w2 HB1.out
  have hs2 := HB1.out.size
  go_wp2_with fail
  refine hwi.mono ?_
  rintro e w3 ⟨rfl, hb3⟩
  have HB3 := hid (HB1.out.trans (hb3.mono hs2))
  clear hb3 hwi
  go_wp2
  go_ret
  exact rpost_same HD.out HB3.out
 ·clear hb
  go_enter Tryz.func39, Tryz.ntmps39
  go_wp2_with fail
  refine hplc.mono ?_
  rintro e w1 ⟨rfl, hb1⟩
  have hlv := HLV.out w1 hb1
  have HB1 := hid hb1
  clear hb1 hplc
  go_wp2_with fail
  refine hlv.mono ?_
  rintro e w2 ⟨rfl, rfl⟩
  have hwi := HWI.out w2 HB1.out
  have hs2 := HB1.out.size
  go_wp2_with fail
  refine hwi.mono ?_
  rintro e w3 ⟨rfl, hb3⟩
  have HB3 := hid (HB1.out.trans (hb3.mono hs2))
  clear hb3 hwi
  go_wp2
  go_ret
  exact rpost_same HD.out HB3.out
end Go.Proofs.YtjkgjckkglfokaaGreat.Gr
/- Move, by the document: too deep; all cases. -/
namespace Go.Proofs.YtjkgjckkglfokaaGreat.Gr
open Go.RowKit
set_option linter.unusedVariables false
set_option linter.unusedSimpArgs false
set_option maxRecDepth 100000
set_option maxHeartbeats 1000000
theorem rmov_deep (w : World) (Q : Nat -> Prop) (rb : Nat) (D : Dc) (n : Nat) (wh : Int) (a : Nat) (s : Sl) (p : Nat) (hd : RDoc w Q rb D) (hw : WF D) (hh : n < 18446744073709551616) (hal : a < 18446744073709551616) (hs : sl D n = some s) (hpl : isPlaceB wh a = true) (hpe : placeE D wh a = (p, 0)) (hup : (ups D a).contains n = false) (hht : 64 < (ups D p).length + hgt D n) :
  Calls Tryz.prog 39 #[.pointer (some ⟨rb, 0, none⟩), .int .u64 (n : Int), .int .i64 wh, .int .u64 (a : Int)] w (RPost w Q rb D 32) := by
 obtain ⟨lv, hl⟩ := hw.lev
 have hpz := placeE_live hw (wh := wh) (a := a) (by rw [hpe])
 rw [hpe] at hpz
 obtain ⟨hp1, ha1, hin⟩ := hpz
 replace hp1 : p = 0 \/ ∃ s, sl D p = some s := hp1
 replace hin : ¬ wh <= 2 -> a ≠ 0 -> a ∈ lst D p := hin
 obtain ⟨-, hn0, i, hai, hsi, -⟩ := hw.lt hs
 have hpl2 := hw.ltz hp1
 obtain ⟨k, hk, hkx, hkl⟩ := idxH_mem (hw.up n s hs)
 have hsm : (atI D.S n).isSome = true := by simp [hai]
 have hplc := rplace_any w _ rb D wh a hd.view hw hal hpl
 rw [hpe] at hplc
 have HLV : Hid (∀ W, Below w.heap.size w W -> Calls Tryz.prog 9 #[.pointer (some ⟨rb, 0, none⟩), .int .u64 (n : Int)] W fun e w' => e = .returned (.bool true) /\ w' = W) := fun W hb => by
  have := rlive_any W _ rb D n (hd.view.below hb) hw.fits hh
  rw [hsm] at this
  exact this
 have HWI : Hid (∀ W, Below w.heap.size w W -> Calls Tryz.prog 77 #[.pointer (some ⟨rb, 0, none⟩), .int .u64 (a : Int), .int .u64 (n : Int)] W fun e w' => e = .returned (.bool false) /\ Below W.heap.size W w') := fun W hb => rwithin_any W _ rb D a n (hd.view.below hb) hw ha1 (by omega) false hup
 have HSU : Hid (∀ W, Below w.heap.size w W -> Calls Tryz.prog 78 #[.pointer (some ⟨rb, 0, none⟩), .int .u64 (n : Int)] W (SubP W (fun b => Q b \/ b = rb) 64 (subT D 63 n))) := fun W hb => rsub_any D _ rb lv hw hl 63 W n s (hd.view.below hb) hs (by omega)
 have HLE : Hid (∀ W, Below w.heap.size w W -> Calls Tryz.prog 73 #[.pointer (some ⟨rb, 0, none⟩), .int .u64 (p : Int)] W fun e w' => e = .returned (.int .i64 (((ups D p).length : Int) - 1)) /\ Below W.heap.size W w') := fun W hb => rlevel_any W _ rb D p (hd.view.below hb) hw hp1
 have HCO := sub_counts hw hl 63 n s hs (by omega)
 obtain ⟨HOK, HNDE, HHTE⟩ := HCO
 have hnd : ndT 64 (subT D 63 n) <= 4096 := by rw [HNDE]; exact (kids_len hw hs).2
 have hhg : hgt D n <= 64 := hgts_le D 64 n
 have HSZ : Hid (∀ (W : World) (v : Array Value) (hi : Nat), TreeAt W 0 hi 64 v (subT D 63 n) -> hi <= W.heap.size -> Calls Tryz.prog 72 #[.agg v] W (MeaP W (ndT 64 (subT D 63 n)) (hgt D n))) := fun W v hi ht hle => by
  have := rsizeT_any 64 W v (subT D 63 n) 0 hi ht hle HOK hnd (by rw [HHTE]; omega)
  rw [HHTE] at this
  exact this
 have hul : (ups D p).length <= 64 := by rw [ups_length hl hp1]; exact dep_le hl hp1
 have hl4 := hw.fits.len
 have hrb := hd.rbl
 have HQL := hid hd.lt
 have HNRB := hid hd.nrb
 have HDB : Hid (∀ W, Below w.heap.size w W -> RDoc W Q rb D) := fun W hb => hd.below hb
 have HDD := hid hd
 clear hd hai hsi hsm hs hkx hk hw hkl hl hp1 ha1 hin HOK HNDE HHTE hpe hpl hup
 generalize subT D 63 n = tr at *
 generalize hUU : (ups D p).length = U at *
 generalize hgt D n = HG at *
 generalize ndT 64 tr = ND at *
 clear hUU
 by_cases h0 : a = 0
 ·have hz : ((a : Int) != 0) = false := by simp [h0]
  clear h0
  go_enter Tryz.func39, Tryz.ntmps39
  go_wp2_with fail
  refine hplc.mono ?_
  rintro e w1 ⟨rfl, hb1⟩
  have hlv := HLV.out w1 hb1
  have HB1 := hid hb1
  have hs1 := hb1.size
  clear hb1 hplc
  go_wp2_with fail
  refine hlv.mono ?_
  rintro e w2 ⟨rfl, rfl⟩
  clear hlv
  have hsu := HSU.out w2 HB1.out
  go_wp2_with fail
  refine hsu.mono ?_
  rintro e w4 ⟨u, rfl, htu, hb4⟩
  have hsz0 := HB1.out.size
  have hs4 := hb4.size
  have HB4 := hid (HB1.out.trans (hb4.mono hsz0))
  have htat : TreeAt w4 0 w4.heap.size 64 u tr := (htu.to (R' := fun b => 0 <= b /\ b < w4.heap.size) (fun b hb => ⟨Nat.zero_le _, by
   rcases hb with (hb | hb) | hb
   ·have := HQL.out b hb; omega
   ·omega
   ·exact hb.2⟩) (fun _ _ _ => rfl)).toAt
  obtain ⟨kk', nm', a'', al'', ac'', tx', ka3, kl3, kc3, rfl⟩ := htu.form
  have hsz := HSZ.out (w4.alloc (.cells #[.int .i64 kk', .string nm', .slice a'' al'' ac'', .string tx', .slice ka3 kl3 kc3] 31)) _ w4.heap.size (htat.below (below_new' w4 _) (Nat.le_refl _)) (by simp)
  clear htu htat hb4 hsu
  go_wp2_with fail
  refine hsz.mono ?_
  rintro e w5 ⟨rfl, hb5⟩
  have hs5 : w4.heap.size + 1 <= w5.heap.size := by have := hb5.size; simpa using this
  have HB5 := hid ((HB4.out.alloc (by omega) _).trans (hb5.mono (by simp; omega)))
  have hle := HLE.out w5 HB5.out
  clear hb5 hsz
  go_wp2_with fail
  refine hle.mono ?_
  rintro e w6 ⟨rfl, hb6⟩
  have hs6 := hb6.size
  have HB6 := hid (HB5.out.trans (hb6.mono (by omega)))
  clear hb6 hle HDB
  go_wp2
  go_ret
  exact rpost_same HDD.out HB6.out
 ·have hz : ((a : Int) != 0) = true := by simp; omega
  clear h0
  go_enter Tryz.func39, Tryz.ntmps39
  go_wp2_with fail
  refine hplc.mono ?_
  rintro e w1 ⟨rfl, hb1⟩
  have hlv := HLV.out w1 hb1
  have HB1 := hid hb1
  have hs1 := hb1.size
  clear hb1 hplc
  go_wp2_with fail
  refine hlv.mono ?_
  rintro e w2 ⟨rfl, rfl⟩
  clear hlv
  have hwi := HWI.out w2 HB1.out
  go_wp2_with fail
  refine hwi.mono ?_
  rintro e w3 ⟨rfl, hb3⟩
  have hs3 := hb3.size
  have HB3 := hid (HB1.out.trans (hb3.mono hs1))
  clear hb3 hwi
  have hsu := HSU.out w3 HB3.out
  go_wp2_with fail
  refine hsu.mono ?_
  rintro e w4 ⟨u, rfl, htu, hb4⟩
  have hsz0 := HB3.out.size
  have hs4 := hb4.size
  have HB4 := hid (HB3.out.trans (hb4.mono hsz0))
  have htat : TreeAt w4 0 w4.heap.size 64 u tr := (htu.to (R' := fun b => 0 <= b /\ b < w4.heap.size) (fun b hb => ⟨Nat.zero_le _, by
   rcases hb with (hb | hb) | hb
   ·have := HQL.out b hb; omega
   ·omega
   ·exact hb.2⟩) (fun _ _ _ => rfl)).toAt
  obtain ⟨kk', nm', a'', al'', ac'', tx', ka3, kl3, kc3, rfl⟩ := htu.form
  have hsz := HSZ.out (w4.alloc (.cells #[.int .i64 kk', .string nm', .slice a'' al'' ac'', .string tx', .slice ka3 kl3 kc3] 31)) _ w4.heap.size (htat.below (below_new' w4 _) (Nat.le_refl _)) (by simp)
  clear htu htat hb4 hsu
  go_wp2_with fail
  refine hsz.mono ?_
  rintro e w5 ⟨rfl, hb5⟩
  have hs5 : w4.heap.size + 1 <= w5.heap.size := by have := hb5.size; simpa using this
  have HB5 := hid ((HB4.out.alloc (by omega) _).trans (hb5.mono (by simp; omega)))
  have hle := HLE.out w5 HB5.out
  clear hb5 hsz
  go_wp2_with fail
  refine hle.mono ?_
  rintro e w6 ⟨rfl, hb6⟩
  have hs6 := hb6.size
  have HB6 := hid (HB5.out.trans (hb6.mono (by omega)))
  clear hb6 hle HDB
  go_wp2
  go_ret
  exact rpost_same HDD.out HB6.out
theorem rmov_any (w : World) (Q : Nat -> Prop) (rb : Nat) (D : Dc) (n : Nat) (wh : Int) (a : Nat) (hd : RDoc w Q rb D) (hw : WF D) (hh : n < 18446744073709551616) (hal : a < 18446744073709551616) :
  Calls Tryz.prog 39 #[.pointer (some ⟨rb, 0, none⟩), .int .u64 (n : Int), .int .i64 wh, .int .u64 (a : Int)] w (RPost w Q rb (movD D n wh a).1 (movD D n wh a).2) := by
 cases hpl : isPlaceB wh a with
 | false =>
  have e : movD D n wh a = (D, 1) := by simp [movD, hpl]
  rw [e]
  exact rmov_arg w Q rb D n wh a hd hpl
 | true =>
  cases hs : sl D n with
  | none =>
   have e : movD D n wh a = (D, 8) := by simp [movD, hpl, hs]
   rw [e]
   exact rmov_dead w Q rb D n wh a hd hw hh hal hpl hs
  | some s =>
   by_cases h8 : (placeE D wh a).2 = 8
   ·have e : movD D n wh a = (D, 8) := by simp [movD, hpl, hs, h8]
    rw [e]
    exact rmov_node w Q rb D n wh a s hd hw hh hal hpl hs h8
   ·cases hup : (ups D a).contains n with
    | true =>
     have e : movD D n wh a = (D, 34) := by simp only [movD, hpl, hs, h8, hup]; simp
     rw [e]
     have h0 : a ≠ 0 := by rintro rfl; rw [ups_zero] at hup; simp at hup
     exact rmov_into w Q rb D n wh a s true hd hw hh hal hpl hs h8 h0 hup (.inl rfl)
    | false =>
     by_cases hz : (placeE D wh a).2 = 0
     ·have hpe : placeE D wh a = ((placeE D wh a).1, 0) := by rw [<- hz]
      by_cases hht : 64 < (ups D (placeE D wh a).1).length + hgt D n
      ·have e : movD D n wh a = (D, 32) := by simp only [movD, hpl, hs, hup, hz, hht]; simp
       rw [e]
       exact rmov_deep w Q rb D n wh a s _ hd hw hh hal hs hpl hpe hup hht
      ·have e : movD D n wh a = (putD (outD D n s) n (placeE D wh a).1 wh a, 0) := by simp only [movD, hpl, hs, hup, hz, hht]; simp
       rw [e]
       exact rmov_ok w Q rb D n wh a s _ hd hw hh hal hs hpl hpe hup hht
     ·have h31 : (placeE D wh a).2 = 31 := by have := placeE_err D wh a; omega
      have e : movD D n wh a = (D, 31) := by simp only [movD, hpl, hs, hup, h31]; simp
      rw [e]
      have h0 : a ≠ 0 := by rintro rfl; simp [placeE] at h31
      exact rmov_into w Q rb D n wh a s false hd hw hh hal hpl hs h8 h0 hup (.inr h31)
end Go.Proofs.YtjkgjckkglfokaaGreat.Gr
/- The least index that no node has, by the document. -/
namespace Go.Proofs.YtjkgjckkglfokaaGreat.Gr
open Go.RowKit
set_option linter.unusedVariables false
set_option linter.unusedSimpArgs false
set_option maxRecDepth 100000
set_option maxHeartbeats 1000000
def freeB (s : Sl) : Bool := !s.live && decide (s.gen < 4294967295)
def freeD (D : Dc) : Nat × Dc := match D.S.findIdx? freeB with
 | some i => (i, D)
 | none => (D.S.length, { D with S := D.S ++ [zeroSl 0] })
theorem freeB_bool {s : Sl} {b : Bool} (h : freeB s = b) (hl : s.live = false) : decide ((s.gen : Int) < 4294967295) = b := by
 unfold freeB at h
 rw [hl] at h
 rw [<- h]
 by_cases e : s.gen < 4294967295
 ·simp [e]; omega
 ·simp [e]; omega
theorem rfree_some (w : World) (R : Nat -> Prop) (db : Nat) (D : Dc) (n : Nat) (hv : View w R db D) (hf : Fits D) (hi : D.S.findIdx? freeB = some n) :
  Calls Tryz.prog 107 #[.pointer (some ⟨db, 0, none⟩)] w fun e w' => e = .returned (.int .i64 (n : Int)) /\ w' = w := by
 have hl := hf.len
 obtain ⟨a, cap, h1, hcl, -⟩ := hv.head
 have hix := List.findIdx?_eq_some_iff_getElem.1 hi
 obtain ⟨hnl, hyes, hno⟩ := hix
 have HV := hid hv
 have HY : Hid (∀ s, D.S[n]? = some s -> freeB s = true) := fun s hs => by
  rw [List.getElem?_eq_getElem hnl] at hs
  cases hs
  exact hyes
 have HNO : Hid (∀ (j : Nat) (s : Sl), j < n -> D.S[j]? = some s -> freeB s = false) := fun j s hj hs => by
  have hjl : j < D.S.length := by omega
  rw [List.getElem?_eq_getElem hjl] at hs
  cases hs
  simpa using hno j hj
 clear hv hf hi hyes hno
 go_enter Tryz.func107, Tryz.ntmps107
 go_wp2
 go_loop [3] (fun iv => ∃ (i : Nat), i <= n /\ iv = .int .i64 (i : Int)) (fun iv => D.S.length - (intOf iv).toNat)
 case atStart => exact ⟨0, by omega, rfl⟩
 case round =>
  obtain ⟨i, hi, rfl⟩ := hrel
  have hlt : i < D.S.length := by omega
  obtain ⟨s, hs⟩ : ∃ s, D.S[i]? = some s := ⟨_, List.getElem?_eq_getElem hlt⟩
  obtain ⟨b, o, cap', aa, ac, ka, kc, h1', -, hbR, c0, c1, -⟩ := HV.out.slot hs
  rw [h1] at h1'
  simp only [Option.some.injEq, Value.slice.injEq, true_and] at h1'
  obtain ⟨rfl, rfl⟩ := h1'
  by_cases he : i = n
  ·subst he
   have hfb := HY.out s hs
   have hlv : s.live = false := by
    unfold freeB at hfb
    cases h : s.live
    ·rfl
    ·rw [h] at hfb; simp at hfb
   have hb := freeB_bool hfb hlv
   rw [hlv] at c1
   clear hfb hlv hs HY HNO HV
   go_wp2
   go_ret
   exact ⟨rfl, rfl⟩
  ·have hfb := HNO.out i s (by omega) hs
   cases hlv : s.live
   ·have hb := freeB_bool hfb hlv
    rw [hlv] at c1
    clear hfb hlv hs
    go_wp2
    go_round
    case rel => exact ⟨i + 1, by omega, by go_num⟩
    case measure => simp [intOf]; omega
   ·rw [hlv] at c1
    clear hfb hlv hs
    go_wp2
    go_round
    case rel => exact ⟨i + 1, by omega, by go_num⟩
    case measure => simp [intOf]; omega
end Go.Proofs.YtjkgjckkglfokaaGreat.Gr
/- A new index, by the document. -/
namespace Go.Proofs.YtjkgjckkglfokaaGreat.Gr
open Go.RowKit
set_option linter.unusedVariables false
set_option linter.unusedSimpArgs false
theorem rowOf_snoc {S : List Sl} {L : List (Value × Value)} (h : L.length = S.length) (s : Sl) (p : Value × Value) : rowOf (S ++ [s]) (L ++ [p]) = rowOf S L ++ slotCells s p := by
 unfold rowOf
 rw [List.zip_append h.symm, List.flatMap_append]
 simp
end Go.Proofs.YtjkgjckkglfokaaGreat.Gr
/- Image, by the document. -/
namespace Go.Proofs.YtjkgjckkglfokaaGreat.Gr
open Go.RowKit
set_option linter.unusedVariables false
set_option linter.unusedSimpArgs false
end Go.Proofs.YtjkgjckkglfokaaGreat.Gr
/- DropAttr, by the document. -/
namespace Go.Proofs.YtjkgjckkglfokaaGreat.Gr
open Go.RowKit
set_option linter.unusedVariables false
set_option linter.unusedSimpArgs false
set_option maxRecDepth 100000
set_option maxHeartbeats 1000000
def dropD (D : Dc) (h : Nat) (nm : ByteArray) : Dc × Int :=
 match atI D.S h with
 | none => (D, 8)
 | some i => match D.S[i]? with
  | none => (D, 8)
  | some s => if s.kind = 1 then (match s.attrs.findIdx? (fun p => decide (p.1 = nm)) with
    | some k => ({ D with S := D.S.set i { s with attrs := s.attrs.take k ++ s.attrs.drop (k + 1) } }, 0)
    | none => (D, 35)) else (D, 30)
def sliceAt2 (b o c k : Nat) : Option Addr := if c = k then some ⟨b, o, none⟩ else some ⟨b, o + k * 2, none⟩
theorem ite_sliceAt2 (b o c k : Nat) : (if c = k then some (⟨b, o, none⟩ : Addr) else some ⟨b, o + k * 2, none⟩) = sliceAt2 b o c k := rfl
attribute [local go_sem] ite_sliceAt2
theorem AttrsR.takeA {w : World} {R : Nat -> Prop} {a : Option Addr} {l : List (ByteArray × ByteArray)} (h : AttrsR w R a l) (k : Nat) : AttrsR w R a (l.take k) := by
 intro i p hp
 by_cases e : i < k
 ·rw [List.getElem?_take_of_lt e] at hp
  exact h i p hp
 ·rw [List.getElem?_eq_none (by simp; omega)] at hp; cases hp
theorem AttrsR.dropA {w : World} {R : Nat -> Prop} {b o c : Nat} {l : List (ByteArray × ByteArray)} (h : AttrsR w R (some ⟨b, o, none⟩) l) (hc : l.length <= c) (k : Nat) : AttrsR w R (sliceAt2 b o c k) (l.drop k) := by
 intro i p hp
 rw [List.getElem?_drop] at hp
 have hlt := (List.getElem?_eq_some_iff.1 hp).1
 obtain ⟨b', o', e, hR, h1, h2⟩ := h (k + i) p hp
 simp only [Option.some.injEq, Addr.mk.injEq, and_true] at e
 obtain ⟨rfl, rfl⟩ := e
 refine ⟨b, o + k * 2, by unfold sliceAt2; rw [if_neg (by omega)], hR, ?_, ?_⟩
 ·rw [<- h1]; congr 2; omega
 ·rw [<- h2]; congr 2; omega
theorem str_ne {a b : ByteArray} (h : a ≠ b) : (a.toList == b.toList) = false := by
 rw [beq_eq_false_iff_ne]
 intro e
 apply h
 rw [ByteArray.toList_eq, ByteArray.toList_eq] at e
 obtain ⟨⟨a⟩⟩ := a
 obtain ⟨⟨b⟩⟩ := b
 simpa using e
theorem attrCells_app (l m : List (ByteArray × ByteArray)) : attrCells (l ++ m) = attrCells l ++ attrCells m := by
 induction l with
 | nil => rfl
 | cons a r ih => simp [attrCells, ih]
theorem rdrop_some (w : World) (Q : Nat -> Prop) (rb : Nat) (D : Dc) (h : Nat) (nm : ByteArray) (i : Nat) (s : Sl) (n : Nat) (hd : RDoc w Q rb D) (hf : Fits D) (hh : h < 18446744073709551616) (ha : atI D.S h = some i) (hs : D.S[i]? = some s) (hk : s.kind = 1) (hal : s.attrs.length <= 32) (hi : s.attrs.findIdx? (fun p => decide (p.1 = nm)) = some n) :
  Calls Tryz.prog 44 #[.pointer (some ⟨rb, 0, none⟩), .int .u64 (h : Int), .string nm] w (RPost w Q rb { D with S := D.S.set i { s with attrs := s.attrs.take n ++ s.attrs.drop (n + 1) } } 0) := by
 have hc := change_some w Q rb D h i s hd hf hh ha hs
 rw [hk] at hc
 have hl4 := hf.len
 have hi1 : (i : Int) < ((D.S.length : Nat) : Int) := by have := (List.getElem?_eq_some_iff.1 hs).1; omega
 have HS := hid hs
 have hix := List.findIdx?_eq_some_iff_getElem.1 hi
 obtain ⟨hnl, hyes, hno⟩ := hix
 have HY : Hid (∀ p, s.attrs[n]? = some p -> p.1 = nm) := fun p hp => by
  rw [List.getElem?_eq_getElem hnl] at hp
  cases hp
  simpa using hyes
 have HNO : Hid (∀ (j : Nat) (p : ByteArray × ByteArray), j < n -> s.attrs[j]? = some p -> p.1 ≠ nm) := fun j p hj hp => by
  have hjl : j < s.attrs.length := by omega
  rw [List.getElem?_eq_getElem hjl] at hp
  cases hp
  simpa using hno j hj
 clear hd ha hs hk hyes hno hi
 go_enter Tryz.func44, Tryz.ntmps44
 go_wp2_with fail
 refine hc.mono ?_
 rintro e w1 ⟨rfl, ⟨g, cap, ra, rcap, L, hr⟩, ht⟩
 obtain ⟨p, hp, hvv, hcap, hhd, hcl⟩ := hr.slot HS.out
 obtain ⟨aa, ac, ka, kc, rfl, l1, l2, v1, v2⟩ := hvv
 have hc4 := (hcl 4 _ rfl).1
 have hf4 := (hcl 4 _ rfl).2
 have hgs := hr.gb
 have HR0 := hid hr
 have HT0 := hid ht
 have HP := hid hp
 have HA := hid v1
 have HQ : Hid (∀ b, Q b -> b < w1.heap.size) := fun b hb => (hr.qne b hb).2
 clear hr ht hc hp v1 v2 hcl
 go_wp2
 go_loop [10] (fun iv => ∃ (j : Nat), j <= n /\ iv = .int .i64 (j : Int)) (fun iv => s.attrs.length - (intOf iv).toNat)
 case atStart => exact ⟨0, by omega, rfl⟩
 case round =>
  obtain ⟨j, hj, rfl⟩ := hrel
  have hlt : j < s.attrs.length := by omega
  obtain ⟨q, hq⟩ : ∃ q, s.attrs[j]? = some q := ⟨_, List.getElem?_eq_getElem hlt⟩
  obtain ⟨b, o, rfl, hbQ, d1, d2⟩ := HA.out j q hq
  have hbl := HQ.out b hbQ
  by_cases he : j = n
  ·subst he
   have hqe := HY.out q hq
   rw [hqe] at d1
   clear hqe
   have i1 : (0 : Int) <= (j : Int) := by omega
   have i2 : (j : Int) <= ((s.attrs.length : Nat) : Int) := by omega
   have i3 : (j : Int) + 1 <= ((s.attrs.length : Nat) : Int) := by omega
   have i4 : ((s.attrs.length : Nat) : Int) <= (ac : Int) := by omega
   have i5 : (j : Int) <= (ac : Int) := by omega
   have i6 : (j : Int) + 1 <= (ac : Int) := by omega
   have i7 : (0 : Int) <= (j : Int) + 1 := by omega
   have i8 : ¬ (j : Int) + 1 < 0 := by omega
   have i9 : ¬ ((s.attrs.length : Nat) : Int) < (j : Int) + 1 := by omega
   have i10 : ¬ (ac : Int) < ((s.attrs.length : Nat) : Int) := by omega
   have i11 : ((j : Int) + 1).toNat = j + 1 := by omega
   have i12 : (((s.attrs.length : Nat) : Int) - ((j : Int) + 1)).toNat = s.attrs.length - (j + 1) := by omega
   have hwr : IntKind.i64.wrap ((j : Int) + 1) = (j : Int) + 1 := by rw [IntKind.wrap_i64]; omega
   go_wp2
   have HB3 : Hid (Below w1.heap.size w1 (w1.alloc (.cells #[] 124)).drew) := (below_new' w1 _).drew
   have HC : Hid (∀ W, Below w1.heap.size w1 W -> ∀ b o, Q b -> W.cell? ⟨b, o, none⟩ = w1.cell? ⟨b, o, none⟩) := fun W hb b o hR => hb.cell (p := ⟨b, o, none⟩) (HQ.out b hR)
   have HN1 := hid (((HA.out.to (fun _ h => h) (HC.out _ HB3.out)).takeA j).news)
   have HN2 : Hid (∀ W, Below w1.heap.size w1 W -> ∀ m u, (attrCells (s.attrs.drop (j + 1)))[m]? = some u -> ∃ ad, sliceAt2 b o ac (j + 1) = some ad /\ W.cell? (ad.add m) = some u) := fun W hb => ((HA.out.to (fun _ h => h) (HC.out _ hb)).dropA l1 (j + 1)).news
   have hT1 : Hid ((attrCells (s.attrs.take j)).length = j * 2) := by show _ = _; rw [attrCells_length]; simp; omega
   have hT2 : Hid ((attrCells (s.attrs.drop (j + 1))).length = (s.attrs.length - (j + 1)) * 2) := by show _ = _; rw [attrCells_length]; simp
   have HAP : Hid (attrCells (s.attrs.take j ++ s.attrs.drop (j + 1)) = attrCells (s.attrs.take j) ++ attrCells (s.attrs.drop (j + 1))) := attrCells_app _ _
   have hrbs : rb < w1.heap.size := HR0.out.head.lt
   have hgr : ¬ g = rb := by have := HR0.out.rbl; omega
   have hgr2 : ¬ rb = g := by omega
   clear HC hq HY HNO
   have tok1 : True := trivial
   have tok2 : True := trivial
   go_region_held3 (fun W => W.cell? ⟨rb, 0, none⟩ = some (.slice (some ⟨g, 0, none⟩) D.S.length cap)) (go_keep)
    (first
     | (have _t := tok1; refine step_app (by rfl) _ _ (by rfl) Tryz.underlying28 info128 rfl (by decide) w1.heap.size (.slice (some ⟨w1.heap.size, 0, none⟩) 0 0) 0 [] (by rfl) (by exact own_of_block (own_new w1 124 2) (fun _ _ => rfl)) (some ⟨b, o, none⟩) j ac (attrCells (s.attrs.take j)) (by rfl) hT1.out HN1.out (attrCells_one _) (by unfold maxLen; omega) (by omega) (by simp) ?_; intro v1 w4 hown1 hg1 _ hat1; obtain ⟨va1, vc1, hv1⟩ := own_slice hown1; subst hv1; rw [Nat.zero_add, List.nil_append] at hown1; rw [Nat.zero_add]; have HO1 := hid hown1; have HB4 := hid (HB3.out.grown hg1 (by simp) (fun k hk => by simp only [Value.ownBlock, Option.some.injEq] at hk; omega)); have hh4 : w4.cell? ⟨rb, 0, none⟩ = some (.slice (some ⟨g, 0, none⟩) D.S.length cap) := (HB4.out.cell (p := ⟨rb, 0, none⟩) hrbs).trans hhd; clear hown1 hg1 hat1 tok1 _t)
     | (have _t := tok2; refine step_app (by rfl) _ _ (by rfl) Tryz.underlying28 info128 rfl (by decide) w1.heap.size (.slice va1 j vc1) j (attrCells (s.attrs.take j)) (by rfl) HO1.out (sliceAt2 b o ac (j + 1)) (s.attrs.length - (j + 1)) (ac - (j + 1)) (attrCells (s.attrs.drop (j + 1))) (by rfl) hT2.out (HN2.out _ HB4.out) (attrCells_one _) (by unfold maxLen; omega) (by omega) HB4.out.size ?_; intro v2 w5 hown2 hg2 _ hat2; obtain ⟨va2, vc2, hv2⟩ := own_slice hown2; subst hv2; have HO2 : Hid (w5.ownsRow w1.heap.size 124 2 (.slice va2 (j + (s.attrs.length - (j + 1))) vc2) (j + (s.attrs.length - (j + 1))) (attrCells (s.attrs.take j ++ s.attrs.drop (j + 1)))) := (by rw [HAP.out]; exact hown2); have HB5 := hid (HB4.out.grown hg2 HB4.out.size (fun k hk => (own_block_lt HO1.out k hk).1)); have hh5 : w5.cell? ⟨rb, 0, none⟩ = some (.slice (some ⟨g, 0, none⟩) D.S.length cap) := (HB5.out.cell (p := ⟨rb, 0, none⟩) hrbs).trans hhd; have hc5 : w5.cell? ⟨g, i * 8 + 4, none⟩ = some (.slice (some ⟨b, o, none⟩) s.attrs.length ac) := (HB5.out.cell (p := ⟨g, _, none⟩) hgs.2).trans hc4; have hf5 : w5.frozen? ⟨g, i * 8 + 4, none⟩ = false := (HB5.out.frozen (p := ⟨g, _, none⟩) hgs.2).trans hf4; have hg5 : g < w5.heap.size := Nat.lt_of_lt_of_le hgs.2 HB5.out.size; generalize hNN : j + (s.attrs.length - (j + 1)) = N at HO2 ⊢; have HNN := hid hNN; clear hown2 hg2 hat2 tok2 _t hNN))
   have hbs5 := HB5.out.size
   have HO3 := own_block_lt HO2.out
   have HRW : Hid (RdS w5 w.heap.size (fun b => Q b \/ (Value.slice va2 N vc2).ownBlock = some b) rb D g cap ra rcap L) := (HR0.out.below HB5.out).widen (fun _ h => .inl h) (fun b hb => by
    rcases hb with hb | hb
    ·exact (HR0.out.below HB5.out).qne b hb
    ·have := HO3 b hb
     exact ⟨by omega, this.2⟩) (fun hb => by
    rcases hb with hb | hb
    ·exact HR0.out.nrb hb
    ·have := HO3 rb hb
     omega)
   have hAR := attrs_row HO2.out rfl
   have HST : Hid (RdS (w5.setCell ⟨g, i * 8 + 4, none⟩ (.slice va2 N vc2)) w.heap.size (fun b => Q b \/ (Value.slice va2 N vc2).ownBlock = some b) rb { D with S := D.S.set i { s with attrs := s.attrs.take j ++ s.attrs.drop (j + 1) } } g cap ra rcap (L.set i (.slice va2 N vc2, .slice ka s.kids.length kc))) := by
    refine HRW.out.store HS.out HP.out (by omega) rfl ?_
    obtain ⟨a', ac', ka', kc', e', _, m2, _, m4⟩ := HRW.out.vals i s _ HS.out HP.out
    cases e'
    exact ⟨va2, vc2, ka, kc, by rw [hAR.2.1], by rw [<- hAR.2.1]; exact hAR.2.2, m2, hAR.1.to (fun b hb => .inr hb.1) (fun _ _ _ => rfl), m4⟩
   have HTT : Hid (Turn (fun b => b = rb) w (w5.setCell ⟨g, i * 8 + 4, none⟩ (.slice va2 N vc2))) := (HT0.out.then HB5.out HT0.out.size).setNew (p := ⟨g, _, none⟩) hgs.1 _
   have HO4 : Hid (∀ b, (Value.slice va2 N vc2).ownBlock = some b -> w.heap.size <= b /\ b < w5.heap.size) := fun b hb => by
    have := HO3 b hb
    have := HT0.out.size
    omega
   have HQW : Hid (∀ b, Q b -> b < w5.heap.size) := fun b hb => by have := HQ.out b hb; omega
   have HNR := hid HR0.out.nrb
   have hrb0 := HR0.out.rbl
   clear hAR HRW HO3 HO2 HO1 HB4 HB5 HN1 HN2 HB3 HA
   go_wp2
   go_ret
   have hdn := HST.out.done
   refine ⟨rfl, HTT.out, hdn.widen (fun b hb => ?_) (fun b hb => ?_) (fun hb => ?_)⟩
   ·rcases hb with (hb | hb) | hb
    ·exact .inl hb
    ·exact .inr ⟨(HO4.out b hb).1, by simpa [World.setCell] using (HO4.out b hb).2⟩
    ·exact .inr hb
   ·rcases hb with hb | hb
    ·simpa [World.setCell] using HQW.out b hb
    ·exact hb.2
   ·rcases hb with hb | hb
    ·exact HNR.out hb
    ·omega
  ·have hqe := HNO.out j q (by omega) hq
   have hb : (q.1.toList == nm.toList) = false := str_ne hqe
   clear hq hqe
   go_wp2
   go_round
   case rel => exact ⟨j + 1, by omega, by go_num⟩
   case measure => simp [intOf]; omega
theorem rdrop_absent (w : World) (Q : Nat -> Prop) (rb : Nat) (D : Dc) (h : Nat) (nm : ByteArray) (i : Nat) (s : Sl) (hd : RDoc w Q rb D) (hf : Fits D) (hh : h < 18446744073709551616) (ha : atI D.S h = some i) (hs : D.S[i]? = some s) (hk : s.kind = 1) (hal : s.attrs.length <= 32) (hi : s.attrs.findIdx? (fun p => decide (p.1 = nm)) = none) :
  Calls Tryz.prog 44 #[.pointer (some ⟨rb, 0, none⟩), .int .u64 (h : Int), .string nm] w (RPost w Q rb D 35) := by
 have hc := change_some w Q rb D h i s hd hf hh ha hs
 rw [hk] at hc
 have hl4 := hf.len
 have hi1 : (i : Int) < ((D.S.length : Nat) : Int) := by have := (List.getElem?_eq_some_iff.1 hs).1; omega
 have HS := hid hs
 have hno := List.findIdx?_eq_none_iff.1 hi
 have HNO : Hid (∀ (j : Nat) (p : ByteArray × ByteArray), s.attrs[j]? = some p -> p.1 ≠ nm) := fun j p hp => by
  simpa using hno p (List.mem_of_getElem? hp)
 clear hd ha hs hk hno hi
 go_enter Tryz.func44, Tryz.ntmps44
 go_wp2_with fail
 refine hc.mono ?_
 rintro e w1 ⟨rfl, ⟨g, cap, ra, rcap, L, hr⟩, ht⟩
 obtain ⟨p, hp, hvv, hcap, hhd, hcl⟩ := hr.slot HS.out
 obtain ⟨aa, ac, ka, kc, rfl, l1, l2, v1, v2⟩ := hvv
 have hc4 := (hcl 4 _ rfl).1
 have hgs := hr.gb
 have HR0 := hid hr
 have HT0 := hid ht
 have HA := hid v1
 have HQ : Hid (∀ b, Q b -> b < w1.heap.size) := fun b hb => (hr.qne b hb).2
 clear hr ht hc hp v1 v2 hcl
 go_wp2
 go_loop [10] (fun iv => ∃ (j : Nat), j <= s.attrs.length /\ iv = .int .i64 (j : Int)) (fun iv => s.attrs.length - (intOf iv).toNat)
 case atStart => exact ⟨0, by omega, rfl⟩
 case round =>
  obtain ⟨j, hj, rfl⟩ := hrel
  by_cases hlt : j < s.attrs.length
  ·obtain ⟨q, hq⟩ : ∃ q, s.attrs[j]? = some q := ⟨_, List.getElem?_eq_getElem hlt⟩
   obtain ⟨b, o, rfl, hbQ, d1, d2⟩ := HA.out j q hq
   have hbl := HQ.out b hbQ
   have hqe := HNO.out j q hq
   have hb : (q.1.toList == nm.toList) = false := str_ne hqe
   clear hq hqe
   go_wp2
   go_round
   case rel => exact ⟨j + 1, by omega, by go_num⟩
   case measure => simp [intOf]; omega
  ·have hje : j = s.attrs.length := by omega
   subst hje
   go_wp2
   go_ret
   exact rds_post HR0.out HT0.out
theorem rdrop_any (w : World) (Q : Nat -> Prop) (rb : Nat) (D : Dc) (h : Nat) (nm : ByteArray) (hd : RDoc w Q rb D) (hw : WF D) (hh : h < 18446744073709551616) :
  Calls Tryz.prog 44 #[.pointer (some ⟨rb, 0, none⟩), .int .u64 (h : Int), .string nm] w (RPost w Q rb (dropD D h nm).1 (dropD D h nm).2) := by
 have hf := hw.fits
 cases ha : atI D.S h with
 | none =>
  have e1 : dropD D h nm = (D, 8) := by simp only [dropD, ha]
  rw [e1]
  have hc := change_none w Q rb D h 1 hd hf hh ha
  have HD := hid hd
  clear hd ha e1 hw
  go_enter Tryz.func44, Tryz.ntmps44
  go_wp2_with fail
  refine hc.mono ?_
  rintro e w1 ⟨rfl, rfl⟩
  go_wp2
  go_ret
  exact rpost_same HD.out (Below.refl _ _)
 | some i =>
  obtain ⟨s, hsl, hs⟩ := sl_of_at ha
  by_cases hk : s.kind = 1
  ·cases hi : s.attrs.findIdx? (fun p => decide (p.1 = nm)) with
   | some n =>
    have e1 : dropD D h nm = ({ D with S := D.S.set i { s with attrs := s.attrs.take n ++ s.attrs.drop (n + 1) } }, 0) := by simp only [dropD, ha, hs, hk, if_true, hi]
    rw [e1]
    exact rdrop_some w Q rb D h nm i s n hd hf hh ha hs hk (hw.alen hsl) hi
   | none =>
    have e1 : dropD D h nm = (D, 35) := by simp only [dropD, ha, hs, hk, if_true, hi]
    rw [e1]
    exact rdrop_absent w Q rb D h nm i s hd hf hh ha hs hk (hw.alen hsl) hi
  ·have e1 : dropD D h nm = (D, 30) := by simp only [dropD, ha, hs, if_neg hk]
   rw [e1]
   have hc := change_kind w Q rb D h i s 1 hd hf hh ha hs hk
   have HD := hid hd
   clear hd ha e1 hs hk hsl hw
   go_enter Tryz.func44, Tryz.ntmps44
   go_wp2_with fail
   refine hc.mono ?_
   rintro e w1 ⟨rfl, rfl⟩
   go_wp2
   go_ret
   exact rpost_same HD.out (Below.refl _ _)
end Go.Proofs.YtjkgjckkglfokaaGreat.Gr
/- What is the same is told to be the same: handles, attributes. -/
namespace Go.Proofs.YtjkgjckkglfokaaGreat.Gr
open Go.RowKit
set_option linter.unusedVariables false
set_option linter.unusedSimpArgs false
end Go.Proofs.YtjkgjckkglfokaaGreat.Gr
/- What is the same is told to be the same: trees, forests. -/
namespace Go.Proofs.YtjkgjckkglfokaaGreat.Gr
open Go.RowKit
set_option linter.unusedVariables false
set_option linter.unusedSimpArgs false
attribute [local go_sem] Bel.cell Bel.fz
end Go.Proofs.YtjkgjckkglfokaaGreat.Gr
/- Kids, Get: the program's. -/
namespace Go.Proofs.YtjkgjckkglfokaaGreat.Gr
open Go.RowKit
set_option linter.unusedVariables false
set_option linter.unusedSimpArgs false
set_option maxRecDepth 100000
set_option maxHeartbeats 400000
def KidP (w : World) (l : List Nat) (e : Ending) (w' : World) : Prop :=
 ∃ a cap, e = .returned (.tuple #[.slice a l.length cap, .int .i64 0]) /\ w'.ownsRow w.heap.size 27 1 (.slice a l.length cap) l.length (hvals l) /\ Below w.heap.size w w'
theorem pkids_some (w : World) (R : Nat -> Prop) (db : Nat) (D : Dc) (h i : Nat) (s : Sl) (hv : View w R db D) (hf : Fits D) (hh : h < 18446744073709551616) (ha : atI D.S h = some i) (hs : D.S[i]? = some s) (hl : s.kids.length <= 1000000) :
  Calls Tryz.prog 101 #[.pointer (some ⟨db, 0, none⟩), .int .u64 (h : Int)] w (KidP w s.kids) := by
 obtain ⟨b, o, cap, aa, ac, ka, kc, h1, hcl, hbR, c0, c1, c2, c3, c4, c5, c6, c7, -, -, -, hka⟩ := hv.slot hs
 have hfi := find_some w R db D h i hv hf hh ha b o cap h1
 have hbl := hv.lt b hbR
 have HFR : Hid (∀ W, Below w.heap.size w W -> Calls Tryz.prog 55 #[.slice ka s.kids.length kc] W (FrP W 27 1 s.kids.length (hvals s.kids))) := fun W hb => freshH_any W R ka s.kids kc (hka.to (fun _ h => h) (fun b o hb' => hb.cell (p := ⟨b, o, none⟩) (hv.lt b hb'))) hl
 clear hv ha hs c0 c1 c2 c3 c4 c5 c6 hka
 go_enter Tryz.func101, Tryz.ntmps101
 go_wp2_with fail
 refine hfi.mono ?_
 rintro e w1 ⟨rfl, hb1⟩
 obtain ⟨hcc, -⟩ := bcell hb1
 have hs1 := hb1.size
 have HB1 := hid hb1
 have hfr := HFR.out w1 hb1
 clear hb1 hfi
 go_wp2_with fail
 refine hfr.mono ?_
 rintro e w2 ⟨va, vc, rfl, hown, hb⟩
 have HO : Hid (w2.ownsRow w.heap.size 27 1 (.slice va s.kids.length vc) s.kids.length (hvals s.kids)) := own_base hown (fun k hk => by have := own_block_lt hown k hk; omega)
 have HB := hid (HB1.out.trans (hb.mono hs1))
 clear hown hb hfr
 go_wp2
 go_ret2
 exact ⟨va, vc, rfl, HO.out, HB.out⟩
end Go.Proofs.YtjkgjckkglfokaaGreat.Gr
/- A slot as a node without its children: the program's. -/
namespace Go.Proofs.YtjkgjckkglfokaaGreat.Gr
open Go.RowKit
set_option linter.unusedVariables false
set_option linter.unusedSimpArgs false
end Go.Proofs.YtjkgjckkglfokaaGreat.Gr
/- Get of a node: the program's. -/
namespace Go.Proofs.YtjkgjckkglfokaaGreat.Gr
open Go.RowKit
set_option linter.unusedVariables false
set_option linter.unusedSimpArgs false
end Go.Proofs.YtjkgjckkglfokaaGreat.Gr
