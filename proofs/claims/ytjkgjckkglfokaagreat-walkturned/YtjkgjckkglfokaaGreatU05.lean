/- All, by the document. -/
import Derived.Test.YtjkgjckkglfokaaGreatU01
import Derived.Test.YtjkgjckkglfokaaGreatU04
namespace Go.Proofs.YtjkgjckkglfokaaGreat.Gr
open Go.RowKit
set_option linter.unusedVariables false
set_option linter.unusedSimpArgs false
set_option maxRecDepth 100000
set_option maxHeartbeats 1000000
def allA (D : Dc) (h : Nat) : List Nat := if h = 0 then allR D else allH D h
def RallAll (D : Dc) (R : Nat -> Prop) (db : Nat) (lv : Nat -> Nat) (k : Nat) : Prop := ∀ (w : World) (v : Value) (n : Nat) (xs : List Nat) (h : Nat) (base : Nat), View w R db D -> (∀ b, R b -> b < base) -> base <= w.heap.size -> w.ownsRow base 27 1 v n (hvals xs) ->
  ((h = 0 /\ 65 <= k) \/ ∃ s, sl D h = some s /\ 64 - lv h <= k) -> xs.length + (allA D h).length <= 1000000 -> Calls Tryz.prog 59 #[.pointer (some ⟨db, 0, none⟩), .int .u64 (h : Int), v] w (GathP w base xs (allA D h))
theorem WF.ltz {D : Dc} (hw : WF D) {h : Nat} (hh : h = 0 \/ ∃ s, sl D h = some s) : h < 18446744073709551616 := by
 rcases hh with rfl | ⟨s, hs⟩
 ·omega
 ·exact (hw.lt hs).1
theorem allA_eq {D : Dc} (hw : WF D) {h : Nat} (hh : h = 0 \/ ∃ s, sl D h = some s) : allA D h = (if h = 0 then [] else [h]) ++ (lst D h).flatMap (allH D) := by
 rcases hh with rfl | ⟨s, hs⟩
 ·simp [allA, allR, lst]
 ·have h0 : h ≠ 0 := by rintro rfl; rw [sl_zero] at hs; cases hs
  rw [allA, if_neg h0, if_neg h0, allH_step hw hs]
  rfl
theorem rall_zero (D : Dc) (R : Nat -> Prop) (db : Nat) (lv : Nat -> Nat) (hw : WF D) (hl : Lev D lv) (k : Nat) (ih : ∀ j, j + 1 = k -> RallAll D R db lv j) (w : World) (va : Option Addr) (vc : Nat) (xs : List Nat) (h : Nat) (base : Nat) (hv : View w R db D) (hR : ∀ b, R b -> b < base) (hbase : base <= w.heap.size) (hown : w.ownsRow base 27 1 (.slice va xs.length vc) xs.length (hvals xs))
  (hh : h = 0 /\ 65 <= k) (htot : xs.length + (allA D h).length <= 1000000) : Calls Tryz.prog 59 #[.pointer (some ⟨db, 0, none⟩), .int .u64 (h : Int), .slice va xs.length vc] w (GathP w base xs (allA D h)) := by
 have hlive : h = 0 \/ ∃ s, sl D h = some s := Or.inl hh.1
 have hae := allA_eq hw hlive
 have hhl := hw.ltz hlive
 rw [if_pos hh.1, List.nil_append] at hae
 have hz : ((h : Int) == 0) = true := by simp [hh.1]
 have hkd : ∀ c ∈ lst D h, ∃ s, sl D c = some s /\ 64 - lv c <= k - 1 := fun c hc => by
  rw [hh.1] at hc
  obtain ⟨s', h1, _, h2⟩ := hw.root hl (by simpa [lst] using hc)
  exact ⟨s', h1, by omega⟩
 have hk1 : 1 <= k := by omega
 have hkl := lst_len hw hlive
 have HGL : Hid (∀ W, Below base w W -> ∃ a cap, (lst D h).length <= cap /\ HandsAt W R a (lst D h) /\ Calls Tryz.prog 32 #[.pointer (some ⟨db, 0, none⟩), .int .u64 (h : Int)] W fun e w' => e = .returned (.slice a (lst D h).length cap) /\ Below W.heap.size W w') := fun W hb =>
  rlist_any W R db D h (hv.to (fun _ h => h) (fun b hb' => by have := hR b hb'; have := hb.size; omega) (fun b o hb' => hb.cell (p := ⟨b, o, none⟩) (hR b hb'))) hw.fits hhl hlive
 have HV := hid hv
 have HR := hid hR
 have HKD := hid hkd
 have HIH := hid (ih (k - 1) (by omega))
 have HOW := hid hown
 have HAE : Hid (xs ++ allA D h = xs ++ (lst D h).flatMap (allH D)) := by show _ = _; rw [hae]
 have HTOT : Hid ((xs ++ (lst D h).flatMap (allH D)).length <= 1000000) := by show _ <= _; rw [<- HAE.out, List.length_append]; exact htot
 have HW := hid hw
 clear hv hw hl hR hkd ih hown hae htot hlive hh
 generalize lst D h = L at *
 go_enter Tryz.func59, Tryz.ntmps59
 obtain ⟨a, cap, hlc, hat, hcal⟩ := HGL.out w (Below.refl _ _)
 have HAT := hid hat
 clear hat
 go_wp2_with fail
 refine hcal.mono ?_
 rintro e w1 ⟨rfl, hb1⟩
 have HB1 := hid (hb1.mono hbase)
 have HO1 := hid (own_after HOW.out hb1)
 clear hb1 hcal HOW
 go_wp2
 go_loopw [2, 8] (fun q iv wr => ∃ (i : Nat) (qa : Option Addr) (qc : Nat), i <= L.length /\ iv = .int .i64 (i : Int) /\ q = .slice qa (xs ++ (L.take i).flatMap (allH D)).length qc /\ Hid (wr.ownsRow base 27 1 (.slice qa (xs ++ (L.take i).flatMap (allH D)).length qc) (xs ++ (L.take i).flatMap (allH D)).length (hvals (xs ++ (L.take i).flatMap (allH D)))) /\ Hid (Below base w wr)) (fun _ iv _ => L.length - (intOf iv).toNat)
 case atStart => exact ⟨0, va, vc, by omega, rfl, by simp, (by rw [List.take_zero, List.flatMap_nil, List.append_nil]; exact HO1), HB1⟩
 case round =>
  obtain ⟨i, qa, qc, hi, rfl, rfl, hrow, hbw⟩ := hrel
  have hbs := hbw.out.size
  clear HO1 HB1
  by_cases hlt : i < L.length
  ·obtain ⟨x, hx⟩ : ∃ x, L[i]? = some x := ⟨_, List.getElem?_eq_getElem hlt⟩
   obtain ⟨s, hs, hk⟩ := HKD.out x (List.mem_of_getElem? hx)
   obtain ⟨b, o, ha, hbR, hc⟩ := HAT.out i x hx
   subst ha
   have hbb := HR.out b hbR
   have hc' : wr.cell? ⟨b, o + i, none⟩ = some (.int .u64 (x : Int)) := (hbw.out.cell (p := ⟨b, _, none⟩) hbb).trans hc
   have hbl : b < wr.heap.size := by omega
   have hvr : View wr R db D := HV.out.to (fun _ h => h) (fun b hb => by have := HR.out b hb; omega) (fun b o hb => hbw.out.cell (p := ⟨b, o, none⟩) (HR.out b hb))
   have hsn := flatMap_snoc (f := allH D) hx
   have hpt := flatMap_part L (allH D) (i + 1)
   have hx0 : x ≠ 0 := by rintro rfl; rw [sl_zero] at hs; cases hs
   have hax : allA D x = allH D x := if_neg hx0
   have hszA : (xs ++ (L.take i).flatMap (allH D)).length + (allA D x).length <= 1000000 := by
    have := HTOT.out
    rw [hax]
    rw [hsn] at hpt
    simp only [List.length_append] at this hpt ⊢
    omega
   have hih := HIH.out wr (.slice qa (xs ++ (L.take i).flatMap (allH D)).length qc) _ (xs ++ (L.take i).flatMap (allH D)) x base hvr HR.out (by omega) hrow.out (.inr ⟨s, hs, hk⟩) hszA
   rw [hax] at hih
   have HSN : Hid (xs ++ (L.take (i + 1)).flatMap (allH D) = (xs ++ (L.take i).flatMap (allH D)) ++ allH D x) := by
    show _ = _
    rw [hsn]
    simp
   generalize xs ++ (L.take i).flatMap (allH D) = XS at *
   generalize hM : XS.length = M at *
   have HM := hid hM
   clear hsn hpt hvr hs hk hx hc hrow hM hax hx0
   go_wp2_with fail
   refine hih.mono ?_
   rintro e w3 ⟨v3, rfl, hown3, hb3⟩
   obtain ⟨va3, vc3, hv3⟩ := own_slice hown3
   subst hv3
   rw [<- HSN.out] at hown3
   have hln : XS.length + (allH D x).length = (xs ++ (L.take (i + 1)).flatMap (allH D)).length := by rw [HSN.out]; simp
   rw [hln] at hown3 ⊢
   clear hln
   generalize hN : (xs ++ (L.take (i + 1)).flatMap (allH D)).length = N at hown3 ⊢
   have HN := hid hN
   have HO3 := hid hown3
   have HB3 := hid (hbw.out.trans hb3)
   clear hown3 hb3 hN HSN hszA hih HM hc'
   go_wp2
   go_roundw
   case rel => exact ⟨i + 1, va3, vc3, by omega, by go_num, by rw [HN.out], by rw [HN.out]; exact HO3, HB3⟩
   case measure => simp [intOf]; omega
  ·have hie : i = L.length := by omega
   subst hie
   have hr := hrow.out
   rw [List.take_length, <- HAE.out] at hr
   rw [List.take_length, <- HAE.out]
   have HR2 := hid hr
   clear hr hrow HIH
   go_wp2
   go_ret
   exact ⟨_, rfl, by rw [<- List.length_append]; exact HR2.out, hbw.out⟩
theorem rall_live (D : Dc) (R : Nat -> Prop) (db : Nat) (lv : Nat -> Nat) (hw : WF D) (hl : Lev D lv) (k : Nat) (ih : ∀ j, j + 1 = k -> RallAll D R db lv j) (w : World) (va : Option Addr) (vc : Nat) (xs : List Nat) (h : Nat) (base : Nat) (hv : View w R db D) (hR : ∀ b, R b -> b < base) (hbase : base <= w.heap.size) (hown : w.ownsRow base 27 1 (.slice va xs.length vc) xs.length (hvals xs))
  (hh : ∃ s, sl D h = some s /\ 64 - lv h <= k) (htot : xs.length + (allA D h).length <= 1000000) : Calls Tryz.prog 59 #[.pointer (some ⟨db, 0, none⟩), .int .u64 (h : Int), .slice va xs.length vc] w (GathP w base xs (allA D h)) := by
 have hlive : h = 0 \/ ∃ s, sl D h = some s := Or.inr (by obtain ⟨s, hs, _⟩ := hh; exact ⟨s, hs⟩)
 have hae := allA_eq hw hlive
 have hhl := hw.ltz hlive
 obtain ⟨s, hs, hk⟩ := hh
 have h0 : h ≠ 0 := by rintro rfl; rw [sl_zero] at hs; cases hs
 rw [if_neg h0] at hae
 have hz : ((h : Int) == 0) = false := by simp; omega
 have hkd : ∀ c ∈ lst D h, ∃ s, sl D c = some s /\ 64 - lv c <= k - 1 := fun c hc => by
  obtain ⟨s', h1, _, h2⟩ := hw.kid hl hs hc
  exact ⟨s', h1, by omega⟩
 have hk1 : 1 <= k := by have := (hl h s hs).1; omega
 clear hs hk h0
 have hkl := lst_len hw hlive
 have HGL : Hid (∀ W, Below base w W -> ∃ a cap, (lst D h).length <= cap /\ HandsAt W R a (lst D h) /\ Calls Tryz.prog 32 #[.pointer (some ⟨db, 0, none⟩), .int .u64 (h : Int)] W fun e w' => e = .returned (.slice a (lst D h).length cap) /\ Below W.heap.size W w') := fun W hb =>
  rlist_any W R db D h (hv.to (fun _ h => h) (fun b hb' => by have := hR b hb'; have := hb.size; omega) (fun b o hb' => hb.cell (p := ⟨b, o, none⟩) (hR b hb'))) hw.fits hhl hlive
 have HV := hid hv
 have HR := hid hR
 have HKD := hid hkd
 have HIH := hid (ih (k - 1) (by omega))
 have HOW := hid hown
 have HAE : Hid (xs ++ allA D h = (xs ++ [h]) ++ (lst D h).flatMap (allH D)) := by show _ = _; rw [hae]; simp
 have HTOT : Hid (((xs ++ [h]) ++ (lst D h).flatMap (allH D)).length <= 1000000) := by show _ <= _; rw [<- HAE.out, List.length_append]; exact htot
 have HW := hid hw
 clear hv hw hl hR hkd ih hown hae htot hlive 
 generalize lst D h = L at *
 have htk : xs.length + 1 <= 1000000 := by have := HTOT.out; simp only [List.length_append, List.length_cons, List.length_nil] at this; omega
 have tok : True := trivial
 go_enter Tryz.func59, Tryz.ntmps59
 go_wp2_with (at_builtin; have _t := tok; refine wpList_app rfl _ _ rfl Tryz.underlying23 info42 rfl (by decide) base (.slice va xs.length vc) xs.length (hvals xs) rfl (own_of_block HOW.out (fun k hk => Below.heap_alloc _ _ _ (own_block_lt HOW.out k hk).2)) (some ⟨w.heap.size, 0, none⟩) 1 1 [.int .u64 (h : Int)] rfl rfl (news_new w #[.int .u64 (h : Int)] 27) (by simp [Value.oneCell']) (by unfold maxLen; omega) (by omega) (by simp; omega) ?_; intro v1 w0 hown1 hg1 _ hat1; clear tok _t; obtain ⟨va1, vc1, hv1⟩ := own_slice hown1; subst hv1; have HO0 : Hid (w0.ownsRow base 27 1 (.slice va1 (xs.length + 1) vc1) (xs.length + 1) (hvals (xs ++ [h]))) := (by rw [hvals_append]; exact hown1); have HB0 := hid ((((Below.refl base w).alloc hbase _).grown hg1 (by simp; omega) (fun k hk => (own_block_lt HOW.out k hk).1))); clear hown1 hg1 hat1)
 obtain ⟨a, cap, hlc, hat, hcal⟩ := HGL.out w0 HB0.out
 have HAT := hid (hat.to (fun _ h => h) (fun b o hb => (HB0.out.cell (p := ⟨b, o, none⟩) (HR.out b hb)).symm))
 clear hat
 refine hcal.mono ?_
 rintro e w1 ⟨rfl, hb1⟩
 have HB1 := hid (HB0.out.trans (hb1.mono (by have := HB0.out.size; omega)))
 have HO1 := hid (own_after HO0.out hb1)
 clear hb1 hcal HOW HO0 HB0
 generalize hX0 : (xs ++ [h]) = X0 at *
 have hX0l : (xs.length + 1) = X0.length := by rw [<- hX0]; simp
 rw [hX0l] at HO1
 rw [hX0l]
 clear hX0 hX0l
 go_wp2
 go_loopw [2, 8] (fun q iv wr => ∃ (i : Nat) (qa : Option Addr) (qc : Nat), i <= L.length /\ iv = .int .i64 (i : Int) /\ q = .slice qa (X0 ++ (L.take i).flatMap (allH D)).length qc /\ Hid (wr.ownsRow base 27 1 (.slice qa (X0 ++ (L.take i).flatMap (allH D)).length qc) (X0 ++ (L.take i).flatMap (allH D)).length (hvals (X0 ++ (L.take i).flatMap (allH D)))) /\ Hid (Below base w wr)) (fun _ iv _ => L.length - (intOf iv).toNat)
 case atStart => exact ⟨0, va1, vc1, by omega, rfl, by simp, (by rw [List.take_zero, List.flatMap_nil, List.append_nil]; exact HO1), HB1⟩
 case round =>
  obtain ⟨i, qa, qc, hi, rfl, rfl, hrow, hbw⟩ := hrel
  have hbs := hbw.out.size
  clear HO1 HB1
  by_cases hlt : i < L.length
  ·obtain ⟨x, hx⟩ : ∃ x, L[i]? = some x := ⟨_, List.getElem?_eq_getElem hlt⟩
   obtain ⟨s, hs, hk⟩ := HKD.out x (List.mem_of_getElem? hx)
   obtain ⟨b, o, ha, hbR, hc⟩ := HAT.out i x hx
   subst ha
   have hbb := HR.out b hbR
   have hc' : wr.cell? ⟨b, o + i, none⟩ = some (.int .u64 (x : Int)) := (hbw.out.cell (p := ⟨b, _, none⟩) hbb).trans hc
   have hbl : b < wr.heap.size := by omega
   have hvr : View wr R db D := HV.out.to (fun _ h => h) (fun b hb => by have := HR.out b hb; omega) (fun b o hb => hbw.out.cell (p := ⟨b, o, none⟩) (HR.out b hb))
   have hsn := flatMap_snoc (f := allH D) hx
   have hpt := flatMap_part L (allH D) (i + 1)
   have hx0 : x ≠ 0 := by rintro rfl; rw [sl_zero] at hs; cases hs
   have hax : allA D x = allH D x := if_neg hx0
   have hszA : (X0 ++ (L.take i).flatMap (allH D)).length + (allA D x).length <= 1000000 := by
    have := HTOT.out
    rw [hax]
    rw [hsn] at hpt
    simp only [List.length_append] at this hpt ⊢
    omega
   have hih := HIH.out wr (.slice qa (X0 ++ (L.take i).flatMap (allH D)).length qc) _ (X0 ++ (L.take i).flatMap (allH D)) x base hvr HR.out (by omega) hrow.out (.inr ⟨s, hs, hk⟩) hszA
   rw [hax] at hih
   have HSN : Hid (X0 ++ (L.take (i + 1)).flatMap (allH D) = (X0 ++ (L.take i).flatMap (allH D)) ++ allH D x) := by
    show _ = _
    rw [hsn]
    simp
   generalize X0 ++ (L.take i).flatMap (allH D) = XS at *
   generalize hM : XS.length = M at *
   have HM := hid hM
   clear hsn hpt hvr hs hk hx hc hrow hM hax hx0
   go_wp2_with fail
   refine hih.mono ?_
   rintro e w3 ⟨v3, rfl, hown3, hb3⟩
   obtain ⟨va3, vc3, hv3⟩ := own_slice hown3
   subst hv3
   rw [<- HSN.out] at hown3
   have hln : XS.length + (allH D x).length = (X0 ++ (L.take (i + 1)).flatMap (allH D)).length := by rw [HSN.out]; simp
   rw [hln] at hown3 ⊢
   clear hln
   generalize hN : (X0 ++ (L.take (i + 1)).flatMap (allH D)).length = N at hown3 ⊢
   have HN := hid hN
   have HO3 := hid hown3
   have HB3 := hid (hbw.out.trans hb3)
   clear hown3 hb3 hN HSN hszA hih HM hc'
   go_wp2
   go_roundw
   case rel => exact ⟨i + 1, va3, vc3, by omega, by go_num, by rw [HN.out], by rw [HN.out]; exact HO3, HB3⟩
   case measure => simp [intOf]; omega
  ·have hie : i = L.length := by omega
   subst hie
   have hr := hrow.out
   rw [List.take_length, <- HAE.out] at hr
   rw [List.take_length, <- HAE.out]
   have HR2 := hid hr
   clear hr hrow HIH
   go_wp2
   go_ret
   exact ⟨_, rfl, by rw [<- List.length_append]; exact HR2.out, hbw.out⟩
theorem rall_any (D : Dc) (R : Nat -> Prop) (db : Nat) (lv : Nat -> Nat) (hw : WF D) (hl : Lev D lv) : ∀ k, RallAll D R db lv k
 | 0 => fun w v n xs h base hv hR hbase hown hh htot => by
  rcases hh with ⟨_, h2⟩ | ⟨s, hs, h2⟩
  ·omega
  ·have := (hl h s hs).1; omega
 | k + 1 => fun w v n xs h base hv hR hbase hown hh htot => by
  have hn := own_len hown
  subst hn
  obtain ⟨va, vc, rfl⟩ := own_slice hown
  have ih : ∀ j, j + 1 = k + 1 -> RallAll D R db lv j := fun j hj => by
   have : j = k := by omega
   subst this
   exact rall_any D R db lv hw hl j
  rcases hh with hh | hh
  ·exact rall_zero D R db lv hw hl (k + 1) ih w va vc xs h base hv hR hbase hown hh htot
  ·exact rall_live D R db lv hw hl (k + 1) ih w va vc xs h base hv hR hbase hown hh htot
end Go.Proofs.YtjkgjckkglfokaaGreat.Gr
/- All of the document at its face; heights. -/
namespace Go.Proofs.YtjkgjckkglfokaaGreat.Gr
open Go.RowKit
set_option linter.unusedVariables false
set_option linter.unusedSimpArgs false
set_option maxRecDepth 100000
set_option maxHeartbeats 1000000
theorem allA_len {D : Dc} (hw : WF D) {h : Nat} (hh : h = 0 \/ ∃ s, sl D h = some s) : (allA D h).length <= 4096 := by
 rcases hh with rfl | ⟨s, hs⟩
 ·exact (roots_len hw).2
 ·have h0 : h ≠ 0 := by rintro rfl; rw [sl_zero] at hs; cases hs
  rw [allA, if_neg h0]
  exact (kids_len hw hs).2
theorem rAll_some (w : World) (R : Nat -> Prop) (db : Nat) (D : Dc) (h : Nat) (hv : View w R db D) (hw : WF D) (hh : h = 0 \/ ∃ s, sl D h = some s) :
  Calls Tryz.prog 23 #[.pointer (some ⟨db, 0, none⟩), .int .u64 (h : Int)] w (AllP w (allA D h)) := by
 obtain ⟨lv, hl⟩ := hw.lev
 have hhl := hw.ltz hh
 have hal := allA_len hw hh
 have hlv := rlive_any w R db D h hv hw.fits hhl
 have HG : Hid (Calls Tryz.prog 59 #[.pointer (some ⟨db, 0, none⟩), .int .u64 (h : Int), .slice (some ⟨w.heap.size, 0, none⟩) 0 0] (w.alloc (.cells #[] 27)) (GathP (w.alloc (.cells #[] 27)) w.heap.size [] (allA D h))) :=
  rall_any D R db lv hw hl 65 (w.alloc (.cells #[] 27)) (.slice (some ⟨w.heap.size, 0, none⟩) 0 0) 0 [] h w.heap.size (hv.below (below_new' w _)) hv.lt (by simp) (own_new w 27 1) (by
   rcases hh with h0 | ⟨s, hs⟩
   ·exact .inl ⟨h0, Nat.le_refl _⟩
   ·exact .inr ⟨s, hs, by omega⟩) (by show 0 + _ <= _; omega)
 by_cases h0 : h = 0
 ·have hz : ((h : Int) != 0) = false := by simp [h0]
  clear hv hw hl hh hlv h0
  go_enter Tryz.func23, Tryz.ntmps23
  go_wp2_with fail
  refine HG.out.mono ?_
  rintro e w' ⟨v', rfl, hown, hb⟩
  rw [List.length_nil, Nat.zero_add, List.nil_append] at hown
  obtain ⟨va, vc, hv⟩ := own_slice hown
  subst hv
  generalize hN : (allA D h).length = N at *
  have HN := hid hN
  have HO := hid hown
  have HB := hid ((below_new' w _).trans hb)
  clear hown hb HG hN
  go_wp2
  go_ret2
  exact ⟨va, vc, by rw [HN.out]; rfl, by rw [HN.out]; exact HO.out, HB.out⟩
 ·have hz : ((h : Int) != 0) = true := by simp; omega
  have hsm : (atI D.S h).isSome = true := by
   rcases hh with h | ⟨s, hs⟩
   ·exact absurd h h0
   ·obtain ⟨i, ha, _⟩ := sl_live hs
    simp [ha]
  rw [hsm] at hlv
  clear hv hw hl hh h0 hsm
  go_enter Tryz.func23, Tryz.ntmps23
  go_wp2_with fail
  refine hlv.mono ?_
  rintro e w1 ⟨rfl, rfl⟩
  go_wp2_with fail
  refine HG.out.mono ?_
  rintro e w' ⟨v', rfl, hown, hb⟩
  rw [List.length_nil, Nat.zero_add, List.nil_append] at hown
  obtain ⟨va, vc, hv⟩ := own_slice hown
  subst hv
  generalize hN : (allA D h).length = N at *
  have HN := hid hN
  have HO := hid hown
  have HB := hid ((below_new' w1 _).trans hb)
  clear hown hb HG hN
  go_wp2
  go_ret2
  exact ⟨va, vc, by rw [HN.out]; rfl, by rw [HN.out]; exact HO.out, HB.out⟩
def hgts (D : Dc) : Nat -> Nat -> Nat
 | 0, _ => 0
 | k + 1, h => ((lst D h).map (hgts D k)).foldl max 0 + 1
def hgt (D : Dc) (h : Nat) : Nat := hgts D 64 h
theorem foldl_max_le (l : List Nat) (N a : Nat) (ha : a <= N) (h : ∀ x ∈ l, x <= N) : l.foldl max a <= N := by
 induction l generalizing a with
 | nil => exact ha
 | cons x r ih => exact ih (max a x) (by have := h x (by simp); omega) (fun y hy => h y (by simp [hy]))
theorem hgts_eq {D : Dc} (hw : WF D) {lv : Nat -> Nat} (hl : Lev D lv) : ∀ (k : Nat) (h : Nat) (s : Sl), sl D h = some s -> 64 - lv h <= k -> ∀ j, 64 - lv h <= j -> hgts D k h = hgts D j h
 | 0, h, s, e, hk => by have := (hl h s e).1; omega
 | k + 1, h, s, e, hk => by
  intro j hj
  cases j with
  | zero => have := (hl h s e).1; omega
  | succ j =>
   rw [hgts, hgts]
   have : (lst D h).map (hgts D k) = (lst D h).map (hgts D j) := List.map_congr_left fun c hc => by
    obtain ⟨s', h1, _, h2⟩ := hw.kid hl e hc
    exact hgts_eq hw hl k c s' h1 (by omega) j (by omega)
   rw [this]
theorem hgt_step {D : Dc} (hw : WF D) {h : Nat} {s : Sl} (e : sl D h = some s) : hgt D h = ((lst D h).map (hgt D)).foldl max 0 + 1 := by
 obtain ⟨lv, hl⟩ := hw.lev
 unfold hgt
 rw [hgts]
 have : (lst D h).map (hgts D 63) = (lst D h).map (hgts D 64) := List.map_congr_left fun c hc => by
  obtain ⟨s', h1, _, h2⟩ := hw.kid hl e hc
  exact hgts_eq hw hl 63 c s' h1 (by omega) 64 (by omega)
 rw [this]
theorem hgts_le (D : Dc) : ∀ (k h : Nat), hgts D k h <= k
 | 0, h => by simp [hgts]
 | k + 1, h => by
  rw [hgts]
  have := foldl_max_le ((lst D h).map (hgts D k)) k 0 (Nat.zero_le _) (fun x hx => by
   obtain ⟨c, _, rfl⟩ := List.mem_map.1 hx
   exact hgts_le D k c)
  omega
def HgtP (w : World) (x : Nat) (e : Ending) (w' : World) : Prop := e = .returned (.int .i64 (x : Int)) /\ Below w.heap.size w w'
def HgtAll (D : Dc) (R : Nat -> Prop) (db : Nat) (lv : Nat -> Nat) (k : Nat) : Prop := ∀ (w : World) (h : Nat) (s : Sl), View w R db D -> sl D h = some s -> 64 - lv h <= k -> Calls Tryz.prog 168 #[.pointer (some ⟨db, 0, none⟩), .int .u64 (h : Int)] w (HgtP w (hgt D h))
theorem height_any (D : Dc) (R : Nat -> Prop) (db : Nat) (lv : Nat -> Nat) (hw : WF D) (hl : Lev D lv) : ∀ k, HgtAll D R db lv k
 | 0 => fun w h s hv hs hk => by have := (hl h s hs).1; omega
 | k + 1 => by
  intro w h s hv hs hk
  have ih := height_any D R db lv hw hl k
  obtain ⟨hhl, hh0, i, ha, hsi, -⟩ := hw.lt hs
  obtain ⟨b, o, cap, aa, ac, ka, kc, h1, hcl, hbR, c0, c1, c2, c3, c4, c5, c6, c7, l1, l2, -, hka⟩ := hv.slot hsi
  have hfi := find_some w R db D h i hv hw.fits hhl ha b o cap h1
  have hbl := hv.lt b hbR
  have hst := hgt_step hw hs
  have h0 : h ≠ 0 := by omega
  have ek : lst D h = s.kids := by simp [lst, h0, hs]
  have hkd : ∀ c ∈ s.kids, ∃ s', sl D c = some s' /\ 64 - lv c <= k := fun c hc => by
   obtain ⟨s', h1, _, h2⟩ := hw.kid hl hs (by rw [ek]; exact hc)
   exact ⟨s', h1, by omega⟩
  rw [ek] at hst
  have hkl := (kids_len hw hs).1
  have HST := hid hst
  have HKD := hid hkd
  have HV := hid hv
  have HKA := hid hka
  clear hst hkd hv hka hw hl hs ha hsi c0 c1 c2 c3 c4 c5 c6 ek
  generalize s.kids = L at *
  go_enter Tryz.func168, Tryz.ntmps168
  go_wp2_with fail
  refine hfi.mono ?_
  rintro e w1 ⟨rfl, hb1⟩
  obtain ⟨hcc, -⟩ := bcell hb1
  have HB1 := hid hb1
  clear hb1 hfi
  go_wp2
  go_loopw [5, 7, 15] (fun q _ iv wr => ∃ (j m : Nat), j <= L.length /\ iv = .int .i64 (j : Int) /\ q = .int .i64 (m : Int) /\ m <= 64 /\ Hid (((L.take j).map (hgt D)).foldl max 0 = m) /\ Hid (Below w.heap.size w wr)) (fun _ _ iv _ => L.length - (intOf iv).toNat)
  case atStart => exact ⟨0, 0, by omega, rfl, rfl, by omega, rfl, HB1⟩
  case round =>
   obtain ⟨j, m, hj, rfl, rfl, hm, hfm, hbw⟩ := hrel
   have hbs := hbw.out.size
   clear HB1 hcc
   by_cases hlt : j < L.length
   ·obtain ⟨x, hx⟩ : ∃ x, L[j]? = some x := ⟨_, List.getElem?_eq_getElem hlt⟩
    obtain ⟨sx, hsx, hkx⟩ := HKD.out x (List.mem_of_getElem? hx)
    obtain ⟨b', o', ha', hbR', hc'⟩ := HKA.out j x hx
    subst ha'
    have hbb := HV.out.lt b' hbR'
    have hc2 : wr.cell? ⟨b', o' + j, none⟩ = some (.int .u64 (x : Int)) := (hbw.out.cell (p := ⟨b', _, none⟩) hbb).trans hc'
    have hbl2 : b' < wr.heap.size := by omega
    have hih := ih wr x sx (HV.out.below hbw.out) hsx hkx
    have hx64 := hgts_le D 64 x
    have HFM : Hid (((L.take (j + 1)).map (hgt D)).foldl max 0 = max m (hgt D x)) := by
     show _ = _
     rw [take_more hx, List.map_append, List.foldl_append, hfm.out]
     rfl
    have hx64' : hgt D x <= 64 := hx64
    generalize hgt D x = y at *
    clear hx hsx hkx hc' hfm hx64
    go_wp2_with fail
    refine hih.mono ?_
    rintro e w2 ⟨rfl, hb2⟩
    have HB2 := hid (hbw.out.trans (hb2.mono hbs))
    clear hb2 hih hc2
    go_wp2
    refine ⟨⟨j + 1, max m y, by omega, by go_num, congrArg _ (by split <;> omega), by omega, HFM, HB2⟩, ?_⟩
    simp [intOf]
    omega
   ·have hje : j = L.length := by omega
    subst hje
    have hfin : hgt D h = m + 1 := by
     rw [HST.out, <- hfm.out, List.take_length]
    have HF := hid hfin
    clear hfin hfm ih
    go_wp2
    go_ret
    exact ⟨congrArg _ (v_int (by rw [HF.out]; omega)), hbw.out⟩
end Go.Proofs.YtjkgjckkglfokaaGreat.Gr
/- How many nodes a tree has, and how deep it is: the program's answer and the document's. -/
namespace Go.Proofs.YtjkgjckkglfokaaGreat.Gr
open Go.RowKit
set_option linter.unusedVariables false
set_option linter.unusedSimpArgs false
set_option maxRecDepth 100000
set_option maxHeartbeats 1000000
def okT : (n : Nat) -> T n -> Prop
 | 0, _ => True
 | n + 1, t => ownE t = 0 /\ ∀ k ∈ kidsT t, okT n k
def ndT : (n : Nat) -> T n -> Nat
 | 0, _ => 0
 | n + 1, t => ((kidsT t).map (ndT n)).sum + 1
def htT : (n : Nat) -> T n -> Nat
 | 0, _ => 0
 | n + 1, t => ((kidsT t).map (htT n)).foldl max 0 + 1
theorem foldl_max_ge (l : List Nat) : ∀ a, a <= l.foldl max a /\ ∀ x ∈ l, x <= l.foldl max a := by
 induction l with
 | nil => intro a; simp
 | cons y r ih =>
  intro a
  obtain ⟨h1, h2⟩ := ih (max a y)
  refine ⟨by simp only [List.foldl_cons]; omega, fun x hx => ?_⟩
  rcases List.mem_cons.1 hx with rfl | hx
  ·simp only [List.foldl_cons]; omega
  ·exact h2 x hx
theorem chk_ok : ∀ (n : Nat) (t : T n) (d a : Int), 0 <= a -> a <= 4096 -> d <= 65 -> (chk n t d a).2 = 0 -> okT n t /\ (chk n t d a).1 = a + ndT n t /\ d + htT n t <= 65
 | 0, t, d, a, _, _, hd, h => by simp [okT, chk, ndT, htT]; exact hd
 | n + 1, t, d, a, h0, h1, hd, h => by
  rw [chk] at h ⊢
  by_cases hx : 64 < d \/ 4096 <= a
  ·rw [if_pos hx] at h; simp at h
  ·rw [if_neg hx] at h ⊢
   by_cases ho : ownE t = 0
   ·rw [if_pos ho] at h ⊢
    have key : ∀ (L : List (T n)) (a : Int), 0 <= a -> a <= 4096 -> (chkL (fun k x => chk n k (d + 1) x) L a).2 = 0 -> (∀ k ∈ L, okT n k) /\ (chkL (fun k x => chk n k (d + 1) x) L a).1 = a + ((L.map (ndT n)).sum : Nat) /\ (∀ k ∈ L, d + 1 + htT n k <= 65) := by
     intro L
     induction L with
     | nil => intro a _ _ _; simp [chkL]
     | cons k r ih =>
      intro a ha0 ha1 hc
      rw [chkL] at hc ⊢
      by_cases he : (chk n k (d + 1) a).2 = 0
      ·rw [if_pos he] at hc ⊢
       obtain ⟨g1, g2, g3⟩ := chk_ok n k (d + 1) a ha0 ha1 (by omega) he
       have hle := chk_le n k (d + 1) a ha1
       have hge := chk_ge n k (d + 1) a
       obtain ⟨i1, i2, i3⟩ := ih _ (by omega) hle hc
       refine ⟨fun x hx => ?_, ?_, fun x hx => ?_⟩
       ·rcases List.mem_cons.1 hx with rfl | hx
        ·exact g1
        ·exact i1 x hx
       ·rw [i2, g2]
        simp only [List.map_cons, List.sum_cons]
        omega
       ·rcases List.mem_cons.1 hx with rfl | hx
        ·exact g3
        ·exact i3 x hx
      ·rw [if_neg he] at hc
       exact absurd hc he
    obtain ⟨k1, k2, k3⟩ := key (kidsT t) (a + 1) (by omega) (by omega) h
    refine ⟨⟨ho, k1⟩, ?_, ?_⟩
    ·rw [k2, ndT]; omega
    ·rw [htT]
     have := foldl_max_le ((kidsT t).map (htT n)) (64 - d).toNat 0 (by omega) (fun x hx => by
      obtain ⟨c, hc, rfl⟩ := List.mem_map.1 hx
      have := k3 c hc
      omega)
     omega
   ·rw [if_neg ho] at h
    exact absurd h ho
theorem sum_part (l : List Nat) (i : Nat) : (l.take i).sum <= l.sum := by
 have h := congrArg List.sum (List.take_append_drop i l)
 rw [List.sum_append] at h
 omega
theorem ndT_pos : ∀ (n : Nat) (t : T (n + 1)), 1 <= ndT (n + 1) t := fun n t => by rw [ndT]; omega
def MeaP (w : World) (x y : Nat) (e : Ending) (w' : World) : Prop := e = .returned (.tuple #[.int .i64 (x : Int), .int .i64 (y : Int)]) /\ Below w.heap.size w w'
def MeaAll (n : Nat) : Prop := ∀ (w : World) (v : Array Value) (t : T n) (lo hi : Nat), TreeAt w lo hi n v t -> hi <= w.heap.size -> okT n t -> ndT n t <= 4096 -> htT n t <= 4096 -> Calls Tryz.prog 87 #[.agg v] w (MeaP w (ndT n t) (htT n t))
theorem measure_any : ∀ (n : Nat), MeaAll n
 | 0 => fun _ _ _ _ _ h => h.elim
 | n + 1 => by
  intro w v t lo hi h hsz hok hnd hht
  have ih := measure_any n
  obtain ⟨a, ac, ka, kc, rfl, hal, hkl, hac, hkc, hat, hkt⟩ := id h
  unfold tv at h ⊢
  obtain ⟨ho, hkk⟩ := hok
  obtain ⟨ka', kc', hk1, -, hkat, hkm⟩ := h.kids ho
  have hko := fun W => kidsOf_any W t.kind t.name a t.attrs.length ac t.text ka t.kids.length kc
  rw [hk1] at hko
  unfold maxK at hkm
  have HKT : Hid (KidsAt w lo hi n ka' (kidsT t)) := hkat
  have HOK : Hid (∀ k ∈ kidsT t, okT n k) := hkk
  have HND : Hid (ndT (n + 1) t = ((kidsT t).map (ndT n)).sum + 1) := rfl
  have HHT : Hid (htT (n + 1) t = ((kidsT t).map (htT n)).foldl max 0 + 1) := rfl
  have HBN : Hid (Below w.heap.size w (w.alloc (.cells #[.int .i64 t.kind, .string t.name, .slice a t.attrs.length ac, .string t.text, .slice ka t.kids.length kc] 31))) := below_new' w _
  clear hal hkl hac hkc hat hkt h ho hkk hkat hk1
  generalize kidsT t = L at *
  go_enter Tryz.func87, Tryz.ntmps87
  go_wp2_with fail
  refine (hko _).mono ?_
  rintro e w1 ⟨rfl, hb1⟩
  have HB1 : Hid (Below w.heap.size w w1) := HBN.out.trans (hb1.mono (by simp))
  clear hb1 hko
  go_wp2
  go_loopw [2, 3, 11] (fun q r iv wr => ∃ (j x y : Nat), j <= L.length /\ iv = .int .i64 (j : Int) /\ q = .int .i64 (x : Int) /\ r = .int .i64 (y : Int) /\ x <= 4096 /\ y <= 4096 /\ Hid (((L.take j).map (ndT n)).sum = x) /\ Hid (((L.take j).map (htT n)).foldl max 0 = y) /\ Hid (Below w.heap.size w wr)) (fun _ _ iv _ => L.length - (intOf iv).toNat)
  case atStart => exact ⟨0, 0, 0, by omega, rfl, rfl, rfl, by omega, by omega, rfl, rfl, HB1⟩
  case round =>
   obtain ⟨j, x, y, hj, rfl, rfl, rfl, hx, hy, hsx, hsy, hbw⟩ := hrel
   have hbs := hbw.out.size
   clear HB1
   by_cases hlt : j < L.length
   ·obtain ⟨k, hk⟩ : ∃ k, L[j]? = some k := ⟨_, List.getElem?_eq_getElem hlt⟩
    have hkt' := HKT.out.below hbw.out hsz
    obtain ⟨b, o, kk, nm, a', al', ac', tx, ka2, kl2, kc2, rfl, hb1, hb2, c0, c1, c2, c3, c4, htr⟩ := hkt'.get hk
    have hbr : b < wr.heap.size := by omega
    have hmk : k ∈ L := List.mem_of_getElem? hk
    have hnk : x + ndT n k <= 4096 := by
     have h1 := sum_part (L.map (ndT n)) (j + 1)
     have h2 := HND.out
     rw [<- List.map_take, take_more hk, List.map_append, List.sum_append, hsx.out] at h1
     simp at h1
     omega
    have hhk : htT n k <= 4096 := by
     have h1 := (foldl_max_ge (L.map (htT n)) 0).2 (htT n k) (List.mem_map_of_mem hmk)
     have h2 := HHT.out
     omega
    have hih := ih (wr.alloc (.cells #[.int .i64 kk, .string nm, .slice a' al' ac', .string tx, .slice ka2 kl2 kc2] 31)) _ k lo hi (htr.below (below_new' wr _) (by omega)) (by simp; omega) (HOK.out k hmk) (by omega) hhk
    have HSX : Hid (((L.take (j + 1)).map (ndT n)).sum = x + ndT n k) := by
     show _ = _
     rw [take_more hk, List.map_append, List.sum_append, hsx.out]
     simp
    have HSY : Hid (((L.take (j + 1)).map (htT n)).foldl max 0 = max y (htT n k)) := by
     show _ = _
     rw [take_more hk, List.map_append, List.foldl_append, hsy.out]
     rfl
    generalize ndT n k = p at *
    generalize htT n k = q at *
    clear hkt' hk htr hsx hsy hmk
    go_wp2_with fail
    refine hih.mono ?_
    rintro e w2 ⟨rfl, hb2⟩
    have HB2 : Hid (Below w.heap.size w w2) := (hbw.out.alloc hbs _).trans (hb2.mono (by simp; omega))
    clear hb2 hih c0 c1 c2 c3 c4
    go_wp2
    refine ⟨⟨j + 1, x + p, max y q, by omega, by go_num, by go_num, congrArg _ (by split <;> omega), by omega, by omega, HSX, HSY, HB2⟩, ?_⟩
    simp [intOf]
    omega
   ·have hje : j = L.length := by omega
    subst hje
    have e1 : ndT (n + 1) t = x + 1 := by rw [HND.out, <- hsx.out, List.take_length]
    have e2 : htT (n + 1) t = y + 1 := by rw [HHT.out, <- hsy.out, List.take_length]
    have H1 : Hid (ndT (n + 1) t = x + 1) := e1
    have H2 : Hid (htT (n + 1) t = y + 1) := e2
    clear e1 e2 hsx hsy ih hnd hht
    go_wp2
    go_ret2
    exact ⟨congrArg _ (v_two (by rw [H1.out]; omega) (by rw [H2.out]; omega)), hbw.out⟩
def SizAll (n : Nat) : Prop := ∀ (w : World) (v : Array Value) (t : T n) (lo hi : Nat), TreeAt w lo hi n v t -> hi <= w.heap.size -> okT n t -> ndT n t <= 4096 -> htT n t <= 4096 -> Calls Tryz.prog 72 #[.agg v] w (MeaP w (ndT n t) (htT n t))
theorem rsizeT_any : ∀ (n : Nat), SizAll n
 | 0 => fun _ _ _ _ _ h => h.elim
 | n + 1 => by
  intro w v t lo hi h hsz hok hnd hht
  have ih := rsizeT_any n
  obtain ⟨a, ac, ka, kc, rfl, hal, hkl, hac, hkc, hat, hkt⟩ := id h
  unfold tv at h ⊢
  obtain ⟨ho, hkk⟩ := hok
  obtain ⟨ka', kc', -, hk1, hkat, hkm⟩ := h.kids ho
  have hko := fun W => rkids_any W t.kind t.name a t.attrs.length ac t.text ka t.kids.length kc
  rw [hk1] at hko
  unfold maxK at hkm
  have HKT : Hid (KidsAt w lo hi n ka' (kidsT t)) := hkat
  have HOK : Hid (∀ k ∈ kidsT t, okT n k) := hkk
  have HND : Hid (ndT (n + 1) t = ((kidsT t).map (ndT n)).sum + 1) := rfl
  have HHT : Hid (htT (n + 1) t = ((kidsT t).map (htT n)).foldl max 0 + 1) := rfl
  have HBN : Hid (Below w.heap.size w (w.alloc (.cells #[.int .i64 t.kind, .string t.name, .slice a t.attrs.length ac, .string t.text, .slice ka t.kids.length kc] 31))) := below_new' w _
  clear hal hkl hac hkc hat hkt h ho hkk hkat hk1
  generalize kidsT t = L at *
  go_enter Tryz.func72, Tryz.ntmps72
  go_wp2_with fail
  refine (hko _).mono ?_
  rintro e w1 ⟨rfl, hb1⟩
  have HB1 : Hid (Below w.heap.size w w1) := HBN.out.trans (hb1.mono (by simp))
  clear hb1 hko
  go_wp2
  go_loopw [4, 5, 7] (fun q r iv wr => ∃ (j x y : Nat), j <= L.length /\ iv = .int .i64 (j : Int) /\ q = .int .i64 ((x : Int) + 1) /\ r = .int .i64 (y : Int) /\ x <= 4096 /\ y <= 4096 /\ Hid (((L.take j).map (ndT n)).sum = x) /\ Hid (((L.take j).map (htT n)).foldl max 0 = y) /\ Hid (Below w.heap.size w wr)) (fun _ _ iv _ => L.length - (intOf iv).toNat)
  case atStart => exact ⟨0, 0, 0, by omega, rfl, rfl, rfl, by omega, by omega, rfl, rfl, HB1⟩
  case round =>
   obtain ⟨j, x, y, hj, rfl, rfl, rfl, hx, hy, hsx, hsy, hbw⟩ := hrel
   have hbs := hbw.out.size
   clear HB1
   by_cases hlt : j < L.length
   ·obtain ⟨k, hk⟩ : ∃ k, L[j]? = some k := ⟨_, List.getElem?_eq_getElem hlt⟩
    have hkt' := HKT.out.below hbw.out hsz
    obtain ⟨b, o, kk, nm, a', al', ac', tx, ka2, kl2, kc2, rfl, hb1, hb2, c0, c1, c2, c3, c4, htr⟩ := hkt'.get hk
    have hbr : b < wr.heap.size := by omega
    have hmk : k ∈ L := List.mem_of_getElem? hk
    have hnk : x + ndT n k <= 4096 := by
     have h1 := sum_part (L.map (ndT n)) (j + 1)
     have h2 := HND.out
     rw [<- List.map_take, take_more hk, List.map_append, List.sum_append, hsx.out] at h1
     simp at h1
     omega
    have hhk : htT n k <= 4096 := by
     have h1 := (foldl_max_ge (L.map (htT n)) 0).2 (htT n k) (List.mem_map_of_mem hmk)
     have h2 := HHT.out
     omega
    have hih := ih wr _ k lo hi htr (by omega) (HOK.out k hmk) (by omega) hhk
    have HSX : Hid (((L.take (j + 1)).map (ndT n)).sum = x + ndT n k) := by
     show _ = _
     rw [take_more hk, List.map_append, List.sum_append, hsx.out]
     simp
    have HSY : Hid (((L.take (j + 1)).map (htT n)).foldl max 0 = max y (htT n k)) := by
     show _ = _
     rw [take_more hk, List.map_append, List.foldl_append, hsy.out]
     rfl
    generalize ndT n k = p at *
    generalize htT n k = q at *
    clear hkt' hk htr hsx hsy hmk
    go_wp2_with fail
    refine hih.mono ?_
    rintro e w2 ⟨rfl, hb2⟩
    have HB2 : Hid (Below w.heap.size w w2) := hbw.out.trans (hb2.mono hbs)
    clear hb2 hih c0 c1 c2 c3 c4
    by_cases hyq : y < q
    ·have hmx : max y q = q := by omega
     rw [hmx] at HSY
     clear hmx
     go_wp2
     refine ⟨⟨j + 1, x + p, q, by omega, by go_num, congrArg _ (by omega), rfl, by omega, by omega, HSX, HSY, HB2⟩, ?_⟩
     simp [intOf]
     omega
    ·have hmx : max y q = y := by omega
     rw [hmx] at HSY
     clear hmx
     go_wp2
     refine ⟨⟨j + 1, x + p, y, by omega, by go_num, congrArg _ (by omega), rfl, by omega, by omega, HSX, HSY, HB2⟩, ?_⟩
     simp [intOf]
     omega
   ·have hje : j = L.length := by omega
    subst hje
    have e1 : ndT (n + 1) t = x + 1 := by rw [HND.out, <- hsx.out, List.take_length]
    have e2 : htT (n + 1) t = y + 1 := by rw [HHT.out, <- hsy.out, List.take_length]
    have H1 : Hid (ndT (n + 1) t = x + 1) := e1
    have H2 : Hid (htT (n + 1) t = y + 1) := e2
    clear e1 e2 hsx hsy ih hnd hht
    go_wp2
    go_ret2
    exact ⟨congrArg _ (v_two (by rw [H1.out]; omega) (by rw [H2.out]; omega)), hbw.out⟩
end Go.Proofs.YtjkgjckkglfokaaGreat.Gr
/- Places: the program's isPlace, fits, findKind, canGive; the document's place, taken, Len. -/
namespace Go.Proofs.YtjkgjckkglfokaaGreat.Gr
open Go.RowKit
set_option linter.unusedVariables false
set_option linter.unusedSimpArgs false
set_option maxRecDepth 100000
set_option maxHeartbeats 400000
attribute [local go_sem] Bel.cell Bel.fz
def isPlaceB (wh : Int) (a : Nat) : Bool := decide (wh = 1 \/ wh = 2 \/ ((wh = 3 \/ wh = 4) /\ a ≠ 0))
theorem isPlace_any (w : World) (wh : Int) (a : Nat) : Calls Tryz.prog 83 #[.int .i64 wh, .int .u64 (a : Int)] w fun e w' => e = .returned (.bool (isPlaceB wh a)) /\ w' = w := by
 by_cases h1 : wh = 1
 ·subst h1
  go_enter Tryz.func83, Tryz.ntmps83
  go_wp2
  go_ret
  exact ⟨rfl, rfl⟩
 ·by_cases h2 : wh = 2
  ·subst h2
   go_enter Tryz.func83, Tryz.ntmps83
   go_wp2
   go_ret
   exact ⟨rfl, rfl⟩
  ·by_cases h3 : wh = 3
   ·subst h3
    go_enter Tryz.func83, Tryz.ntmps83
    go_wp2
    go_ret
    refine ⟨congrArg _ (v_bool (Bool.eq_iff_iff.2 ?_)), rfl⟩
    simp [isPlaceB]
    try omega
   ·by_cases h4 : wh = 4
    ·subst h4
     go_enter Tryz.func83, Tryz.ntmps83
     go_wp2
     go_ret
     refine ⟨congrArg _ (v_bool (Bool.eq_iff_iff.2 ?_)), rfl⟩
     simp [isPlaceB]
     try omega
    ·have e1 : isPlaceB wh a = false := by simp [isPlaceB, h1, h2, h3, h4]
     rw [e1]
     have b1 : (wh == 1) = false := beq_eq_false_iff_ne.2 h1
     have b2 : (wh == 2) = false := beq_eq_false_iff_ne.2 h2
     have b3 : (wh == 3) = false := beq_eq_false_iff_ne.2 h3
     have b4 : (wh == 4) = false := beq_eq_false_iff_ne.2 h4
     clear h1 h2 h3 h4 e1
     go_enter Tryz.func83, Tryz.ntmps83
     go_wp2
     go_ret
     exact ⟨rfl, rfl⟩
def fitsE (D : Dc) (p ht : Nat) : Int := if (∃ s, sl D p = some s /\ s.kind = 2) then 31 else if 64 < (ups D p).length + ht then 32 else 0
theorem fits_any (w : World) (R : Nat -> Prop) (db : Nat) (D : Dc) (p ht : Nat) (hv : View w R db D) (hw : WF D) (hp : p = 0 \/ ∃ s, sl D p = some s) (hht : ht <= 4096) (z : Int) (hz : fitsE D p ht = z) :
  Calls Tryz.prog 88 #[.pointer (some ⟨db, 0, none⟩), .int .u64 (p : Int), .int .i64 (ht : Int)] w fun e w' => e = .returned (.int .i64 z) /\ Below w.heap.size w w' := by
 obtain ⟨lv, hlv⟩ := hw.lev
 have hul : (ups D p).length <= 64 := by rw [ups_length hlv hp]; exact dep_le hlv hp
 have hdp := fun W (hb : Below w.heap.size w W) => depth_any W R db D p (hv.below hb) hw hp
 have HDP := hid hdp
 have hpl := hw.ltz hp
 clear hdp hlv
 cases hs : sl D p with
 | none =>
  have hfi := find_none w R db D p hv hw.fits hpl (sl_none hs)
  have hz' : (if 64 < (ups D p).length + ht then (32 : Int) else 0) = z := by
   have hn : ¬ (∃ s, sl D p = some s /\ s.kind = 2) := by
    rintro ⟨s, h, _⟩
    rw [hs] at h
    cases h
   rw [<- hz, fitsE, if_neg hn]
  generalize (ups D p).length = u at *
  clear hv hw hp hz hs
  by_cases hc : 64 < u + ht
  ·rw [if_pos hc] at hz'
   have HZ := hid hz'
   clear hz'
   go_enter Tryz.func88, Tryz.ntmps88
   go_wp2_with fail
   refine hfi.mono ?_
   rintro e w1 ⟨rfl, hb1⟩
   have HB1 := hid hb1
   clear hb1 hfi
   go_wp2_with fail
   refine (HDP.out w1 HB1.out).mono ?_
   rintro e w2 ⟨rfl, hb2⟩
   have HB2 := hid (HB1.out.trans (hb2.mono HB1.out.size))
   clear hb2
   go_wp2
   go_ret
   exact ⟨congrArg _ (v_int HZ.out), HB2.out⟩
  ·rw [if_neg hc] at hz'
   have HZ := hid hz'
   clear hz'
   go_enter Tryz.func88, Tryz.ntmps88
   go_wp2_with fail
   refine hfi.mono ?_
   rintro e w1 ⟨rfl, hb1⟩
   have HB1 := hid hb1
   clear hb1 hfi
   go_wp2_with fail
   refine (HDP.out w1 HB1.out).mono ?_
   rintro e w2 ⟨rfl, hb2⟩
   have HB2 := hid (HB1.out.trans (hb2.mono HB1.out.size))
   clear hb2
   go_wp2
   go_ret
   exact ⟨congrArg _ (v_int HZ.out), HB2.out⟩
 | some s =>
  obtain ⟨i, ha, hsi, -⟩ := sl_live hs
  obtain ⟨b, o, cap, aa, ac, ka, kc, h1, hcl, hbR, c0, c1, c2, -⟩ := hv.slot hsi
  have hfi := find_some w R db D p i hv hw.fits hpl ha b o cap h1
  have hbl := hv.lt b hbR
  by_cases k2 : s.kind = 2
  ·have hz' : z = 31 := by rw [<- hz, fitsE, if_pos ⟨s, hs, k2⟩]
   rw [k2] at c2
   clear hv hw hp hz hs ha hsi k2 HDP
   go_enter Tryz.func88, Tryz.ntmps88
   go_wp2_with fail
   refine hfi.mono ?_
   rintro e w1 ⟨rfl, hb1⟩
   obtain ⟨hcc, -⟩ := bcell hb1
   have HB1 := hid hb1
   clear hb1 hfi
   go_wp2
   go_ret
   exact ⟨congrArg _ (v_int hz'.symm), HB1.out⟩
  ·have hz' : (if 64 < (ups D p).length + ht then (32 : Int) else 0) = z := by
    have hn : ¬ (∃ s, sl D p = some s /\ s.kind = 2) := by
     rintro ⟨s', h, h2⟩
     rw [hs] at h
     cases h
     exact k2 h2
    rw [<- hz, fitsE, if_neg hn]
   have hkb : (s.kind == 2) = false := beq_eq_false_iff_ne.2 k2
   generalize (ups D p).length = u at *
   clear hv hw hp hz hs ha hsi k2
   by_cases hc : 64 < u + ht
   ·rw [if_pos hc] at hz'
    have HZ := hid hz'
    clear hz'
    go_enter Tryz.func88, Tryz.ntmps88
    go_wp2_with fail
    refine hfi.mono ?_
    rintro e w1 ⟨rfl, hb1⟩
    obtain ⟨hcc, -⟩ := bcell hb1
    have HB1 := hid hb1
    clear hb1 hfi
    go_wp2_with fail
    refine (HDP.out w1 HB1.out).mono ?_
    rintro e w2 ⟨rfl, hb2⟩
    have HB2 := hid (HB1.out.trans (hb2.mono HB1.out.size))
    clear hb2
    go_wp2
    go_ret
    exact ⟨congrArg _ (v_int HZ.out), HB2.out⟩
   ·rw [if_neg hc] at hz'
    have HZ := hid hz'
    clear hz'
    go_enter Tryz.func88, Tryz.ntmps88
    go_wp2_with fail
    refine hfi.mono ?_
    rintro e w1 ⟨rfl, hb1⟩
    obtain ⟨hcc, -⟩ := bcell hb1
    have HB1 := hid hb1
    clear hb1 hfi
    go_wp2_with fail
    refine (HDP.out w1 HB1.out).mono ?_
    rintro e w2 ⟨rfl, hb2⟩
    have HB2 := hid (HB1.out.trans (hb2.mono HB1.out.size))
    clear hb2
    go_wp2
    go_ret
    exact ⟨congrArg _ (v_int HZ.out), HB2.out⟩
theorem findKind_none (w : World) (R : Nat -> Prop) (db : Nat) (D : Dc) (h : Nat) (k : Int) (hv : View w R db D) (hf : Fits D) (hh : h < 18446744073709551616) (ha : atI D.S h = none) :
  Calls Tryz.prog 164 #[.pointer (some ⟨db, 0, none⟩), .int .u64 (h : Int), .int .i64 k] w fun e w' => e = .returned (.tuple #[.pointer none, .int .i64 8]) /\ Below w.heap.size w w' := by
 have hfi := find_none w R db D h hv hf hh ha
 clear hv ha
 go_enter Tryz.func164, Tryz.ntmps164
 go_wp2_with fail
 refine hfi.mono ?_
 rintro e w1 ⟨rfl, hb1⟩
 go_wp2
 go_ret2
 exact ⟨rfl, hb1⟩
theorem findKind_some (w : World) (R : Nat -> Prop) (db : Nat) (D : Dc) (h i : Nat) (s : Sl) (k : Int) (hv : View w R db D) (hf : Fits D) (hh : h < 18446744073709551616) (ha : atI D.S h = some i) (hs : D.S[i]? = some s) (b o cap : Nat) (hc : w.cell? ⟨db, 0, none⟩ = some (.slice (some ⟨b, o, none⟩) D.S.length cap)) :
  Calls Tryz.prog 164 #[.pointer (some ⟨db, 0, none⟩), .int .u64 (h : Int), .int .i64 k] w fun e w' => e = .returned (.tuple (if s.kind = k then #[.pointer (some ⟨b, o + i * 8, none⟩), .int .i64 0] else #[.pointer none, .int .i64 30])) /\ Below w.heap.size w w' := by
 have hfi := find_some w R db D h i hv hf hh ha b o cap hc
 obtain ⟨b', o', cap', aa, ac, ka, kc, h1, hcl, hbR, c0, c1, c2, -⟩ := hv.slot hs
 rw [hc] at h1
 simp only [Option.some.injEq, Value.slice.injEq, Addr.mk.injEq, and_true, true_and] at h1
 obtain ⟨⟨rfl, rfl⟩, rfl⟩ := h1
 have hbl := hv.lt b hbR
 clear hv ha hs
 by_cases hk : s.kind = k
 ·rw [if_pos hk]
  have hb : (s.kind == k) = true := beq_iff_eq.2 hk
  clear hk
  go_enter Tryz.func164, Tryz.ntmps164
  go_wp2_with fail
  refine hfi.mono ?_
  rintro e w1 ⟨rfl, hb1⟩
  obtain ⟨hcc, -⟩ := bcell hb1
  have HB1 := hid hb1
  clear hb1 hfi
  go_wp2
  go_ret2
  exact ⟨rfl, HB1.out⟩
 ·rw [if_neg hk]
  have hb : (s.kind == k) = false := beq_eq_false_iff_ne.2 hk
  clear hk
  go_enter Tryz.func164, Tryz.ntmps164
  go_wp2_with fail
  refine hfi.mono ?_
  rintro e w1 ⟨rfl, hb1⟩
  obtain ⟨hcc, -⟩ := bcell hb1
  have HB1 := hid hb1
  clear hb1 hfi
  go_wp2
  go_ret2
  exact ⟨rfl, HB1.out⟩
theorem canGive_any (w : World) (g : Nat) (lv : Bool) (k : Int) (nm : ByteArray) (av : Value) (tx : ByteArray) (p : Nat) (kv : Value) :
  Calls Tryz.prog 117 #[.agg #[.int .u32 (g : Int), .bool lv, .int .i64 k, .string nm, av, .string tx, .int .u64 (p : Int), kv]] w fun e w' => e = .returned (.bool (!lv && decide (g < 4294967295))) /\ Below w.heap.size w w' := by
 cases lv
 ·go_enter Tryz.func117, Tryz.ntmps117
  go_wp2
  go_ret
  refine ⟨congrArg _ (v_bool (Bool.eq_iff_iff.2 ?_)), below_new' w _⟩
  simp
  try omega
 ·go_enter Tryz.func117, Tryz.ntmps117
  go_wp2
  go_ret
  exact ⟨rfl, below_new' w _⟩
end Go.Proofs.YtjkgjckkglfokaaGreat.Gr
/- Places, by the document; how many indexes are taken. -/
namespace Go.Proofs.YtjkgjckkglfokaaGreat.Gr
open Go.RowKit
set_option linter.unusedVariables false
set_option linter.unusedSimpArgs false
set_option maxRecDepth 100000
set_option maxHeartbeats 400000
attribute [local go_sem] Bel.cell Bel.fz
def RplP (w : World) (p : Nat) (z : Int) (e : Ending) (w' : World) : Prop := e = .returned (.tuple #[.int .u64 (p : Int), .int .i64 z]) /\ Below w.heap.size w w'
theorem rplace_arg (w : World) (db : Nat) (wh : Int) (a : Nat) (h : isPlaceB wh a = false) : Calls Tryz.prog 70 #[.pointer (some ⟨db, 0, none⟩), .int .i64 wh, .int .u64 (a : Int)] w (RplP w 0 1) := by
 simp only [isPlaceB, decide_eq_false_iff_not] at h
 by_cases h1 : wh < 1
 ·clear h
  go_enter Tryz.func70, Tryz.ntmps70
  go_wp2
  go_ret2
  exact ⟨rfl, Below.refl _ _⟩
 ·have d1 : decide (wh < 1) = false := by simpa using h1
  by_cases h2 : 4 < wh
  ·clear h
   go_enter Tryz.func70, Tryz.ntmps70
   go_wp2
   go_ret2
   exact ⟨rfl, Below.refl _ _⟩
  ·have d2 : decide (4 < wh) = false := by simpa using h2
   have ha : a = 0 := by
    apply Decidable.byContradiction
    intro ha
    apply h
    omega
   have h3 : 2 < wh := by
    apply Decidable.byContradiction
    intro h3
    apply h
    omega
   subst ha
   clear h
   go_enter Tryz.func70, Tryz.ntmps70
   go_wp2
   go_ret2
   exact ⟨rfl, Below.refl _ _⟩
theorem rplace_node (w : World) (R : Nat -> Prop) (db : Nat) (D : Dc) (wh : Int) (a : Nat) (hv : View w R db D) (hf : Fits D) (hh : a < 18446744073709551616) (h : isPlaceB wh a = true) (h0 : a ≠ 0) (ha : atI D.S a = none) :
  Calls Tryz.prog 70 #[.pointer (some ⟨db, 0, none⟩), .int .i64 wh, .int .u64 (a : Int)] w (RplP w 0 8) := by
 simp only [isPlaceB, decide_eq_true_eq] at h
 have d1 : decide (wh < 1) = false := by simp; omega
 have d2 : decide (4 < wh) = false := by simp; omega
 have d3 : ((a : Int) == 0) = false := by simp; omega
 have d4 : ((a : Int) != 0) = true := by simp; omega
 have hlv := rlive_any w R db D a hv hf hh
 rw [ha] at hlv
 clear hv h0 ha h
 go_enter Tryz.func70, Tryz.ntmps70
 go_wp2_with fail
 refine hlv.mono ?_
 rintro e w1 ⟨rfl, rfl⟩
 go_wp2
 go_ret2
 exact ⟨rfl, Below.refl _ _⟩
theorem rplace_zero (w : World) (db : Nat) (wh : Int) (h : wh = 1 \/ wh = 2) :
  Calls Tryz.prog 70 #[.pointer (some ⟨db, 0, none⟩), .int .i64 wh, .int .u64 0] w (RplP w 0 0) := by
 have d1 : decide (wh < 1) = false := by simp; omega
 have d2 : decide (4 < wh) = false := by simp; omega
 have d3 : decide (2 < wh) = false := by simp; omega
 have d4 : decide (wh <= 2) = true := by simp; omega
 have d5 : wh <= 2 := by omega
 clear h
 go_enter Tryz.func70, Tryz.ntmps70
 go_wp2
 refine wp_region_bel (by kernel_rfl) (by kernel_rfl) ?_
 intro hne
 repeat go_big_quiet_step (fail)
 refine wpQuiet_nil ?_
 rintro _ ⟨u, rfl⟩
 go_wp2
 go_ret2
 exact ⟨rfl, u.h⟩
theorem rplace_some (w : World) (R : Nat -> Prop) (db : Nat) (D : Dc) (wh : Int) (a : Nat) (s : Sl) (hv : View w R db D) (hw : WF D) (h : wh = 1 \/ wh = 2 \/ wh = 3 \/ wh = 4) (hs : sl D a = some s) (p : Nat) (z : Int) (hpz : (if wh <= 2 then (if s.kind = 2 then (0, 31) else (a, 0)) else (s.parent, 0)) = ((p, z) : Nat × Int)) :
  Calls Tryz.prog 70 #[.pointer (some ⟨db, 0, none⟩), .int .i64 wh, .int .u64 (a : Int)] w (RplP w p z) := by
 obtain ⟨hal, ha0, i, hai, hsi, -⟩ := hw.lt hs
 have d1 : decide (wh < 1) = false := by simp; omega
 have d2 : decide (4 < wh) = false := by simp; omega
 have d3 : ((a : Int) == 0) = false := by simp; omega
 have d4 : ((a : Int) != 0) = true := by simp; omega
 have hlv := rlive_any w R db D a hv hw.fits hal
 rw [hai] at hlv
 have hat := fun W (hb : Below w.heap.size w W) => rat_any W R db D a (hv.below hb) hw.fits hal
 rw [atR_some hai] at hat
 obtain ⟨b, o, cap, aa, ac, ka, kc, h1, hcl, hbR, c0, c1, c2, c3, c4, c5, c6, c7, -⟩ := hv.slot hsi
 have hbl := hv.lt b hbR
 have hdl := hv.lt db hv.docs
 have hi1 : (i : Int) < ((D.S.length : Nat) : Int) := by have := (List.getElem?_eq_some_iff.1 hsi).1; omega
 have hl4 := hw.fits.len
 clear hv hw hs hai hsi
 by_cases hw2 : wh <= 2
 ·rw [if_pos hw2] at hpz
  by_cases hk : s.kind = 2
  ·rw [if_pos hk] at hpz
   cases hpz
   have hkb : (s.kind == 2) = true := beq_iff_eq.2 hk
   clear hk
   go_enter Tryz.func70, Tryz.ntmps70
   go_wp2_with fail
   refine hlv.mono ?_
   rintro e w1 ⟨rfl, rfl⟩
   go_wp2
   refine wp_region_bel (by kernel_rfl) (by kernel_rfl) ?_
   intro hne
   repeat go_big_quiet_step ((go_at_call 28; exact Calls.bel_of_same (hat _ (Bel.h _))))
   refine wpQuiet_nil ?_
   rintro _ ⟨u, rfl⟩
   go_wp2
   go_ret2
   exact ⟨rfl, u.h⟩
  ·rw [if_neg hk] at hpz
   cases hpz
   have hkb : (s.kind == 2) = false := beq_eq_false_iff_ne.2 hk
   clear hk
   go_enter Tryz.func70, Tryz.ntmps70
   go_wp2_with fail
   refine hlv.mono ?_
   rintro e w1 ⟨rfl, rfl⟩
   go_wp2
   refine wp_region_bel (by kernel_rfl) (by kernel_rfl) ?_
   intro hne
   repeat go_big_quiet_step ((go_at_call 28; exact Calls.bel_of_same (hat _ (Bel.h _))))
   refine wpQuiet_nil ?_
   rintro _ ⟨u, rfl⟩
   go_wp2
   go_ret2
   exact ⟨rfl, u.h⟩
 ·rw [if_neg hw2] at hpz
  cases hpz
  go_enter Tryz.func70, Tryz.ntmps70
  go_wp2_with fail
  refine hlv.mono ?_
  rintro e w1 ⟨rfl, rfl⟩
  go_wp2
  refine wp_region_bel (by kernel_rfl) (by kernel_rfl) ?_
  intro hne
  repeat go_big_quiet_step ((go_at_call 28; exact Calls.bel_of_same (hat _ (Bel.h _))))
  refine wpQuiet_nil ?_
  rintro _ ⟨u, rfl⟩
  go_wp2
  go_ret2
  exact ⟨rfl, u.h⟩
def cnt (f : Sl -> Bool) (S : List Sl) : Nat := (S.filter f).length
theorem cnt_snoc (f : Sl -> Bool) {S : List Sl} {i : Nat} {s : Sl} (h : S[i]? = some s) : cnt f (S.take (i + 1)) = cnt f (S.take i) + if f s then 1 else 0 := by
 unfold cnt
 rw [take_more h, List.filter_append, List.length_append]
 cases hf : f s <;> simp [hf]
theorem cnt_le (f : Sl -> Bool) (S : List Sl) : cnt f S <= S.length := List.length_filter_le _ _
def takenB (s : Sl) : Bool := s.live || decide (s.gen = 4294967295)
theorem rtaken_any (w : World) (R : Nat -> Prop) (db : Nat) (D : Dc) (hv : View w R db D) (hf : Fits D) :
  Calls Tryz.prog 74 #[.pointer (some ⟨db, 0, none⟩)] w fun e w' => e = .returned (.int .i64 (cnt takenB D.S : Int)) /\ w' = w := by
 have hl := hf.len
 obtain ⟨a, cap, h1, hcl, -⟩ := hv.head
 have HV := hid hv
 have HF := hid hf
 clear hv hf
 go_enter Tryz.func74, Tryz.ntmps74
 go_wp2
 go_loop [3, 4] (fun q iv => ∃ (i x : Nat), i <= D.S.length /\ iv = .int .i64 (i : Int) /\ q = .int .i64 (x : Int) /\ x <= 4096 /\ Hid (cnt takenB (D.S.take i) = x)) (fun _ iv => D.S.length - (intOf iv).toNat)
 case atStart => exact ⟨0, 0, by omega, rfl, rfl, by omega, rfl⟩
 case round =>
  obtain ⟨i, x, hi, rfl, rfl, hx, hc⟩ := hrel
  by_cases hlt : i < D.S.length
  ·obtain ⟨s, hs⟩ : ∃ s, D.S[i]? = some s := ⟨_, List.getElem?_eq_getElem hlt⟩
   obtain ⟨b, o, cap', aa, ac, ka, kc, h1', -, hbR, c0, c1, -⟩ := HV.out.slot hs
   rw [h1] at h1'
   simp only [Option.some.injEq, Value.slice.injEq, true_and] at h1'
   obtain ⟨rfl, rfl⟩ := h1'
   have hsn := cnt_snoc takenB hs
   rw [hc.out] at hsn
   have hle := cnt_le takenB (D.S.take (i + 1))
   have htl : (D.S.take (i + 1)).length <= 4096 := by rw [List.length_take]; omega
   have hg := HF.out.gen i s hs
   cases hlv : s.live
   ·rw [hlv] at c1
    by_cases hgw : s.gen = 4294967295
    ·have HC : Hid (cnt takenB (D.S.take (i + 1)) = x + 1) := by show _ = _; simpa [takenB, hgw] using hsn
     have hx1 : x + 1 <= 4096 := by have := HC.out; omega
     have hb : ((s.gen : Int) == 4294967295) = true := by rw [hgw]; rfl
     clear hsn hs hc hlv hle hgw
     go_wp2
     go_round
     case rel => exact ⟨i + 1, x + 1, by omega, by go_num, by go_num, hx1, HC⟩
     case measure => simp [intOf]; omega
    ·have HC : Hid (cnt takenB (D.S.take (i + 1)) = x) := by show _ = _; simpa [takenB, hgw, hlv] using hsn
     have hb : ((s.gen : Int) == 4294967295) = false := by simp; omega
     clear hsn hs hc hlv hle hgw
     go_wp2
     go_round
     case rel => exact ⟨i + 1, x, by omega, by go_num, rfl, hx, HC⟩
     case measure => simp [intOf]; omega
   ·rw [hlv] at c1
    have HC : Hid (cnt takenB (D.S.take (i + 1)) = x + 1) := by show _ = _; simpa [takenB, hlv] using hsn
    have hx1 : x + 1 <= 4096 := by have := HC.out; omega
    clear hsn hs hc hlv hle
    go_wp2
    go_round
    case rel => exact ⟨i + 1, x + 1, by omega, by go_num, by go_num, hx1, HC⟩
    case measure => simp [intOf]; omega
  ·have hfin : cnt takenB D.S = x := by rw [<- hc.out, List.take_of_length_le (by omega)]
   have HF2 := hid hfin
   clear hfin hc
   go_wp2
   go_ret
   exact ⟨congrArg _ (v_int (by rw [HF2.out])), rfl⟩
end Go.Proofs.YtjkgjckkglfokaaGreat.Gr
