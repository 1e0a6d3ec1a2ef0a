/- A node and all within it: the program's gather and All. -/
import Derived.Test.YtmapmkogjhinmaaGreatA04
namespace Go.Proofs.YtmapmkogjhinmaaGreat
open Go.RowKit
set_option maxRecDepth 100000
set_option maxHeartbeats 1000000
set_option linter.unusedVariables false
set_option linter.unusedSimpArgs false
def hvals (l : List Nat) : List Value := l.map fun h : Nat => .int .u64 (h : Int)
theorem hvals_length (l : List Nat) : (hvals l).length = l.length := by simp [hvals]
theorem hvals_append (l m : List Nat) : hvals (l ++ m) = hvals l ++ hvals m := by simp [hvals]
theorem hvals_one (l : List Nat) : ∀ u ∈ hvals l, u.oneCell' = true := by
 intro u hu
 obtain ⟨t, _, rfl⟩ := List.mem_map.1 hu
 rfl
theorem info42 : InfoOf Tryz.prog 32 (.int .u64 0) 1 8 := by unfold InfoOf; kernel_rfl
theorem own_len {w : World} {base : Nat} {e : TypeId} {v : Value} {n : Nat} {xs : List Nat} (h : w.ownsRow base e 1 v n (hvals xs)) : n = xs.length := by
 have := h.1
 rw [hvals_length] at this
 omega
theorem own_after {w w' : World} {base : Nat} {e : TypeId} {size : Nat} {v : Value} {n : Nat} {xs : List Value} (h : w.ownsRow base e size v n xs) (hb : Below w.heap.size w w') : w'.ownsRow base e size v n xs :=
 own_of_block h (fun k hk => hb.block k (own_block_lt h k hk).2)
def GathP (w : World) (base : Nat) (xs ys : List Nat) (e : Ending) (w' : World) : Prop :=
 ∃ v', e = .returned v' /\ w'.ownsRow base 32 1 v' (xs.length + ys.length) (hvals (xs ++ ys)) /\ Below base w w'
def GathAll (D : Dc) (R : Nat -> Prop) (db : Nat) (lv : Nat -> Nat) (k : Nat) : Prop := ∀ (w : World) (v : Value) (n : Nat) (xs : List Nat) (a : Option Addr) (l : List Nat) (cap base : Nat), View w R db D -> (∀ b, R b -> b < base) -> base <= w.heap.size -> w.ownsRow base 32 1 v n (hvals xs) -> HandsAt w R a l ->
  (∀ h ∈ l, ∃ s, sl D h = some s /\ 64 - lv h <= k) -> xs.length + (l.flatMap (allH D)).length <= 1000000 -> l.length <= 1000000 -> Calls Tryz.prog 90 #[.pointer (some ⟨db, 0, none⟩), v, .slice a l.length cap] w (GathP w base xs (l.flatMap (allH D)))
theorem flatMap_snoc {α β : Type} {l : List α} {f : α -> List β} {i : Nat} {x : α} (h : l[i]? = some x) : (l.take (i + 1)).flatMap f = (l.take i).flatMap f ++ f x := by
 rw [take_more h, List.flatMap_append]
 simp
theorem flatMap_part {α β : Type} (l : List α) (f : α -> List β) (i : Nat) : ((l.take i).flatMap f).length <= (l.flatMap f).length := by
 have : l.flatMap f = (l.take i).flatMap f ++ (l.drop i).flatMap f := by rw [<- List.flatMap_append, List.take_append_drop]
 rw [this]
 simp
theorem gather_step (D : Dc) (R : Nat -> Prop) (db : Nat) (lv : Nat -> Nat) (hw : WF D) (hl : Lev D lv) (k : Nat) (ih : ∀ j, j + 1 = k -> GathAll D R db lv j) : GathAll D R db lv k := by
 intro w v n xs a l cap base hv hR hbase hown hat hlive htot hll
 have hn := own_len hown
 subst hn
 obtain ⟨va, vc, rfl⟩ := own_slice hown
 have HV : Hid (View w R db D) := hv
 have HW : Hid (WF D) := hw
 have HL : Hid (Lev D lv) := hl
 have HR : Hid (∀ b, R b -> b < base) := hR
 have HAT : Hid (HandsAt w R a l) := hat
 have HLV : Hid (∀ h ∈ l, ∃ s, sl D h = some s /\ 64 - lv h <= k) := hlive
 have HIH : Hid (∀ j, j + 1 = k -> GathAll D R db lv j) := ih
 have HOW : Hid (w.ownsRow base 32 1 (.slice va xs.length vc) xs.length (hvals xs)) := hown
 clear hv hw hl hR hat hlive ih hown
 go_enter Tryz.func90, Tryz.ntmps90
 go_wp2
 go_loopw [1, 8, 11] (fun q _ iv wr => ∃ (i : Nat) (qa : Option Addr) (qc : Nat), i <= l.length /\ iv = .int .i64 (i : Int) /\ q = .slice qa (xs ++ (l.take i).flatMap (allH D)).length qc /\ Hid (wr.ownsRow base 32 1 (.slice qa (xs ++ (l.take i).flatMap (allH D)).length qc) (xs ++ (l.take i).flatMap (allH D)).length (hvals (xs ++ (l.take i).flatMap (allH D)))) /\ Hid (Below base w wr)) (fun _ _ iv _ => l.length - (intOf iv).toNat)
 case atStart => exact ⟨0, va, vc, by omega, rfl, by simp, (by rw [List.take_zero, List.flatMap_nil, List.append_nil]; exact HOW), Below.refl _ _⟩
 case round =>
  obtain ⟨i, qa, qc, hi, rfl, rfl, hrow, hbw⟩ := hrel
  have hbs := hbw.out.size
  by_cases hlt : i < l.length
  ·obtain ⟨x, hx⟩ : ∃ x, l[i]? = some x := ⟨_, List.getElem?_eq_getElem hlt⟩
   obtain ⟨s, hs, hk⟩ := HLV.out x (List.mem_of_getElem? hx)
   obtain ⟨b, o, ha, hbR, hc⟩ := HAT.out i x hx
   subst ha
   have hbb := HR.out b hbR
   have hc' : wr.cell? ⟨b, o + i, none⟩ = some (.int .u64 (x : Int)) := (hbw.out.cell (p := ⟨b, _, none⟩) hbb).trans hc
   have hbl : b < wr.heap.size := by omega
   have hvr : View wr R db D := HV.out.to (fun _ h => h) (fun b hb => by have := HR.out b hb; omega) (fun b o hb => hbw.out.cell (p := ⟨b, o, none⟩) (HR.out b hb))
   obtain ⟨hxl, -, j, haj, hsj, -⟩ := HW.out.lt hs
   have hst := allH_step HW.out hs
   have hsn := flatMap_snoc (f := allH D) hx
   have hpt := flatMap_part l (allH D) (i + 1)
   have hkd : ∀ c ∈ lst D x, ∃ s, sl D c = some s /\ 64 - lv c <= k - 1 := fun c hc => by
    obtain ⟨s', h1, _, h2⟩ := HW.out.kid HL.out hs hc
    exact ⟨s', h1, by omega⟩
   have hlv63 := (HL.out x s hs).1
   have hih := HIH.out (k - 1) (by omega)
   rw [hst] at hsn
   have hszA : (xs ++ (l.take i).flatMap (allH D)).length + 1 + ((lst D x).flatMap (allH D)).length <= 1000000 := by
    rw [hsn] at hpt
    simp only [List.length_append, List.length_cons] at hpt ⊢
    omega
   have hkl : (lst D x).length <= 1000000 := by
    have hks : ((lst D x).length <= ((lst D x).flatMap (allH D)).length) := by
     clear hszA hpt hsn hst hih
     have : ∀ (m : List Nat), (∀ c ∈ m, ∃ s, sl D c = some s) -> m.length <= (m.flatMap (allH D)).length := by
      intro m
      induction m with
      | nil => simp
      | cons c r ihm =>
       intro hm
       obtain ⟨sc, hsc⟩ := hm c (by simp)
       have := ihm (fun c hc => hm c (by simp [hc]))
       rw [List.flatMap_cons, allH_step HW.out hsc]
       simp only [List.length_cons, List.length_append]
       omega
     exact this _ (fun c hc => by obtain ⟨s', h1, _⟩ := hkd c hc; exact ⟨s', h1⟩)
    omega
   generalize hXS : xs ++ (l.take i).flatMap (allH D) = XS at *
   have HSN : Hid (xs ++ (l.take (i + 1)).flatMap (allH D) = XS ++ [x] ++ (lst D x).flatMap (allH D)) := by
    show _ = _
    rw [hsn, <- hXS]
    simp
   have HVR : Hid (View wr R db D) := hvr
   have HKD : Hid (∀ c ∈ lst D x, ∃ s, sl D c = some s /\ 64 - lv c <= k - 1) := hkd
   have HS : Hid (sl D x = some s) := hs
   have HAJ : Hid (atI D.S x = some j) := haj
   have HSJ : Hid (D.S[j]? = some s) := hsj
   clear hsn hst hpt hXS hvr hkd hs haj hsj hx hk HLV HIH HOW hc
   have tok : True := trivial
   go_wp2_with (at_builtin; have _t := tok; refine wpList_app rfl _ _ rfl Tryz.underlying56 info42 rfl (by decide) base (.slice qa XS.length qc) XS.length (hvals XS) rfl (own_of_block hrow.out (fun k hk => Below.heap_alloc _ _ _ (own_block_lt hrow.out k hk).2)) (some ⟨wr.heap.size, 0, none⟩) 1 1 [.int .u64 (x : Int)] rfl rfl (news_new wr #[.int .u64 (x : Int)] 32) (by simp [Value.oneCell']) (by unfold maxLen; omega) (by omega) (by simp; omega) ?_; intro v1 w1 hown1 hg1 _ hat1; clear tok _t; obtain ⟨va1, vc1, hv1⟩ := own_slice hown1; subst hv1; have HO1 : Hid (w1.ownsRow base 32 1 (.slice va1 (XS.length + 1) vc1) (XS.length + 1) (hvals (XS ++ [x]))) := (by rw [hvals_append]; exact hown1); have HB1 : Hid (Below base w w1) := (hbw.out.alloc (by omega) _).grown hg1 (by simp; omega) (fun k hk => (own_block_lt hrow.out k hk).1); clear hown1 hg1 hat1)
   have hv1 : View w1 R db D := HV.out.to (fun _ h => h) (fun b hb => by have := HR.out b hb; have := HB1.out.size; omega) (fun b o hb => HB1.out.cell (p := ⟨b, o, none⟩) (HR.out b hb))
   have hs1 := HB1.out.size
   obtain ⟨b2, o2, cap2, aa, ac, ka, kc, g1, gcl, gbR, c0, c1, c2, c3, c4, c5, c6, c7, l1, l2, -, hkat⟩ := hv1.slot HSJ.out
   have hfi := find_some w1 R db D x j hv1 HW.out.fits hxl HAJ.out b2 o2 cap2 g1
   have hb2l := HR.out b2 gbR
   have hek : lst D x = s.kids := by
    have h0 : x ≠ 0 := by rintro rfl; have := HS.out; rw [sl_zero] at this; cases this
    have := HS.out
    simp [lst, h0, this]
   rw [hek] at hszA hkl
   have HKD2 : Hid (∀ c ∈ s.kids, ∃ s, sl D c = some s /\ 64 - lv c <= k - 1) := by rw [<- hek]; exact HKD
   have HSN2 : Hid (xs ++ (l.take (i + 1)).flatMap (allH D) = XS ++ [x] ++ s.kids.flatMap (allH D)) := by rw [<- hek]; exact HSN
   have HKA : Hid (HandsAt w1 R ka s.kids) := hkat
   have HV1 : Hid (View w1 R db D) := hv1
   have hb2s : b2 < w1.heap.size := by omega
   clear c0 c1 c2 c3 c4 c5 c6 hkat hv1 g1 gcl HKD HSN hek HAJ HSJ HS hc' hrow
   refine hfi.mono ?_
   rintro e w2 ⟨rfl, hb2⟩
   obtain ⟨hcc, -⟩ := bcell hb2
   have HB2 : Hid (Below w1.heap.size w1 w2) := hb2
   have hs2 := hb2.size
   clear hb2 hfi
   go_wp2_with fail
   refine (hih w2 _ (XS.length + 1) (XS ++ [x]) ka s.kids kc base (HV1.out.below HB2.out) HR.out (by omega) (own_after HO1.out HB2.out) (HKA.out.to (fun _ h => h) (fun b o hb => HB2.out.cell (p := ⟨b, o, none⟩) (by have := HR.out b hb; show b < w1.heap.size; omega))) HKD2.out (by rw [List.length_append]; simpa using hszA) hkl).mono ?_
   rintro e w3 ⟨v3, rfl, hown3, hb3⟩
   obtain ⟨va3, vc3, hv3⟩ := own_slice hown3
   subst hv3
   have hln : (XS ++ [x]).length + (s.kids.flatMap (allH D)).length = (xs ++ (l.take (i + 1)).flatMap (allH D)).length := by rw [HSN2.out]; simp; omega
   rw [hln, <- HSN2.out] at hown3
   rw [hln]
   clear hln
   generalize hN : (xs ++ (l.take (i + 1)).flatMap (allH D)).length = N at hown3 ⊢
   have HN : Hid ((xs ++ (l.take (i + 1)).flatMap (allH D)).length = N) := hN
   have HO3 : Hid (w3.ownsRow base 32 1 (.slice va3 N vc3) N (hvals (xs ++ (l.take (i + 1)).flatMap (allH D)))) := hown3
   have HB3 : Hid (Below base w w3) := (HB1.out.trans (HB2.out.mono (by omega))).trans hb3
   clear hown3 hb3 hN HB2 HB1 HO1 HKA HV1 HKD2 HSN2 hcc hszA hkl hih
   go_wp2
   go_roundw
   case rel => exact ⟨i + 1, va3, vc3, by omega, by go_num, by rw [HN.out], by rw [HN.out]; exact HO3, HB3⟩
   case measure => simp [intOf]; omega
  ·have hie : i = l.length := by omega
   subst hie
   have hr := hrow.out
   rw [List.take_length] at hr
   have HR2 : Hid (wr.ownsRow base 32 1 (.slice qa (xs ++ l.flatMap (allH D)).length qc) (xs ++ l.flatMap (allH D)).length (hvals (xs ++ l.flatMap (allH D)))) := hr
   rw [List.take_length]
   clear hr hrow HIH
   go_wp2
   go_ret
   exact ⟨_, rfl, by rw [<- List.length_append]; exact HR2.out, hbw.out⟩
theorem gather_any (D : Dc) (R : Nat -> Prop) (db : Nat) (lv : Nat -> Nat) (hw : WF D) (hl : Lev D lv) : ∀ k, GathAll D R db lv k
 | 0 => gather_step D R db lv hw hl 0 (fun j hj => by omega)
 | k + 1 => gather_step D R db lv hw hl (k + 1) (fun j hj => by
  have : j = k := by omega
  subst this
  exact gather_any D R db lv hw hl j)
def AllP (w : World) (ys : List Nat) (e : Ending) (w' : World) : Prop :=
 ∃ a cap, e = .returned (.tuple #[.slice a ys.length cap, .int .i64 0]) /\ w'.ownsRow w.heap.size 32 1 (.slice a ys.length cap) ys.length (hvals ys) /\ Below w.heap.size w w'
theorem own_nil (w : World) (base : Nat) (e : TypeId) (size : Nat) : w.ownsRow base e size (.slice none 0 0) 0 [] := ⟨by simp, .inl ⟨rfl, rfl⟩⟩
theorem own_one (w : World) (x : Value) (e : TypeId) : (w.alloc (.cells #[x] e)).ownsRow w.heap.size e 1 (.slice (some ⟨w.heap.size, 0, none⟩) 1 1) 1 [x] :=
 ⟨rfl, .inr ⟨w.heap.size, 1, #[x], rfl, Nat.le_refl _, heap_alloc_new w _, Nat.le_refl _, by unfold maxLen; omega, rfl, rfl⟩⟩
theorem roots_len {D : Dc} (hw : WF D) : D.roots.length <= 4096 /\ (allR D).length <= 4096 := by
 have h1 := live_len hw (allR_nodup hw) (allR_live hw)
 have hl := hw.fits.len
 have hn := hw.nodup 0
 have e : lst D 0 = D.roots := by simp [lst]
 rw [e] at hn
 obtain ⟨lv, hlv⟩ := hw.lev
 have h2 := live_len hw hn (fun x hx => by obtain ⟨s, h, _⟩ := hw.root hlv hx; exact ⟨s, h⟩)
 omega
theorem kids_len {D : Dc} (hw : WF D) {h : Nat} {s : Sl} (e : sl D h = some s) : s.kids.length <= 4096 /\ (allH D h).length <= 4096 := by
 have h1 := live_len hw (allH_nodup hw e) (allH_live hw e)
 have hl := hw.fits.len
 have hn := hw.nodup h
 have h0 : h ≠ 0 := by rintro rfl; rw [sl_zero] at e; cases e
 have ek : lst D h = s.kids := by simp [lst, h0, e]
 obtain ⟨lv, hlv⟩ := hw.lev
 have h2 := live_len hw hn (fun x hx => by obtain ⟨s, h, _⟩ := hw.kid hlv e hx; exact ⟨s, h⟩)
 rw [ek] at h2
 omega
theorem lst_len {D : Dc} (hw : WF D) {p : Nat} (hp : p = 0 \/ ∃ s, sl D p = some s) : (lst D p).length <= 4096 := by
 rcases hp with rfl | ⟨s, hs⟩
 ·have := (roots_len hw).1
  simpa [lst] using this
 ·have h0 : p ≠ 0 := by rintro rfl; rw [sl_zero] at hs; cases hs
  have := (kids_len hw hs).1
  simpa [lst, h0, hs] using this
theorem pall_zero (w : World) (R : Nat -> Prop) (db : Nat) (D : Dc) (hv : View w R db D) (hw : WF D) :
  Calls Tryz.prog 53 #[.pointer (some ⟨db, 0, none⟩), .int .u64 0] w (AllP w (allR D)) := by
 obtain ⟨lv, hl⟩ := hw.lev
 obtain ⟨a, cap, h1, h2, h3⟩ := hv.roots
 have hrl := roots_len hw
 have hg := gather_any D R db lv hw hl 64 w (.slice none 0 0) 0 [] a D.roots cap w.heap.size hv hv.lt (Nat.le_refl _) (own_nil _ _ _ _) h3 (fun h hh => by
  obtain ⟨s, h1, _, h2⟩ := hw.root hl hh
  exact ⟨s, h1, by omega⟩) (by show 0 + (allR D).length <= _; omega) (by omega)
 clear h3 hv hw hl
 go_enter Tryz.func53, Tryz.ntmps53
 go_wp2_with fail
 refine hg.mono ?_
 rintro e w' ⟨v', rfl, hown, hb⟩
 have e1 : D.roots.flatMap (allH D) = allR D := rfl
 rw [e1, List.length_nil, Nat.zero_add, List.nil_append] at hown
 obtain ⟨va, vc, hv⟩ := own_slice hown
 subst hv
 generalize hN : (allR D).length = N at *
 have HN : Hid ((allR D).length = N) := hN
 have HO : Hid (w'.ownsRow w.heap.size 32 1 (.slice va N vc) N (hvals (allR D))) := hown
 have HB : Hid (Below w.heap.size w w') := hb
 clear hown hb hg hN e1
 go_wp2
 go_ret2
 exact ⟨va, vc, by rw [HN.out]; rfl, by rw [HN.out]; exact HO.out, HB.out⟩
theorem pall_some (w : World) (R : Nat -> Prop) (db : Nat) (D : Dc) (h : Nat) (s : Sl) (hv : View w R db D) (hw : WF D) (hs : sl D h = some s) :
  Calls Tryz.prog 53 #[.pointer (some ⟨db, 0, none⟩), .int .u64 (h : Int)] w (AllP w (allH D h)) := by
 obtain ⟨lv, hl⟩ := hw.lev
 obtain ⟨hhl, hh0, i, ha, hsi, -⟩ := hw.lt hs
 obtain ⟨b, o, cap, aa, ac, ka, kc, h1, hcl, hbR, c0, c1, c2, c3, c4, c5, c6, c7, l1, l2, -, hka⟩ := hv.slot hsi
 have hfi := find_some w R db D h i hv hw.fits hhl ha b o cap h1
 have hkl := kids_len hw hs
 have hst := allH_step hw hs
 have h0 : h ≠ 0 := by omega
 have ek : lst D h = s.kids := by simp [lst, h0, hs]
 rw [ek] at hst
 have hz : ((h : Int) == 0) = false := by simp; omega
 have hbl := hv.lt b hbR
 have hln : 1 + (s.kids.flatMap (allH D)).length = (allH D h).length := by rw [hst]; simp; omega
 have HG : Hid (∀ W, Below w.heap.size w W -> Calls Tryz.prog 90 #[.pointer (some ⟨db, 0, none⟩), .slice (some ⟨W.heap.size, 0, none⟩) 1 1, .slice ka s.kids.length kc] (W.alloc (.cells #[.int .u64 (h : Int)] 32)) (GathP (W.alloc (.cells #[.int .u64 (h : Int)] 32)) w.heap.size [h] (s.kids.flatMap (allH D)))) := fun W hb => by
  have hb' : Below w.heap.size w (W.alloc (.cells #[.int .u64 (h : Int)] 32)) := hb.alloc hb.size _
  exact gather_any D R db lv hw hl 64 _ _ 1 [h] ka s.kids kc w.heap.size (hv.below hb') hv.lt hb'.size (own_base (own_one W (.int .u64 (h : Int)) 32) (fun k hk => by
   simp only [Value.ownBlock, Option.some.injEq] at hk
   have := hb.size
   omega)) (hka.to (fun _ h => h) (fun b o hb2 => hb'.cell (p := ⟨b, o, none⟩) (hv.lt b hb2))) (fun c hc => by
   obtain ⟨s', h1, _, h2⟩ := hw.kid hl hs (by rw [ek]; exact hc)
   exact ⟨s', h1, by omega⟩) (by show 1 + _ <= _; omega) (by omega)
 have HST : Hid ([h] ++ s.kids.flatMap (allH D) = allH D h) := hst.symm
 have HLN : Hid (1 + (s.kids.flatMap (allH D)).length = (allH D h).length) := hln
 clear hst hln hka hv hw hl hs ha hsi c0 c1 c2 c3 c4 c5 c6 ek h0
 go_enter Tryz.func53, Tryz.ntmps53
 go_wp2_with fail
 refine hfi.mono ?_
 rintro e w1 ⟨rfl, hb1⟩
 obtain ⟨hcc, -⟩ := bcell hb1
 have HB1 : Hid (Below w.heap.size w w1) := hb1
 have hbl1 : b < w1.heap.size := by have := hb1.size; omega
 clear hb1
 go_wp2_with fail
 refine (HG.out w1 HB1.out).mono ?_
 rintro e w' ⟨v', rfl, hown, hb⟩
 obtain ⟨va, vc, hv⟩ := own_slice hown
 subst hv
 have hown2 := hown
 rw [HST.out] at hown2
 have e3 : [h].length + (s.kids.flatMap (allH D)).length = (allH D h).length := HLN.out
 rw [e3] at hown2 ⊢
 generalize hN : (allH D h).length = N at hown2 ⊢
 have HN : Hid ((allH D h).length = N) := hN
 have HO : Hid (w'.ownsRow w.heap.size 32 1 (.slice va N vc) N (hvals (allH D h))) := hown2
 have HB : Hid (Below w.heap.size w w') := (HB1.out.alloc HB1.out.size _).trans hb
 clear hown hown2 hb hN HLN HST e3 HG
 go_wp2
 go_ret2
 exact ⟨va, vc, by rw [HN.out]; rfl, by rw [HN.out]; exact HO.out, HB.out⟩
theorem pall_none (w : World) (R : Nat -> Prop) (db : Nat) (D : Dc) (h : Nat) (hv : View w R db D) (hf : Fits D) (hh : h < 18446744073709551616) (h0 : h ≠ 0) (ha : atI D.S h = none) :
  Calls Tryz.prog 53 #[.pointer (some ⟨db, 0, none⟩), .int .u64 (h : Int)] w fun e w' => e = .returned (.tuple #[.slice none 0 0, .int .i64 8]) /\ Below w.heap.size w w' := by
 have hfi := find_none w R db D h hv hf hh ha
 have hz : ((h : Int) == 0) = false := by simp; omega
 clear hv h0 ha
 go_enter Tryz.func53, Tryz.ntmps53
 go_wp2_with fail
 refine hfi.mono ?_
 rintro e w1 ⟨rfl, hb1⟩
 go_wp2
 go_ret2
 exact ⟨rfl, hb1⟩
def allA (D : Dc) (h : Nat) : List Nat := if h = 0 then allR D else allH D h
def RallAll (D : Dc) (R : Nat -> Prop) (db : Nat) (lv : Nat -> Nat) (k : Nat) : Prop := ∀ (w : World) (v : Value) (n : Nat) (xs : List Nat) (h : Nat) (base : Nat), View w R db D -> (∀ b, R b -> b < base) -> base <= w.heap.size -> w.ownsRow base 32 1 v n (hvals xs) ->
  ((h = 0 /\ 65 <= k) \/ ∃ s, sl D h = some s /\ 64 - lv h <= k) -> xs.length + (allA D h).length <= 1000000 -> Calls Tryz.prog 104 #[.pointer (some ⟨db, 0, none⟩), .int .u64 (h : Int), v] w (GathP w base xs (allA D h))
theorem WF.ltz {D : Dc} (hw : WF D) {h : Nat} (hh : h = 0 \/ ∃ s, sl D h = some s) : h < 18446744073709551616 := by
 rcases hh with rfl | ⟨s, hs⟩
 ·omega
 ·exact (hw.lt hs).1
theorem allA_eq {D : Dc} (hw : WF D) {h : Nat} (hh : h = 0 \/ ∃ s, sl D h = some s) : allA D h = (if h = 0 then [] else [h]) ++ (lst D h).flatMap (allH D) := by
 rcases hh with rfl | ⟨s, hs⟩
 ·simp [allA, allR, lst]
 ·have h0 : h ≠ 0 := by rintro rfl; rw [sl_zero] at hs; cases hs
  rw [allA, if_neg h0, if_neg h0, allH_step hw hs]
  rfl
theorem rall_zero (D : Dc) (R : Nat -> Prop) (db : Nat) (lv : Nat -> Nat) (hw : WF D) (hl : Lev D lv) (k : Nat) (ih : ∀ j, j + 1 = k -> RallAll D R db lv j) (w : World) (va : Option Addr) (vc : Nat) (xs : List Nat) (h : Nat) (base : Nat) (hv : View w R db D) (hR : ∀ b, R b -> b < base) (hbase : base <= w.heap.size) (hown : w.ownsRow base 32 1 (.slice va xs.length vc) xs.length (hvals xs))
  (hh : h = 0 /\ 65 <= k) (htot : xs.length + (allA D h).length <= 1000000) : Calls Tryz.prog 104 #[.pointer (some ⟨db, 0, none⟩), .int .u64 (h : Int), .slice va xs.length vc] w (GathP w base xs (allA D h)) := by
 have hlive : h = 0 \/ ∃ s, sl D h = some s := Or.inl hh.1
 have hae := allA_eq hw hlive
 have hhl := hw.ltz hlive
 rw [if_pos hh.1, List.nil_append] at hae
 have hz : ((h : Int) == 0) = true := by simp [hh.1]
 have hkd : ∀ c ∈ lst D h, ∃ s, sl D c = some s /\ 64 - lv c <= k - 1 := fun c hc => by
  rw [hh.1] at hc
  obtain ⟨s', h1, _, h2⟩ := hw.root hl (by simpa [lst] using hc)
  exact ⟨s', h1, by omega⟩
 have hk1 : 1 <= k := by omega
 have hkl := lst_len hw hlive
 have HGL : Hid (∀ W, Below base w W -> ∃ a cap, (lst D h).length <= cap /\ HandsAt W R a (lst D h) /\ Calls Tryz.prog 77 #[.pointer (some ⟨db, 0, none⟩), .int .u64 (h : Int)] W fun e w' => e = .returned (.slice a (lst D h).length cap) /\ Below W.heap.size W w') := fun W hb =>
  rlist_any W R db D h (hv.to (fun _ h => h) (fun b hb' => by have := hR b hb'; have := hb.size; omega) (fun b o hb' => hb.cell (p := ⟨b, o, none⟩) (hR b hb'))) hw.fits hhl hlive
 have HV : Hid (View w R db D) := hv
 have HR : Hid (∀ b, R b -> b < base) := hR
 have HKD : Hid (∀ c ∈ lst D h, ∃ s, sl D c = some s /\ 64 - lv c <= k - 1) := hkd
 have HIH : Hid (RallAll D R db lv (k - 1)) := ih (k - 1) (by omega)
 have HOW : Hid (w.ownsRow base 32 1 (.slice va xs.length vc) xs.length (hvals xs)) := hown
 have HAE : Hid (xs ++ allA D h = xs ++ (lst D h).flatMap (allH D)) := by show _ = _; rw [hae]
 have HTOT : Hid ((xs ++ (lst D h).flatMap (allH D)).length <= 1000000) := by show _ <= _; rw [<- HAE.out, List.length_append]; exact htot
 have HW : Hid (WF D) := hw
 clear hv hw hl hR hkd ih hown hae htot hlive hh
 generalize lst D h = L at *
 go_enter Tryz.func104, Tryz.ntmps104
 obtain ⟨a, cap, hlc, hat, hcal⟩ := HGL.out w (Below.refl _ _)
 have HAT : Hid (HandsAt w R a L) := hat
 clear hat
 go_wp2_with fail
 refine hcal.mono ?_
 rintro e w1 ⟨rfl, hb1⟩
 have HB1 : Hid (Below base w w1) := hb1.mono hbase
 have HO1 : Hid (w1.ownsRow base 32 1 (.slice va xs.length vc) xs.length (hvals xs)) := own_after HOW.out hb1
 clear hb1 hcal HOW
 go_wp2
 go_loopw [2, 8] (fun q iv wr => ∃ (i : Nat) (qa : Option Addr) (qc : Nat), i <= L.length /\ iv = .int .i64 (i : Int) /\ q = .slice qa (xs ++ (L.take i).flatMap (allH D)).length qc /\ Hid (wr.ownsRow base 32 1 (.slice qa (xs ++ (L.take i).flatMap (allH D)).length qc) (xs ++ (L.take i).flatMap (allH D)).length (hvals (xs ++ (L.take i).flatMap (allH D)))) /\ Hid (Below base w wr)) (fun _ iv _ => L.length - (intOf iv).toNat)
 case atStart => exact ⟨0, va, vc, by omega, rfl, by simp, (by rw [List.take_zero, List.flatMap_nil, List.append_nil]; exact HO1), HB1⟩
 case round =>
  obtain ⟨i, qa, qc, hi, rfl, rfl, hrow, hbw⟩ := hrel
  have hbs := hbw.out.size
  clear HO1 HB1
  by_cases hlt : i < L.length
  ·obtain ⟨x, hx⟩ : ∃ x, L[i]? = some x := ⟨_, List.getElem?_eq_getElem hlt⟩
   obtain ⟨s, hs, hk⟩ := HKD.out x (List.mem_of_getElem? hx)
   obtain ⟨b, o, ha, hbR, hc⟩ := HAT.out i x hx
   subst ha
   have hbb := HR.out b hbR
   have hc' : wr.cell? ⟨b, o + i, none⟩ = some (.int .u64 (x : Int)) := (hbw.out.cell (p := ⟨b, _, none⟩) hbb).trans hc
   have hbl : b < wr.heap.size := by omega
   have hvr : View wr R db D := HV.out.to (fun _ h => h) (fun b hb => by have := HR.out b hb; omega) (fun b o hb => hbw.out.cell (p := ⟨b, o, none⟩) (HR.out b hb))
   have hsn := flatMap_snoc (f := allH D) hx
   have hpt := flatMap_part L (allH D) (i + 1)
   have hx0 : x ≠ 0 := by rintro rfl; rw [sl_zero] at hs; cases hs
   have hax : allA D x = allH D x := if_neg hx0
   have hszA : (xs ++ (L.take i).flatMap (allH D)).length + (allA D x).length <= 1000000 := by
    have := HTOT.out
    rw [hax]
    rw [hsn] at hpt
    simp only [List.length_append] at this hpt ⊢
    omega
   have hih := HIH.out wr (.slice qa (xs ++ (L.take i).flatMap (allH D)).length qc) _ (xs ++ (L.take i).flatMap (allH D)) x base hvr HR.out (by omega) hrow.out (.inr ⟨s, hs, hk⟩) hszA
   rw [hax] at hih
   have HSN : Hid (xs ++ (L.take (i + 1)).flatMap (allH D) = (xs ++ (L.take i).flatMap (allH D)) ++ allH D x) := by
    show _ = _
    rw [hsn]
    simp
   generalize xs ++ (L.take i).flatMap (allH D) = XS at *
   generalize hM : XS.length = M at *
   have HM : Hid (XS.length = M) := hM
   clear hsn hpt hvr hs hk hx hc hrow hM hax hx0
   go_wp2_with fail
   refine hih.mono ?_
   rintro e w3 ⟨v3, rfl, hown3, hb3⟩
   obtain ⟨va3, vc3, hv3⟩ := own_slice hown3
   subst hv3
   rw [<- HSN.out] at hown3
   have hln : XS.length + (allH D x).length = (xs ++ (L.take (i + 1)).flatMap (allH D)).length := by rw [HSN.out]; simp
   rw [hln] at hown3 ⊢
   clear hln
   generalize hN : (xs ++ (L.take (i + 1)).flatMap (allH D)).length = N at hown3 ⊢
   have HN : Hid ((xs ++ (L.take (i + 1)).flatMap (allH D)).length = N) := hN
   have HO3 : Hid (w3.ownsRow base 32 1 (.slice va3 N vc3) N (hvals (xs ++ (L.take (i + 1)).flatMap (allH D)))) := hown3
   have HB3 : Hid (Below base w w3) := hbw.out.trans hb3
   clear hown3 hb3 hN HSN hszA hih HM hc'
   go_wp2
   go_roundw
   case rel => exact ⟨i + 1, va3, vc3, by omega, by go_num, by rw [HN.out], by rw [HN.out]; exact HO3, HB3⟩
   case measure => simp [intOf]; omega
  ·have hie : i = L.length := by omega
   subst hie
   have hr := hrow.out
   rw [List.take_length, <- HAE.out] at hr
   rw [List.take_length, <- HAE.out]
   have HR2 : Hid (wr.ownsRow base 32 1 (.slice qa (xs ++ allA D h).length qc) (xs ++ allA D h).length (hvals (xs ++ allA D h))) := hr
   clear hr hrow HIH
   go_wp2
   go_ret
   exact ⟨_, rfl, by rw [<- List.length_append]; exact HR2.out, hbw.out⟩
theorem rall_live (D : Dc) (R : Nat -> Prop) (db : Nat) (lv : Nat -> Nat) (hw : WF D) (hl : Lev D lv) (k : Nat) (ih : ∀ j, j + 1 = k -> RallAll D R db lv j) (w : World) (va : Option Addr) (vc : Nat) (xs : List Nat) (h : Nat) (base : Nat) (hv : View w R db D) (hR : ∀ b, R b -> b < base) (hbase : base <= w.heap.size) (hown : w.ownsRow base 32 1 (.slice va xs.length vc) xs.length (hvals xs))
  (hh : ∃ s, sl D h = some s /\ 64 - lv h <= k) (htot : xs.length + (allA D h).length <= 1000000) : Calls Tryz.prog 104 #[.pointer (some ⟨db, 0, none⟩), .int .u64 (h : Int), .slice va xs.length vc] w (GathP w base xs (allA D h)) := by
 have hlive : h = 0 \/ ∃ s, sl D h = some s := Or.inr (by obtain ⟨s, hs, _⟩ := hh; exact ⟨s, hs⟩)
 have hae := allA_eq hw hlive
 have hhl := hw.ltz hlive
 obtain ⟨s, hs, hk⟩ := hh
 have h0 : h ≠ 0 := by rintro rfl; rw [sl_zero] at hs; cases hs
 rw [if_neg h0] at hae
 have hz : ((h : Int) == 0) = false := by simp; omega
 have hkd : ∀ c ∈ lst D h, ∃ s, sl D c = some s /\ 64 - lv c <= k - 1 := fun c hc => by
  obtain ⟨s', h1, _, h2⟩ := hw.kid hl hs hc
  exact ⟨s', h1, by omega⟩
 have hk1 : 1 <= k := by have := (hl h s hs).1; omega
 clear hs hk h0
 have hkl := lst_len hw hlive
 have HGL : Hid (∀ W, Below base w W -> ∃ a cap, (lst D h).length <= cap /\ HandsAt W R a (lst D h) /\ Calls Tryz.prog 77 #[.pointer (some ⟨db, 0, none⟩), .int .u64 (h : Int)] W fun e w' => e = .returned (.slice a (lst D h).length cap) /\ Below W.heap.size W w') := fun W hb =>
  rlist_any W R db D h (hv.to (fun _ h => h) (fun b hb' => by have := hR b hb'; have := hb.size; omega) (fun b o hb' => hb.cell (p := ⟨b, o, none⟩) (hR b hb'))) hw.fits hhl hlive
 have HV : Hid (View w R db D) := hv
 have HR : Hid (∀ b, R b -> b < base) := hR
 have HKD : Hid (∀ c ∈ lst D h, ∃ s, sl D c = some s /\ 64 - lv c <= k - 1) := hkd
 have HIH : Hid (RallAll D R db lv (k - 1)) := ih (k - 1) (by omega)
 have HOW : Hid (w.ownsRow base 32 1 (.slice va xs.length vc) xs.length (hvals xs)) := hown
 have HAE : Hid (xs ++ allA D h = (xs ++ [h]) ++ (lst D h).flatMap (allH D)) := by show _ = _; rw [hae]; simp
 have HTOT : Hid (((xs ++ [h]) ++ (lst D h).flatMap (allH D)).length <= 1000000) := by show _ <= _; rw [<- HAE.out, List.length_append]; exact htot
 have HW : Hid (WF D) := hw
 clear hv hw hl hR hkd ih hown hae htot hlive 
 generalize lst D h = L at *
 have htk : xs.length + 1 <= 1000000 := by have := HTOT.out; simp only [List.length_append, List.length_cons, List.length_nil] at this; omega
 have tok : True := trivial
 go_enter Tryz.func104, Tryz.ntmps104
 go_wp2_with (at_builtin; have _t := tok; refine wpList_app rfl _ _ rfl Tryz.underlying56 info42 rfl (by decide) base (.slice va xs.length vc) xs.length (hvals xs) rfl (own_of_block HOW.out (fun k hk => Below.heap_alloc _ _ _ (own_block_lt HOW.out k hk).2)) (some ⟨w.heap.size, 0, none⟩) 1 1 [.int .u64 (h : Int)] rfl rfl (news_new w #[.int .u64 (h : Int)] 32) (by simp [Value.oneCell']) (by unfold maxLen; omega) (by omega) (by simp; omega) ?_; intro v1 w0 hown1 hg1 _ hat1; clear tok _t; obtain ⟨va1, vc1, hv1⟩ := own_slice hown1; subst hv1; have HO0 : Hid (w0.ownsRow base 32 1 (.slice va1 (xs.length + 1) vc1) (xs.length + 1) (hvals (xs ++ [h]))) := (by rw [hvals_append]; exact hown1); have HB0 : Hid (Below base w w0) := (((Below.refl base w).alloc hbase _).grown hg1 (by simp; omega) (fun k hk => (own_block_lt HOW.out k hk).1)); clear hown1 hg1 hat1)
 obtain ⟨a, cap, hlc, hat, hcal⟩ := HGL.out w0 HB0.out
 have HAT : Hid (HandsAt w R a L) := hat.to (fun _ h => h) (fun b o hb => (HB0.out.cell (p := ⟨b, o, none⟩) (HR.out b hb)).symm)
 clear hat
 refine hcal.mono ?_
 rintro e w1 ⟨rfl, hb1⟩
 have HB1 : Hid (Below base w w1) := HB0.out.trans (hb1.mono (by have := HB0.out.size; omega))
 have HO1 : Hid (w1.ownsRow base 32 1 (.slice va1 (xs.length + 1) vc1) (xs.length + 1) (hvals (xs ++ [h]))) := own_after HO0.out hb1
 clear hb1 hcal HOW HO0 HB0
 generalize hX0 : (xs ++ [h]) = X0 at *
 have hX0l : (xs.length + 1) = X0.length := by rw [<- hX0]; simp
 rw [hX0l] at HO1
 rw [hX0l]
 clear hX0 hX0l
 go_wp2
 go_loopw [2, 8] (fun q iv wr => ∃ (i : Nat) (qa : Option Addr) (qc : Nat), i <= L.length /\ iv = .int .i64 (i : Int) /\ q = .slice qa (X0 ++ (L.take i).flatMap (allH D)).length qc /\ Hid (wr.ownsRow base 32 1 (.slice qa (X0 ++ (L.take i).flatMap (allH D)).length qc) (X0 ++ (L.take i).flatMap (allH D)).length (hvals (X0 ++ (L.take i).flatMap (allH D)))) /\ Hid (Below base w wr)) (fun _ iv _ => L.length - (intOf iv).toNat)
 case atStart => exact ⟨0, va1, vc1, by omega, rfl, by simp, (by rw [List.take_zero, List.flatMap_nil, List.append_nil]; exact HO1), HB1⟩
 case round =>
  obtain ⟨i, qa, qc, hi, rfl, rfl, hrow, hbw⟩ := hrel
  have hbs := hbw.out.size
  clear HO1 HB1
  by_cases hlt : i < L.length
  ·obtain ⟨x, hx⟩ : ∃ x, L[i]? = some x := ⟨_, List.getElem?_eq_getElem hlt⟩
   obtain ⟨s, hs, hk⟩ := HKD.out x (List.mem_of_getElem? hx)
   obtain ⟨b, o, ha, hbR, hc⟩ := HAT.out i x hx
   subst ha
   have hbb := HR.out b hbR
   have hc' : wr.cell? ⟨b, o + i, none⟩ = some (.int .u64 (x : Int)) := (hbw.out.cell (p := ⟨b, _, none⟩) hbb).trans hc
   have hbl : b < wr.heap.size := by omega
   have hvr : View wr R db D := HV.out.to (fun _ h => h) (fun b hb => by have := HR.out b hb; omega) (fun b o hb => hbw.out.cell (p := ⟨b, o, none⟩) (HR.out b hb))
   have hsn := flatMap_snoc (f := allH D) hx
   have hpt := flatMap_part L (allH D) (i + 1)
   have hx0 : x ≠ 0 := by rintro rfl; rw [sl_zero] at hs; cases hs
   have hax : allA D x = allH D x := if_neg hx0
   have hszA : (X0 ++ (L.take i).flatMap (allH D)).length + (allA D x).length <= 1000000 := by
    have := HTOT.out
    rw [hax]
    rw [hsn] at hpt
    simp only [List.length_append] at this hpt ⊢
    omega
   have hih := HIH.out wr (.slice qa (X0 ++ (L.take i).flatMap (allH D)).length qc) _ (X0 ++ (L.take i).flatMap (allH D)) x base hvr HR.out (by omega) hrow.out (.inr ⟨s, hs, hk⟩) hszA
   rw [hax] at hih
   have HSN : Hid (X0 ++ (L.take (i + 1)).flatMap (allH D) = (X0 ++ (L.take i).flatMap (allH D)) ++ allH D x) := by
    show _ = _
    rw [hsn]
    simp
   generalize X0 ++ (L.take i).flatMap (allH D) = XS at *
   generalize hM : XS.length = M at *
   have HM : Hid (XS.length = M) := hM
   clear hsn hpt hvr hs hk hx hc hrow hM hax hx0
   go_wp2_with fail
   refine hih.mono ?_
   rintro e w3 ⟨v3, rfl, hown3, hb3⟩
   obtain ⟨va3, vc3, hv3⟩ := own_slice hown3
   subst hv3
   rw [<- HSN.out] at hown3
   have hln : XS.length + (allH D x).length = (X0 ++ (L.take (i + 1)).flatMap (allH D)).length := by rw [HSN.out]; simp
   rw [hln] at hown3 ⊢
   clear hln
   generalize hN : (X0 ++ (L.take (i + 1)).flatMap (allH D)).length = N at hown3 ⊢
   have HN : Hid ((X0 ++ (L.take (i + 1)).flatMap (allH D)).length = N) := hN
   have HO3 : Hid (w3.ownsRow base 32 1 (.slice va3 N vc3) N (hvals (X0 ++ (L.take (i + 1)).flatMap (allH D)))) := hown3
   have HB3 : Hid (Below base w w3) := hbw.out.trans hb3
   clear hown3 hb3 hN HSN hszA hih HM hc'
   go_wp2
   go_roundw
   case rel => exact ⟨i + 1, va3, vc3, by omega, by go_num, by rw [HN.out], by rw [HN.out]; exact HO3, HB3⟩
   case measure => simp [intOf]; omega
  ·have hie : i = L.length := by omega
   subst hie
   have hr := hrow.out
   rw [List.take_length, <- HAE.out] at hr
   rw [List.take_length, <- HAE.out]
   have HR2 : Hid (wr.ownsRow base 32 1 (.slice qa (xs ++ allA D h).length qc) (xs ++ allA D h).length (hvals (xs ++ allA D h))) := hr
   clear hr hrow HIH
   go_wp2
   go_ret
   exact ⟨_, rfl, by rw [<- List.length_append]; exact HR2.out, hbw.out⟩
theorem rall_any (D : Dc) (R : Nat -> Prop) (db : Nat) (lv : Nat -> Nat) (hw : WF D) (hl : Lev D lv) : ∀ k, RallAll D R db lv k
 | 0 => fun w v n xs h base hv hR hbase hown hh htot => by
  rcases hh with ⟨_, h2⟩ | ⟨s, hs, h2⟩
  ·omega
  ·have := (hl h s hs).1; omega
 | k + 1 => fun w v n xs h base hv hR hbase hown hh htot => by
  have hn := own_len hown
  subst hn
  obtain ⟨va, vc, rfl⟩ := own_slice hown
  have ih : ∀ j, j + 1 = k + 1 -> RallAll D R db lv j := fun j hj => by
   have : j = k := by omega
   subst this
   exact rall_any D R db lv hw hl j
  rcases hh with hh | hh
  ·exact rall_zero D R db lv hw hl (k + 1) ih w va vc xs h base hv hR hbase hown hh htot
  ·exact rall_live D R db lv hw hl (k + 1) ih w va vc xs h base hv hR hbase hown hh htot
theorem allA_len {D : Dc} (hw : WF D) {h : Nat} (hh : h = 0 \/ ∃ s, sl D h = some s) : (allA D h).length <= 4096 := by
 rcases hh with rfl | ⟨s, hs⟩
 ·exact (roots_len hw).2
 ·have h0 : h ≠ 0 := by rintro rfl; rw [sl_zero] at hs; cases hs
  rw [allA, if_neg h0]
  exact (kids_len hw hs).2
theorem rAll_some (w : World) (R : Nat -> Prop) (db : Nat) (D : Dc) (h : Nat) (hv : View w R db D) (hw : WF D) (hh : h = 0 \/ ∃ s, sl D h = some s) :
  Calls Tryz.prog 71 #[.pointer (some ⟨db, 0, none⟩), .int .u64 (h : Int)] w (AllP w (allA D h)) := by
 obtain ⟨lv, hl⟩ := hw.lev
 have hhl := hw.ltz hh
 have hal := allA_len hw hh
 have hlv := rlive_any w R db D h hv hw.fits hhl
 have HG : Hid (Calls Tryz.prog 104 #[.pointer (some ⟨db, 0, none⟩), .int .u64 (h : Int), .slice (some ⟨w.heap.size, 0, none⟩) 0 0] (w.alloc (.cells #[] 32)) (GathP (w.alloc (.cells #[] 32)) w.heap.size [] (allA D h))) :=
  rall_any D R db lv hw hl 65 (w.alloc (.cells #[] 32)) (.slice (some ⟨w.heap.size, 0, none⟩) 0 0) 0 [] h w.heap.size (hv.below (below_new' w _)) hv.lt (by simp) (own_new w 32 1) (by
   rcases hh with h0 | ⟨s, hs⟩
   ·exact .inl ⟨h0, Nat.le_refl _⟩
   ·exact .inr ⟨s, hs, by omega⟩) (by show 0 + _ <= _; omega)
 by_cases h0 : h = 0
 ·have hz : ((h : Int) != 0) = false := by simp [h0]
  clear hv hw hl hh hlv h0
  go_enter Tryz.func71, Tryz.ntmps71
  go_wp2_with fail
  refine HG.out.mono ?_
  rintro e w' ⟨v', rfl, hown, hb⟩
  rw [List.length_nil, Nat.zero_add, List.nil_append] at hown
  obtain ⟨va, vc, hv⟩ := own_slice hown
  subst hv
  generalize hN : (allA D h).length = N at *
  have HN : Hid ((allA D h).length = N) := hN
  have HO : Hid (w'.ownsRow w.heap.size 32 1 (.slice va N vc) N (hvals (allA D h))) := hown
  have HB : Hid (Below w.heap.size w w') := (below_new' w _).trans hb
  clear hown hb HG hN
  go_wp2
  go_ret2
  exact ⟨va, vc, by rw [HN.out]; rfl, by rw [HN.out]; exact HO.out, HB.out⟩
 ·have hz : ((h : Int) != 0) = true := by simp; omega
  have hsm : (atI D.S h).isSome = true := by
   rcases hh with h | ⟨s, hs⟩
   ·exact absurd h h0
   ·obtain ⟨i, ha, _⟩ := sl_live hs
    simp [ha]
  rw [hsm] at hlv
  clear hv hw hl hh h0 hsm
  go_enter Tryz.func71, Tryz.ntmps71
  go_wp2_with fail
  refine hlv.mono ?_
  rintro e w1 ⟨rfl, rfl⟩
  go_wp2_with fail
  refine HG.out.mono ?_
  rintro e w' ⟨v', rfl, hown, hb⟩
  rw [List.length_nil, Nat.zero_add, List.nil_append] at hown
  obtain ⟨va, vc, hv⟩ := own_slice hown
  subst hv
  generalize hN : (allA D h).length = N at *
  have HN : Hid ((allA D h).length = N) := hN
  have HO : Hid (w'.ownsRow w1.heap.size 32 1 (.slice va N vc) N (hvals (allA D h))) := hown
  have HB : Hid (Below w1.heap.size w1 w') := (below_new' w1 _).trans hb
  clear hown hb HG hN
  go_wp2
  go_ret2
  exact ⟨va, vc, by rw [HN.out]; rfl, by rw [HN.out]; exact HO.out, HB.out⟩
def hgts (D : Dc) : Nat -> Nat -> Nat
 | 0, _ => 0
 | k + 1, h => ((lst D h).map (hgts D k)).foldl max 0 + 1
def hgt (D : Dc) (h : Nat) : Nat := hgts D 64 h
theorem foldl_max_le (l : List Nat) (N a : Nat) (ha : a <= N) (h : ∀ x ∈ l, x <= N) : l.foldl max a <= N := by
 induction l generalizing a with
 | nil => exact ha
 | cons x r ih => exact ih (max a x) (by have := h x (by simp); omega) (fun y hy => h y (by simp [hy]))
theorem hgts_eq {D : Dc} (hw : WF D) {lv : Nat -> Nat} (hl : Lev D lv) : ∀ (k : Nat) (h : Nat) (s : Sl), sl D h = some s -> 64 - lv h <= k -> ∀ j, 64 - lv h <= j -> hgts D k h = hgts D j h
 | 0, h, s, e, hk => by have := (hl h s e).1; omega
 | k + 1, h, s, e, hk => by
  intro j hj
  cases j with
  | zero => have := (hl h s e).1; omega
  | succ j =>
   rw [hgts, hgts]
   have : (lst D h).map (hgts D k) = (lst D h).map (hgts D j) := List.map_congr_left fun c hc => by
    obtain ⟨s', h1, _, h2⟩ := hw.kid hl e hc
    exact hgts_eq hw hl k c s' h1 (by omega) j (by omega)
   rw [this]
theorem hgt_step {D : Dc} (hw : WF D) {h : Nat} {s : Sl} (e : sl D h = some s) : hgt D h = ((lst D h).map (hgt D)).foldl max 0 + 1 := by
 obtain ⟨lv, hl⟩ := hw.lev
 unfold hgt
 rw [hgts]
 have : (lst D h).map (hgts D 63) = (lst D h).map (hgts D 64) := List.map_congr_left fun c hc => by
  obtain ⟨s', h1, _, h2⟩ := hw.kid hl e hc
  exact hgts_eq hw hl 63 c s' h1 (by omega) 64 (by omega)
 rw [this]
theorem hgts_le (D : Dc) : ∀ (k h : Nat), hgts D k h <= k
 | 0, h => by simp [hgts]
 | k + 1, h => by
  rw [hgts]
  have := foldl_max_le ((lst D h).map (hgts D k)) k 0 (Nat.zero_le _) (fun x hx => by
   obtain ⟨c, _, rfl⟩ := List.mem_map.1 hx
   exact hgts_le D k c)
  omega
def HgtP (w : World) (x : Nat) (e : Ending) (w' : World) : Prop := e = .returned (.int .i64 (x : Int)) /\ Below w.heap.size w w'
def HgtAll (D : Dc) (R : Nat -> Prop) (db : Nat) (lv : Nat -> Nat) (k : Nat) : Prop := ∀ (w : World) (h : Nat) (s : Sl), View w R db D -> sl D h = some s -> 64 - lv h <= k -> Calls Tryz.prog 51 #[.pointer (some ⟨db, 0, none⟩), .int .u64 (h : Int)] w (HgtP w (hgt D h))
theorem height_any (D : Dc) (R : Nat -> Prop) (db : Nat) (lv : Nat -> Nat) (hw : WF D) (hl : Lev D lv) : ∀ k, HgtAll D R db lv k
 | 0 => fun w h s hv hs hk => by have := (hl h s hs).1; omega
 | k + 1 => by
  intro w h s hv hs hk
  have ih := height_any D R db lv hw hl k
  obtain ⟨hhl, hh0, i, ha, hsi, -⟩ := hw.lt hs
  obtain ⟨b, o, cap, aa, ac, ka, kc, h1, hcl, hbR, c0, c1, c2, c3, c4, c5, c6, c7, l1, l2, -, hka⟩ := hv.slot hsi
  have hfi := find_some w R db D h i hv hw.fits hhl ha b o cap h1
  have hbl := hv.lt b hbR
  have hst := hgt_step hw hs
  have h0 : h ≠ 0 := by omega
  have ek : lst D h = s.kids := by simp [lst, h0, hs]
  have hkd : ∀ c ∈ s.kids, ∃ s', sl D c = some s' /\ 64 - lv c <= k := fun c hc => by
   obtain ⟨s', h1, _, h2⟩ := hw.kid hl hs (by rw [ek]; exact hc)
   exact ⟨s', h1, by omega⟩
  rw [ek] at hst
  have hkl := (kids_len hw hs).1
  have HST : Hid (hgt D h = (s.kids.map (hgt D)).foldl max 0 + 1) := hst
  have HKD : Hid (∀ c ∈ s.kids, ∃ s', sl D c = some s' /\ 64 - lv c <= k) := hkd
  have HV : Hid (View w R db D) := hv
  have HKA : Hid (HandsAt w R ka s.kids) := hka
  clear hst hkd hv hka hw hl hs ha hsi c0 c1 c2 c3 c4 c5 c6 ek
  generalize s.kids = L at *
  go_enter Tryz.func51, Tryz.ntmps51
  go_wp2_with fail
  refine hfi.mono ?_
  rintro e w1 ⟨rfl, hb1⟩
  obtain ⟨hcc, -⟩ := bcell hb1
  have HB1 : Hid (Below w.heap.size w w1) := hb1
  clear hb1 hfi
  go_wp2
  go_loopw [5, 7, 15] (fun q _ iv wr => ∃ (j m : Nat), j <= L.length /\ iv = .int .i64 (j : Int) /\ q = .int .i64 (m : Int) /\ m <= 64 /\ Hid (((L.take j).map (hgt D)).foldl max 0 = m) /\ Hid (Below w.heap.size w wr)) (fun _ _ iv _ => L.length - (intOf iv).toNat)
  case atStart => exact ⟨0, 0, by omega, rfl, rfl, by omega, rfl, HB1⟩
  case round =>
   obtain ⟨j, m, hj, rfl, rfl, hm, hfm, hbw⟩ := hrel
   have hbs := hbw.out.size
   clear HB1 hcc
   by_cases hlt : j < L.length
   ·obtain ⟨x, hx⟩ : ∃ x, L[j]? = some x := ⟨_, List.getElem?_eq_getElem hlt⟩
    obtain ⟨sx, hsx, hkx⟩ := HKD.out x (List.mem_of_getElem? hx)
    obtain ⟨b', o', ha', hbR', hc'⟩ := HKA.out j x hx
    subst ha'
    have hbb := HV.out.lt b' hbR'
    have hc2 : wr.cell? ⟨b', o' + j, none⟩ = some (.int .u64 (x : Int)) := (hbw.out.cell (p := ⟨b', _, none⟩) hbb).trans hc'
    have hbl2 : b' < wr.heap.size := by omega
    have hih := ih wr x sx (HV.out.below hbw.out) hsx hkx
    have hx64 := hgts_le D 64 x
    have HFM : Hid (((L.take (j + 1)).map (hgt D)).foldl max 0 = max m (hgt D x)) := by
     show _ = _
     rw [take_more hx, List.map_append, List.foldl_append, hfm.out]
     rfl
    have hx64' : hgt D x <= 64 := hx64
    generalize hgt D x = y at *
    clear hx hsx hkx hc' hfm hx64
    go_wp2_with fail
    refine hih.mono ?_
    rintro e w2 ⟨rfl, hb2⟩
    have HB2 : Hid (Below w.heap.size w w2) := hbw.out.trans (hb2.mono hbs)
    clear hb2 hih hc2
    go_wp2
    refine ⟨⟨j + 1, max m y, by omega, by go_num, congrArg _ (by split <;> omega), by omega, HFM, HB2⟩, ?_⟩
    simp [intOf]
    omega
   ·have hje : j = L.length := by omega
    subst hje
    have hfin : hgt D h = m + 1 := by
     rw [HST.out, <- hfm.out, List.take_length]
    have HF : Hid (hgt D h = m + 1) := hfin
    clear hfin hfm ih
    go_wp2
    go_ret
    exact ⟨congrArg _ (v_int (by rw [HF.out]; omega)), hbw.out⟩
def okT : (n : Nat) -> T n -> Prop
 | 0, _ => True
 | n + 1, t => ownE t = 0 /\ ∀ k ∈ kidsT t, okT n k
def ndT : (n : Nat) -> T n -> Nat
 | 0, _ => 0
 | n + 1, t => ((kidsT t).map (ndT n)).sum + 1
def htT : (n : Nat) -> T n -> Nat
 | 0, _ => 0
 | n + 1, t => ((kidsT t).map (htT n)).foldl max 0 + 1
theorem foldl_max_ge (l : List Nat) : ∀ a, a <= l.foldl max a /\ ∀ x ∈ l, x <= l.foldl max a := by
 induction l with
 | nil => intro a; simp
 | cons y r ih =>
  intro a
  obtain ⟨h1, h2⟩ := ih (max a y)
  refine ⟨by simp only [List.foldl_cons]; omega, fun x hx => ?_⟩
  rcases List.mem_cons.1 hx with rfl | hx
  ·simp only [List.foldl_cons]; omega
  ·exact h2 x hx
theorem chk_ok : ∀ (n : Nat) (t : T n) (d a : Int), 0 <= a -> a <= 4096 -> d <= 65 -> (chk n t d a).2 = 0 -> okT n t /\ (chk n t d a).1 = a + ndT n t /\ d + htT n t <= 65
 | 0, t, d, a, _, _, hd, h => by simp [okT, chk, ndT, htT]; exact hd
 | n + 1, t, d, a, h0, h1, hd, h => by
  rw [chk] at h ⊢
  by_cases hx : 64 < d \/ 4096 <= a
  ·rw [if_pos hx] at h; simp at h
  ·rw [if_neg hx] at h ⊢
   by_cases ho : ownE t = 0
   ·rw [if_pos ho] at h ⊢
    have key : ∀ (L : List (T n)) (a : Int), 0 <= a -> a <= 4096 -> (chkL (fun k x => chk n k (d + 1) x) L a).2 = 0 -> (∀ k ∈ L, okT n k) /\ (chkL (fun k x => chk n k (d + 1) x) L a).1 = a + ((L.map (ndT n)).sum : Nat) /\ (∀ k ∈ L, d + 1 + htT n k <= 65) := by
     intro L
     induction L with
     | nil => intro a _ _ _; simp [chkL]
     | cons k r ih =>
      intro a ha0 ha1 hc
      rw [chkL] at hc ⊢
      by_cases he : (chk n k (d + 1) a).2 = 0
      ·rw [if_pos he] at hc ⊢
       obtain ⟨g1, g2, g3⟩ := chk_ok n k (d + 1) a ha0 ha1 (by omega) he
       have hle := chk_le n k (d + 1) a ha1
       have hge := chk_ge n k (d + 1) a
       obtain ⟨i1, i2, i3⟩ := ih _ (by omega) hle hc
       refine ⟨fun x hx => ?_, ?_, fun x hx => ?_⟩
       ·rcases List.mem_cons.1 hx with rfl | hx
        ·exact g1
        ·exact i1 x hx
       ·rw [i2, g2]
        simp only [List.map_cons, List.sum_cons]
        omega
       ·rcases List.mem_cons.1 hx with rfl | hx
        ·exact g3
        ·exact i3 x hx
      ·rw [if_neg he] at hc
       exact absurd hc he
    obtain ⟨k1, k2, k3⟩ := key (kidsT t) (a + 1) (by omega) (by omega) h
    refine ⟨⟨ho, k1⟩, ?_, ?_⟩
    ·rw [k2, ndT]; omega
    ·rw [htT]
     have := foldl_max_le ((kidsT t).map (htT n)) (64 - d).toNat 0 (by omega) (fun x hx => by
      obtain ⟨c, hc, rfl⟩ := List.mem_map.1 hx
      have := k3 c hc
      omega)
     omega
   ·rw [if_neg ho] at h
    exact absurd h ho
theorem sum_part (l : List Nat) (i : Nat) : (l.take i).sum <= l.sum := by
 have h := congrArg List.sum (List.take_append_drop i l)
 rw [List.sum_append] at h
 omega
theorem ndT_pos : ∀ (n : Nat) (t : T (n + 1)), 1 <= ndT (n + 1) t := fun n t => by rw [ndT]; omega
def MeaP (w : World) (x y : Nat) (e : Ending) (w' : World) : Prop := e = .returned (.tuple #[.int .i64 (x : Int), .int .i64 (y : Int)]) /\ Below w.heap.size w w'
def MeaAll (n : Nat) : Prop := ∀ (w : World) (v : Array Value) (t : T n) (lo hi : Nat), TreeAt w lo hi n v t -> hi <= w.heap.size -> okT n t -> ndT n t <= 4096 -> htT n t <= 4096 -> Calls Tryz.prog 43 #[.agg v] w (MeaP w (ndT n t) (htT n t))
theorem measure_any : ∀ (n : Nat), MeaAll n
 | 0 => fun _ _ _ _ _ h => h.elim
 | n + 1 => by
  intro w v t lo hi h hsz hok hnd hht
  have ih := measure_any n
  obtain ⟨a, ac, ka, kc, rfl, hal, hkl, hac, hkc, hat, hkt⟩ := id h
  unfold tv at h ⊢
  obtain ⟨ho, hkk⟩ := hok
  obtain ⟨ka', kc', hk1, -, hkat, hkm⟩ := h.kids ho
  have hko := fun W => kidsOf_any W t.kind t.name a t.attrs.length ac t.text ka t.kids.length kc
  rw [hk1] at hko
  unfold maxK at hkm
  have HKT : Hid (KidsAt w lo hi n ka' (kidsT t)) := hkat
  have HOK : Hid (∀ k ∈ kidsT t, okT n k) := hkk
  have HND : Hid (ndT (n + 1) t = ((kidsT t).map (ndT n)).sum + 1) := rfl
  have HHT : Hid (htT (n + 1) t = ((kidsT t).map (htT n)).foldl max 0 + 1) := rfl
  have HBN : Hid (Below w.heap.size w (w.alloc (.cells #[.int .i64 t.kind, .string t.name, .slice a t.attrs.length ac, .string t.text, .slice ka t.kids.length kc] 35))) := below_new' w _
  clear hal hkl hac hkc hat hkt h ho hkk hkat hk1
  generalize kidsT t = L at *
  go_enter Tryz.func43, Tryz.ntmps43
  go_wp2_with fail
  refine (hko _).mono ?_
  rintro e w1 ⟨rfl, hb1⟩
  have HB1 : Hid (Below w.heap.size w w1) := HBN.out.trans (hb1.mono (by simp))
  clear hb1 hko
  go_wp2
  go_loopw [2, 3, 11] (fun q r iv wr => ∃ (j x y : Nat), j <= L.length /\ iv = .int .i64 (j : Int) /\ q = .int .i64 (x : Int) /\ r = .int .i64 (y : Int) /\ x <= 4096 /\ y <= 4096 /\ Hid (((L.take j).map (ndT n)).sum = x) /\ Hid (((L.take j).map (htT n)).foldl max 0 = y) /\ Hid (Below w.heap.size w wr)) (fun _ _ iv _ => L.length - (intOf iv).toNat)
  case atStart => exact ⟨0, 0, 0, by omega, rfl, rfl, rfl, by omega, by omega, rfl, rfl, HB1⟩
  case round =>
   obtain ⟨j, x, y, hj, rfl, rfl, rfl, hx, hy, hsx, hsy, hbw⟩ := hrel
   have hbs := hbw.out.size
   clear HB1
   by_cases hlt : j < L.length
   ·obtain ⟨k, hk⟩ : ∃ k, L[j]? = some k := ⟨_, List.getElem?_eq_getElem hlt⟩
    have hkt' := HKT.out.below hbw.out hsz
    obtain ⟨b, o, kk, nm, a', al', ac', tx, ka2, kl2, kc2, rfl, hb1, hb2, c0, c1, c2, c3, c4, htr⟩ := hkt'.get hk
    have hbr : b < wr.heap.size := by omega
    have hmk : k ∈ L := List.mem_of_getElem? hk
    have hnk : x + ndT n k <= 4096 := by
     have h1 := sum_part (L.map (ndT n)) (j + 1)
     have h2 := HND.out
     rw [<- List.map_take, take_more hk, List.map_append, List.sum_append, hsx.out] at h1
     simp at h1
     omega
    have hhk : htT n k <= 4096 := by
     have h1 := (foldl_max_ge (L.map (htT n)) 0).2 (htT n k) (List.mem_map_of_mem hmk)
     have h2 := HHT.out
     omega
    have hih := ih (wr.alloc (.cells #[.int .i64 kk, .string nm, .slice a' al' ac', .string tx, .slice ka2 kl2 kc2] 35)) _ k lo hi (htr.below (below_new' wr _) (by omega)) (by simp; omega) (HOK.out k hmk) (by omega) hhk
    have HSX : Hid (((L.take (j + 1)).map (ndT n)).sum = x + ndT n k) := by
     show _ = _
     rw [take_more hk, List.map_append, List.sum_append, hsx.out]
     simp
    have HSY : Hid (((L.take (j + 1)).map (htT n)).foldl max 0 = max y (htT n k)) := by
     show _ = _
     rw [take_more hk, List.map_append, List.foldl_append, hsy.out]
     rfl
    generalize ndT n k = p at *
    generalize htT n k = q at *
    clear hkt' hk htr hsx hsy hmk
    go_wp2_with fail
    refine hih.mono ?_
    rintro e w2 ⟨rfl, hb2⟩
    have HB2 : Hid (Below w.heap.size w w2) := (hbw.out.alloc hbs _).trans (hb2.mono (by simp; omega))
    clear hb2 hih c0 c1 c2 c3 c4
    go_wp2
    refine ⟨⟨j + 1, x + p, max y q, by omega, by go_num, by go_num, congrArg _ (by split <;> omega), by omega, by omega, HSX, HSY, HB2⟩, ?_⟩
    simp [intOf]
    omega
   ·have hje : j = L.length := by omega
    subst hje
    have e1 : ndT (n + 1) t = x + 1 := by rw [HND.out, <- hsx.out, List.take_length]
    have e2 : htT (n + 1) t = y + 1 := by rw [HHT.out, <- hsy.out, List.take_length]
    have H1 : Hid (ndT (n + 1) t = x + 1) := e1
    have H2 : Hid (htT (n + 1) t = y + 1) := e2
    clear e1 e2 hsx hsy ih hnd hht
    go_wp2
    go_ret2
    exact ⟨congrArg _ (v_two (by rw [H1.out]; omega) (by rw [H2.out]; omega)), hbw.out⟩
def SizAll (n : Nat) : Prop := ∀ (w : World) (v : Array Value) (t : T n) (lo hi : Nat), TreeAt w lo hi n v t -> hi <= w.heap.size -> okT n t -> ndT n t <= 4096 -> htT n t <= 4096 -> Calls Tryz.prog 63 #[.agg v] w (MeaP w (ndT n t) (htT n t))
theorem rsizeT_any : ∀ (n : Nat), SizAll n
 | 0 => fun _ _ _ _ _ h => h.elim
 | n + 1 => by
  intro w v t lo hi h hsz hok hnd hht
  have ih := rsizeT_any n
  obtain ⟨a, ac, ka, kc, rfl, hal, hkl, hac, hkc, hat, hkt⟩ := id h
  unfold tv at h ⊢
  obtain ⟨ho, hkk⟩ := hok
  obtain ⟨ka', kc', -, hk1, hkat, hkm⟩ := h.kids ho
  have hko := fun W => rkids_any W t.kind t.name a t.attrs.length ac t.text ka t.kids.length kc
  rw [hk1] at hko
  unfold maxK at hkm
  have HKT : Hid (KidsAt w lo hi n ka' (kidsT t)) := hkat
  have HOK : Hid (∀ k ∈ kidsT t, okT n k) := hkk
  have HND : Hid (ndT (n + 1) t = ((kidsT t).map (ndT n)).sum + 1) := rfl
  have HHT : Hid (htT (n + 1) t = ((kidsT t).map (htT n)).foldl max 0 + 1) := rfl
  have HBN : Hid (Below w.heap.size w (w.alloc (.cells #[.int .i64 t.kind, .string t.name, .slice a t.attrs.length ac, .string t.text, .slice ka t.kids.length kc] 35))) := below_new' w _
  clear hal hkl hac hkc hat hkt h ho hkk hkat hk1
  generalize kidsT t = L at *
  go_enter Tryz.func63, Tryz.ntmps63
  go_wp2_with fail
  refine (hko _).mono ?_
  rintro e w1 ⟨rfl, hb1⟩
  have HB1 : Hid (Below w.heap.size w w1) := HBN.out.trans (hb1.mono (by simp))
  clear hb1 hko
  go_wp2
  go_loopw [4, 5, 7] (fun q r iv wr => ∃ (j x y : Nat), j <= L.length /\ iv = .int .i64 (j : Int) /\ q = .int .i64 ((x : Int) + 1) /\ r = .int .i64 (y : Int) /\ x <= 4096 /\ y <= 4096 /\ Hid (((L.take j).map (ndT n)).sum = x) /\ Hid (((L.take j).map (htT n)).foldl max 0 = y) /\ Hid (Below w.heap.size w wr)) (fun _ _ iv _ => L.length - (intOf iv).toNat)
  case atStart => exact ⟨0, 0, 0, by omega, rfl, rfl, rfl, by omega, by omega, rfl, rfl, HB1⟩
  case round =>
   obtain ⟨j, x, y, hj, rfl, rfl, rfl, hx, hy, hsx, hsy, hbw⟩ := hrel
   have hbs := hbw.out.size
   clear HB1
   by_cases hlt : j < L.length
   ·obtain ⟨k, hk⟩ : ∃ k, L[j]? = some k := ⟨_, List.getElem?_eq_getElem hlt⟩
    have hkt' := HKT.out.below hbw.out hsz
    obtain ⟨b, o, kk, nm, a', al', ac', tx, ka2, kl2, kc2, rfl, hb1, hb2, c0, c1, c2, c3, c4, htr⟩ := hkt'.get hk
    have hbr : b < wr.heap.size := by omega
    have hmk : k ∈ L := List.mem_of_getElem? hk
    have hnk : x + ndT n k <= 4096 := by
     have h1 := sum_part (L.map (ndT n)) (j + 1)
     have h2 := HND.out
     rw [<- List.map_take, take_more hk, List.map_append, List.sum_append, hsx.out] at h1
     simp at h1
     omega
    have hhk : htT n k <= 4096 := by
     have h1 := (foldl_max_ge (L.map (htT n)) 0).2 (htT n k) (List.mem_map_of_mem hmk)
     have h2 := HHT.out
     omega
    have hih := ih wr _ k lo hi htr (by omega) (HOK.out k hmk) (by omega) hhk
    have HSX : Hid (((L.take (j + 1)).map (ndT n)).sum = x + ndT n k) := by
     show _ = _
     rw [take_more hk, List.map_append, List.sum_append, hsx.out]
     simp
    have HSY : Hid (((L.take (j + 1)).map (htT n)).foldl max 0 = max y (htT n k)) := by
     show _ = _
     rw [take_more hk, List.map_append, List.foldl_append, hsy.out]
     rfl
    generalize ndT n k = p at *
    generalize htT n k = q at *
    clear hkt' hk htr hsx hsy hmk
    go_wp2_with fail
    refine hih.mono ?_
    rintro e w2 ⟨rfl, hb2⟩
    have HB2 : Hid (Below w.heap.size w w2) := hbw.out.trans (hb2.mono hbs)
    clear hb2 hih c0 c1 c2 c3 c4
    by_cases hyq : y < q
    ·have hmx : max y q = q := by omega
     rw [hmx] at HSY
     clear hmx
     go_wp2
     refine ⟨⟨j + 1, x + p, q, by omega, by go_num, congrArg _ (by omega), rfl, by omega, by omega, HSX, HSY, HB2⟩, ?_⟩
     simp [intOf]
     omega
    ·have hmx : max y q = y := by omega
     rw [hmx] at HSY
     clear hmx
     go_wp2
     refine ⟨⟨j + 1, x + p, y, by omega, by go_num, congrArg _ (by omega), rfl, by omega, by omega, HSX, HSY, HB2⟩, ?_⟩
     simp [intOf]
     omega
   ·have hje : j = L.length := by omega
    subst hje
    have e1 : ndT (n + 1) t = x + 1 := by rw [HND.out, <- hsx.out, List.take_length]
    have e2 : htT (n + 1) t = y + 1 := by rw [HHT.out, <- hsy.out, List.take_length]
    have H1 : Hid (ndT (n + 1) t = x + 1) := e1
    have H2 : Hid (htT (n + 1) t = y + 1) := e2
    clear e1 e2 hsx hsy ih hnd hht
    go_wp2
    go_ret2
    exact ⟨congrArg _ (v_two (by rw [H1.out]; omega) (by rw [H2.out]; omega)), hbw.out⟩
end Go.Proofs.YtmapmkogjhinmaaGreat
