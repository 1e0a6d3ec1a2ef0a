/- Nodes taken away, in plain, and one slot emptied by the document. -/
import Derived.Test.YtmapmkogjhinmaaGreatA08
namespace Go.Proofs.YtmapmkogjhinmaaGreat
open Go.RowKit
set_option maxRecDepth 100000
set_option maxHeartbeats 1000000
set_option linter.unusedVariables false
set_option linter.unusedSimpArgs false
def killD (D : Dc) (x : Nat) : Dc :=
 match atI D.S x with
 | none => D
 | some i => match D.S[i]? with
  | none => D
  | some s => { D with S := D.S.set i (zeroSl s.gen) }
def killA (D : Dc) (l : List Nat) : Dc := l.foldl killD D
theorem kill_at {D : Dc} {x i : Nat} {s : Sl} (ha : atI D.S x = some i) (hs : D.S[i]? = some s) : killD D x = { D with S := D.S.set i (zeroSl s.gen) } := by
 simp only [killD, ha, hs]
theorem atI_set_ne {S : List Sl} {i j h : Nat} {s' : Sl} (hn : i ≠ j) (ha : atI S h = some j) : atI (S.set i s') h = some j := by
 obtain ⟨s, h1, h2, h3, h4, h5, _⟩ := atI_some ha
 unfold atI
 rw [if_neg h5, <- h4, List.getElem?_set_ne hn, h1]
 simp [h2, h3]
theorem atI_set_same {S : List Sl} {i j h : Nat} {s s' : Sl} (hs : S[i]? = some s) (hl : s'.live = s.live) (hg : s'.gen = s.gen) : atI (S.set i s') h = atI S h := by
 unfold atI
 by_cases h0 : h % 4294967296 = 0
 ·rw [if_pos h0, if_pos h0]
 ·rw [if_neg h0, if_neg h0]
  by_cases e : i = h % 4294967296 - 1
  ·rw [<- e, List.getElem?_set_self (List.getElem?_eq_some_iff.1 hs).1, hs]
   simp only [hl, hg]
  ·rw [List.getElem?_set_ne e]
theorem sl_kill_ne {D : Dc} {x y : Nat} {t : Sl} (hy : sl D y = some t) (hne : y ≠ x) : sl (killD D x) y = some t := by
 cases ha : atI D.S x with
 | none => simpa [killD, ha] using hy
 | some i =>
  obtain ⟨s, hs, _, _, _, _, hx⟩ := atI_some ha
  rw [kill_at ha hs]
  obtain ⟨j, hj, htj, _, hyy⟩ := sl_live hy
  have hij : i ≠ j := by
   rintro rfl
   rw [hs] at htj
   cases htj
   exact hne (hyy.trans hx.symm)
  have h1 := atI_set_ne (s' := zeroSl s.gen) hij hj
  simp only [sl, h1, Option.bind_some]
  rw [List.getElem?_set_ne hij]
  exact htj
theorem sl_killA_ne : ∀ (l : List Nat) (D : Dc) (y : Nat) (t : Sl), sl D y = some t -> y ∉ l -> sl (killA D l) y = some t
 | [], D, y, t, hy, _ => hy
 | a :: r, D, y, t, hy, hn => by
  simp only [List.mem_cons, not_or] at hn
  exact sl_killA_ne r (killD D a) y t (sl_kill_ne hy hn.1) hn.2
theorem killA_snoc {D : Dc} {l : List Nat} {k x : Nat} (hx : l[k]? = some x) : killA D (l.take (k + 1)) = killD (killA D (l.take k)) x := by
 unfold killA
 rw [List.take_add_one, hx, List.foldl_append]
 rfl
theorem Fits.kill {D : Dc} (hf : Fits D) (x : Nat) : Fits (killD D x) := by
 cases ha : atI D.S x with
 | none => simpa [killD, ha] using hf
 | some i =>
  obtain ⟨s, hs, _⟩ := atI_some ha
  rw [kill_at ha hs]
  refine ⟨by simpa using hf.len, fun j t ht => ?_⟩
  by_cases e : i = j
  ·subst e
   have ht' : (D.S.set i (zeroSl s.gen))[i]? = some t := ht
   rw [List.getElem?_set_self (List.getElem?_eq_some_iff.1 hs).1] at ht'
   cases ht'
   exact hf.gen i s hs
  ·have ht' : (D.S.set i (zeroSl s.gen))[j]? = some t := ht
   rw [List.getElem?_set_ne e] at ht'
   exact hf.gen j t ht'
theorem Fits.killA : ∀ (l : List Nat) {D : Dc}, Fits D -> Fits (killA D l)
 | [], _, hf => hf
 | a :: r, _, hf => Fits.killA r (hf.kill a)
theorem Fits.setL {D : Dc} (hf : Fits D) (p : Nat) (l' : List Nat) : Fits (setL D p l') := by
 unfold YtmapmkogjhinmaaGreat.setL
 split
 ·exact ⟨hf.len, hf.gen⟩
 ·split
  ·exact hf
  ·rename_i i ha
   split
   ·exact hf
   ·rename_i s hs
    refine ⟨by simpa using hf.len, fun j t ht => ?_⟩
    by_cases e : i = j
    ·subst e
     have ht' : (D.S.set i { s with kids := l' })[i]? = some t := ht
     rw [List.getElem?_set_self (List.getElem?_eq_some_iff.1 hs).1] at ht'
     cases ht'
     exact hf.gen i s hs
    ·have ht' : (D.S.set i { s with kids := l' })[j]? = some t := ht
     rw [List.getElem?_set_ne e] at ht'
     exact hf.gen j t ht'
theorem sl_setL {D : Dc} {p y : Nat} {l' : List Nat} {t : Sl} (hy : sl D y = some t) : ∃ t', sl (setL D p l') y = some t' /\ t'.gen = t.gen := by
 unfold setL
 split
 ·exact ⟨t, hy, rfl⟩
 ·split
  ·exact ⟨t, hy, rfl⟩
  ·rename_i i ha
   split
   ·exact ⟨t, hy, rfl⟩
   ·rename_i s hs
    obtain ⟨j, hj, htj, _, _⟩ := sl_live hy
    have h1 := atI_set_same (h := y) (j := 0) (s' := { s with kids := l' }) hs rfl rfl
    rw [hj] at h1
    simp only [sl, h1, Option.bind_some]
    by_cases e : i = j
    ·subst e
     rw [hs] at htj
     cases htj
     exact ⟨_, List.getElem?_set_self (List.getElem?_eq_some_iff.1 hs).1, rfl⟩
    ·rw [List.getElem?_set_ne e]
     exact ⟨t, htj, rfl⟩
def delD (D : Dc) (h : Nat) : Dc × Int :=
 match sl D h with
 | none => (D, 8)
 | some s => (killA (setL D s.parent ((lst D s.parent).take (idxH (lst D s.parent) h).toNat ++ (lst D s.parent).drop ((idxH (lst D s.parent) h).toNat + 1))) (allH D h), 0)
theorem RdS.store' {w : World} {base : Nat} {Q : Nat -> Prop} {rb : Nat} {D : Dc} {g cap : Nat} {ra : Option Addr} {rcap : Nat} {L : List (Value × Value)} {i : Nat} {s : Sl} {p : Value × Value} (h : RdS w base Q rb { D with S := D.S.set i s } g cap ra rcap (L.set i p)) {j : Nat} {s' : Sl} {p' : Value × Value} {u : Value} (hi : i < D.S.length) (hl : L.length = D.S.length) (hj : j < 8) (hc : slotCells s' p' = (slotCells s p).set j u)
  (hv : SlotVals w Q s' p') : RdS (w.setCell ⟨g, i * 8 + j, none⟩ u) base Q rb { D with S := D.S.set i s' } g cap ra rcap (L.set i p') := by
 have := h.store (i := i) (s := s) (p := p) (List.getElem?_set_self hi) (List.getElem?_set_self (by omega)) hj hc hv
 simpa only [List.set_set] using this
theorem SlotVals.set {w : World} {Q : Nat -> Prop} {s : Sl} {p : Value × Value} (h : SlotVals w Q s p) {g o : Nat} {u : Value} (hq : ∀ b, Q b -> b ≠ g) : SlotVals (w.setCell ⟨g, o, none⟩ u) Q s p :=
 h.to (fun _ h => h) (fun b o' hb => World.cell?_of_block (w := w) (a := ⟨b, o', none⟩) (Below.heap_setCell _ _ _ _ (hq b hb)))
def killW (w : World) (g i : Nat) (gen : Nat) : World :=
 (((((((w.setCell ⟨g, i * 8, none⟩ (.int .u32 (gen : Int))).setCell ⟨g, i * 8 + 1, none⟩ (.bool false)).setCell ⟨g, i * 8 + 2, none⟩ (.int .i64 0)).setCell ⟨g, i * 8 + 3, none⟩ (.string ⟨#[]⟩)).setCell ⟨g, i * 8 + 4, none⟩ (.slice none 0 0)).setCell ⟨g, i * 8 + 5, none⟩ (.string ⟨#[]⟩)).setCell ⟨g, i * 8 + 6, none⟩ (.int .u64 0)).setCell ⟨g, i * 8 + 7, none⟩ (.slice none 0 0)
theorem RdS.kill {w : World} {base : Nat} {Q : Nat -> Prop} {rb : Nat} {D : Dc} {g cap : Nat} {ra : Option Addr} {rcap : Nat} {L : List (Value × Value)} (h : RdS w base Q rb D g cap ra rcap L) {i : Nat} {s : Sl} (hs : D.S[i]? = some s) : ∃ L', RdS (killW w g i s.gen) base Q rb { D with S := D.S.set i (zeroSl s.gen) } g cap ra rcap L' := by
 have hi := (List.getElem?_eq_some_iff.1 hs).1
 have hl := h.len
 obtain ⟨p, hp⟩ : ∃ p, L[i]? = some p := ⟨_, List.getElem?_eq_getElem (by rw [h.len]; exact hi)⟩
 obtain ⟨aa, ac, ka, kc, e, l1, l2, v1, v2⟩ := h.vals i s p hs hp
 subst e
 have hq : ∀ b, Q b -> b ≠ g := fun b hb => (h.qne b hb).1
 have z4 : SlotVals w Q { gen := s.gen, live := false, kind := 0, name := ⟨#[]⟩, attrs := [], text := s.text, parent := s.parent, kids := s.kids } (.slice none 0 0, .slice ka s.kids.length kc) := ⟨none, 0, ka, kc, rfl, Nat.le_refl _, l2, (fun i a ha => by simp at ha), v2⟩
 have z7 : SlotVals w Q (zeroSl s.gen) (.slice none 0 0, .slice none 0 0) := ⟨none, 0, none, 0, rfl, Nat.le_refl _, Nat.le_refl _, (fun i a ha => by simp [zeroSl] at ha), (fun i a ha => by simp [zeroSl] at ha)⟩
 have z0 : SlotVals w Q s (.slice aa s.attrs.length ac, .slice ka s.kids.length kc) := ⟨aa, ac, ka, kc, rfl, l1, l2, v1, v2⟩
 have h0 := h.store (j := 0) (s' := s) (u := .int .u32 (s.gen : Int)) hs hp (by omega) rfl z0
 have h1 := h0.store' (j := 1) (s' := { s with live := false }) (u := .bool false) hi hl (by omega) rfl (z0.set hq)
 have h2 := h1.store' (j := 2) (s' := { s with live := false, kind := 0 }) (u := .int .i64 0) hi hl (by omega) rfl ((z0.set hq).set hq)
 have h3 := h2.store' (j := 3) (s' := { s with live := false, kind := 0, name := ⟨#[]⟩ }) (u := .string ⟨#[]⟩) hi hl (by omega) rfl (((z0.set hq).set hq).set hq)
 have h4 := h3.store' (j := 4) (s' := { s with live := false, kind := 0, name := ⟨#[]⟩, attrs := [] }) (u := .slice none 0 0) hi hl (by omega) rfl ((((z4.set hq).set hq).set hq).set hq)
 have h5 := h4.store' (j := 5) (s' := { s with live := false, kind := 0, name := ⟨#[]⟩, attrs := [], text := ⟨#[]⟩ }) (u := .string ⟨#[]⟩) hi hl (by omega) rfl (((((z4.set hq).set hq).set hq).set hq).set hq)
 have h6 := h5.store' (j := 6) (s' := { s with live := false, kind := 0, name := ⟨#[]⟩, attrs := [], text := ⟨#[]⟩, parent := 0 }) (u := .int .u64 0) hi hl (by omega) rfl ((((((z4.set hq).set hq).set hq).set hq).set hq).set hq)
 have h7 := h6.store' (j := 7) (s' := zeroSl s.gen) (p' := (.slice none 0 0, .slice none 0 0)) (u := .slice none 0 0) hi hl (by omega) rfl (((((((z7.set hq).set hq).set hq).set hq).set hq).set hq).set hq)
 exact ⟨_, h7⟩
theorem Turn.kill {A : Nat -> Prop} {a w : World} (h : Turn A a w) {g : Nat} (hg : a.heap.size <= g) (i gen : Nat) : Turn A a (killW w g i gen) :=
 (((((((h.setNew (p := ⟨g, _, none⟩) hg _).setNew (p := ⟨g, _, none⟩) hg _).setNew (p := ⟨g, _, none⟩) hg _).setNew (p := ⟨g, _, none⟩) hg _).setNew (p := ⟨g, _, none⟩) hg _).setNew (p := ⟨g, _, none⟩) hg _).setNew (p := ⟨g, _, none⟩) hg _).setNew (p := ⟨g, _, none⟩) hg _
theorem RdS.close {w0 w1 w' : World} {Q Q' : Nat -> Prop} {rb : Nat} {D : Dc} {g cap : Nat} {ra : Option Addr} {rcap : Nat} {L : List (Value × Value)} {z : Int} (h : RdS w' w1.heap.size Q' rb D g cap ra rcap L) (h01 : Below w0.heap.size w0 w1) (ht : Turn (fun b => b = rb) w1 w') (hq : ∀ b, Q' b -> Q b \/ w0.heap.size <= b) (hQ : ∀ b, Q b -> b < w0.heap.size) (hn : ¬ Q rb) (hrb : rb < w0.heap.size) : RPost w0 Q rb D z (.returned (.int .i64 z)) w' := by
 have hs := h01.size
 have hs1 := ht.size
 refine ⟨rfl, ((below_turn h01).mono (fun _ _ h => h.elim)).trans ht, h.done.widen (fun b hb => ?_) (fun b hb => ?_) (fun hb => ?_)⟩
 ·rcases hb with hb | hb
  ·rcases hq b hb with h2 | h2
   ·exact .inl h2
   ·exact .inr ⟨h2, (h.qne b hb).2⟩
  ·exact .inr ⟨by omega, hb.2⟩
 ·rcases hb with hb | hb
  ·have := hQ b hb; omega
  ·exact hb.2
 ·rcases hb with hb | hb
  ·exact hn hb
  ·omega
theorem not_mem_take {A : List Nat} (h : A.Nodup) {j x : Nat} (hx : A[j]? = some x) : x ∉ A.take j := by
 intro hm
 obtain ⟨k, hk⟩ := List.getElem?_of_mem hm
 have hkj : k < j := by have := (List.getElem?_eq_some_iff.1 hk).1; simp at this; omega
 rw [List.getElem?_take_of_lt hkj] at hk
 have := (List.getElem?_inj (List.getElem?_eq_some_iff.1 hk).1 h).1 (hk.trans hx.symm)
 omega
theorem rdel_any (w : World) (Q : Nat -> Prop) (rb : Nat) (D : Dc) (h : Nat) (hd : RDoc w Q rb D) (hw : WF D) (hh : h < 18446744073709551616) :
  Calls Tryz.prog 33 #[.pointer (some ⟨rb, 0, none⟩), .int .u64 (h : Int)] w (RPost w Q rb (delD D h).1 (delD D h).2) := by
 have hlv := rlive_any w _ rb D h hd.view hw.fits hh
 cases hs : sl D h with
 | none =>
  have ha := sl_none hs
  have e1 : delD D h = (D, 8) := by simp only [delD, hs]
  rw [e1]
  rw [ha] at hlv
  have HD : Hid (RDoc w Q rb D) := hd
  clear hd ha e1 hs
  go_enter Tryz.func33, Tryz.ntmps33
  go_wp2_with fail
  refine hlv.mono ?_
  rintro e w1 ⟨rfl, rfl⟩
  go_wp2
  go_ret
  exact rpost_same HD.out (Below.refl _ _)
 | some s =>
  obtain ⟨i, hai, hsi, -, -⟩ := sl_live hs
  obtain ⟨k, hk, hkx, hkl⟩ := idxH_mem (hw.up h s hs)
  have e1 : delD D h = (killA (setL D s.parent ((lst D s.parent).take k ++ (lst D s.parent).drop (k + 1))) (allH D h), 0) := by simp only [delD, hs, hk, Int.toNat_natCast]
  rw [e1]
  have hsm : (atI D.S h).isSome = true := by simp [hai]
  rw [hsm] at hlv
  have h0 : h ≠ 0 := by rintro rfl; rw [sl_zero] at hs; cases hs
  have hAll := rAll_some w _ rb D h hd.view hw (.inr ⟨s, hs⟩)
  have hal := allA_len hw (.inr ⟨s, hs⟩ : h = 0 \/ ∃ s, sl D h = some s)
  have hax : allA D h = allH D h := if_neg h0
  rw [hax] at hAll hal
  have HLIVE : Hid (∀ x ∈ allH D h, ∃ t, sl (setL D s.parent ((lst D s.parent).take k ++ (lst D s.parent).drop (k + 1))) x = some t) := fun x hx => by
   obtain ⟨t, ht⟩ := allH_live hw hs x hx
   obtain ⟨t', h1, _⟩ := sl_setL (p := s.parent) (l' := (lst D s.parent).take k ++ (lst D s.parent).drop (k + 1)) ht
   exact ⟨t', h1⟩
  have HBIG : Hid (∀ x ∈ allH D h, x < 18446744073709551616) := fun x hx => by
   obtain ⟨t, ht⟩ := allH_live hw hs x hx
   exact (hw.lt ht).1
  have HND : Hid ((allH D h).Nodup) := allH_nodup hw hs
  have HFITS : Hid (Fits (setL D s.parent ((lst D s.parent).take k ++ (lst D s.parent).drop (k + 1)))) := hw.fits.setL _ _
  have HROUT : Hid (∀ w base Q rb g cap ra rcap L, RdS w base Q rb D g cap ra rcap L -> Calls Tryz.prog 70 #[.pointer (some ⟨rb, 0, none⟩), .int .u64 (h : Int)] w (OutP w base Q rb (setL D s.parent ((lst D s.parent).take k ++ (lst D s.parent).drop (k + 1))) g cap)) := fun w base Q rb g cap ra rcap L hr => rout_any w base Q rb D g cap ra rcap L h s k hr hw hs hk hkl
  have hl4 := hw.fits.len
  have hrb := hd.rbl
  have HQL : Hid (∀ b, Q b -> b < w.heap.size) := hd.lt
  have HNRB : Hid (¬ Q rb) := hd.nrb
  have HDB : Hid (∀ W, Below w.heap.size w W -> RDoc W Q rb D) := fun W hb => hd.below hb
  clear hd hai hsi hsm e1 hs h0 hax hkx hk hw
  generalize setL D s.parent ((lst D s.parent).take k ++ (lst D s.parent).drop (k + 1)) = E at *
  generalize allH D h = A at *
  clear hkl
  go_enter Tryz.func33, Tryz.ntmps33
  go_wp2_with fail
  refine hlv.mono ?_
  rintro e w0 ⟨rfl, rfl⟩
  go_wp2_with fail
  refine hAll.mono ?_
  rintro e w1 ⟨la, lc, rfl, hown, hb⟩
  have hd1 := HDB.out w1 hb
  have hs1 := hb.size
  have HB1 : Hid (Below w0.heap.size w0 w1) := hb
  have HOW : Hid (w1.ownsRow w0.heap.size 32 1 (.slice la A.length lc) A.length (hvals A)) := hown
  obtain ⟨sa, scap, ra, rcap, hh1, hsc, hrc, hsl, hra⟩ := hd1.head
  obtain ⟨L, hL, hv, hnews⟩ := hsl.row
  have hz0 : w1.cell? ⟨rb, 0, none⟩ = some (.slice sa D.S.length scap) := by rw [hh1.cell]; rfl
  have HD : Hid (RDoc w1 Q rb D) := hd1
  have HH : Hid (IsCells w1 rb #[.slice sa D.S.length scap, .slice ra D.roots.length rcap]) := hh1
  have HRA : Hid (HandsAt w1 Q ra D.roots) := hra
  have HV : Hid (∀ (i : Nat) (s : Sl) (p : Value × Value), D.S[i]? = some s -> L[i]? = some p -> SlotVals w1 Q s p) := hv
  have HL : Hid (L.length = D.S.length) := hL
  have HN : Hid (∀ j u, (rowOf D.S L)[j]? = some u -> ∃ ad, sa = some ad /\ (w1.alloc (.cells #[] 90)).cell? (ad.add j) = some u) := fun j u hu => by
   obtain ⟨ad, e1, e2⟩ := hnews j u hu
   refine ⟨ad, e1, ?_⟩
   rw [World.cell?_of_block (w := w1) (Below.heap_alloc _ _ _ (World.block_lt_of_cell? w1 _ e2))]
   exact e2
  clear hd1 hh1 hra hv hL hnews hsl hb hown hAll HDB hlv
  have hrb1 : rb < w1.heap.size := by omega
  have tok : True := trivial
  go_wp2_with (at_builtin; have _t := tok; refine wpList_app rfl _ _ rfl Tryz.underlying55 info75 rfl (by decide) w1.heap.size (.slice (some ⟨w1.heap.size, 0, none⟩) 0 0) 0 [] rfl (own_new w1 90 8) sa D.S.length scap (rowOf D.S L) rfl (rowOf_len HL.out) HN.out (rows_vals HV.out) (by unfold maxLen; omega) (by omega) (by simp) ?_; intro v1 w2 hown1 hg1 hnil1 hat1; clear tok _t; rw [Nat.zero_add, List.nil_append] at hown1; obtain ⟨g, cap2, hv1, hrds, htn, hhd⟩ := HD.out.copied HH.out hrc HRA.out HL.out HV.out (below_new' w1 _) (fun k hk => by simp only [Value.ownBlock, Option.some.injEq] at hk; omega) (by simp) hown1 hg1 hnil1; subst hv1; have hc0 := hhd.cell; have hf0 := hhd.frozen; have HRS : Hid (RdS (w2.setCell ⟨rb, 0, none⟩ (.slice (some ⟨g, 0, none⟩) D.S.length cap2)) w1.heap.size Q rb D g cap2 ra rcap L) := hrds; have HT : Hid (Turn (fun b => b = rb) w1 (w2.setCell ⟨rb, 0, none⟩ (.slice (some ⟨g, 0, none⟩) D.S.length cap2))) := htn; have hgb := hrds.gb; clear hrds htn hown1 hg1 hnil1 hat1 hhd)
  refine (HROUT.out _ _ _ _ _ _ _ _ _ HRS.out).mono ?_
  rintro e w3 ⟨rfl, ⟨Q', ra', rcap', L', hr3, hq3⟩, ht3⟩
  have hsz2 := HT.out.size
  have HT3 : Hid (Turn (fun b => b = rb) w1 w3) := ((HT.out.mono (B := fun b => b = rb \/ b = g) (fun _ _ h => .inl h)).trans ht3).mono (fun b hb h => by
   rcases h with h | h
   ·exact h
   ·omega)
  have HQ3 : Hid (∀ b, Q' b -> Q b \/ w0.heap.size <= b) := fun b hb => by
   rcases hq3 b hb with h | h
   ·exact .inl h
   ·exact .inr (by omega)
  have HR3 : Hid (∃ L, RdS w3 w1.heap.size Q' rb E g cap2 ra' rcap' L) := ⟨_, hr3⟩
  have hg1 := hgb.1
  clear hr3 hq3 ht3 hsz2 hgb HRS HT HROUT hc0 hf0 HN HL HV HRA HH HD hz0 hrc hsc
  go_wp2
  go_loopw [7, 8] (fun iv _ wr => ∃ (j : Nat), j <= A.length /\ iv = .int .i64 (j : Int) /\ Hid (∃ L, RdS wr w1.heap.size Q' rb (killA E (A.take j)) g cap2 ra' rcap' L) /\ Hid (Turn (fun b => b = rb) w1 wr)) (fun iv _ _ => A.length - (intOf iv).toNat)
  case atStart => exact ⟨0, by omega, rfl, HR3, HT3⟩
  case round =>
   obtain ⟨j, hj, rfl, hrj, htj⟩ := hrel
   clear HR3 HT3
   by_cases hlt : j < A.length
   ·obtain ⟨x, hx⟩ : ∃ x, A[j]? = some x := ⟨_, List.getElem?_eq_getElem hlt⟩
    have hxm := List.mem_of_getElem? hx
    obtain ⟨t0, ht0⟩ := HLIVE.out x hxm
    have ht := sl_killA_ne (A.take j) E x t0 ht0 (not_mem_take HND.out hx)
    have hxl := HBIG.out x hxm
    have hfj := Fits.killA (A.take j) HFITS.out
    have hsn := killA_snoc (D := E) hx
    obtain ⟨LL, hr⟩ := hrj.out
    have hownr := own_of_block HOW.out (w' := wr) (fun k hk => htj.out.block k (own_block_lt HOW.out k hk).2 (by have := (own_block_lt HOW.out k hk).1; omega))
    obtain ⟨hlc, -, hrow⟩ := row_cell hownr
    obtain ⟨b, rfl, hbl, hbs, hcx⟩ := hrow j _ (by simp only [hvals, List.getElem?_map, hx]; rfl)
    have hbs' : b < wr.heap.size := hbs
    generalize killA E (A.take j) = Ej at *
    obtain ⟨i, hai, hsi, -, -⟩ := sl_live ht
    obtain ⟨p, hp, hvp, hcap, hhd, hcl⟩ := hr.slot hsi
    have hat := rat_any wr _ rb Ej x hr.done.view hfj hxl
    rw [atR_some hai] at hat
    rw [kill_at hai hsi] at hsn
    have HSN : Hid (killA E (A.take (j + 1)) = { Ej with S := Ej.S.set i (zeroSl t0.gen) }) := hsn
    have HK : Hid (∃ L', RdS (killW wr g i t0.gen).drew w1.heap.size Q' rb { Ej with S := Ej.S.set i (zeroSl t0.gen) } g cap2 ra' rcap' L') := by
     obtain ⟨L', hk⟩ := hr.kill hsi
     exact ⟨L', hk.below ((Below.refl _ _).drew)⟩
    have HTK : Hid (Turn (fun b => b = rb) w1 (killW wr g i t0.gen).drew) := (htj.out.kill hg1 i t0.gen).drew
    have hil : (i : Int) < ((Ej.S.length : Nat) : Int) := by have := (List.getElem?_eq_some_iff.1 hsi).1; omega
    have hlj := hfj.len
    have c0 : wr.cell? ⟨g, i * 8, none⟩ = _ := (hcl 0 _ rfl).1
    have c1 := (hcl 1 _ rfl).1
    have c2 := (hcl 2 _ rfl).1
    have c3 := (hcl 3 _ rfl).1
    have c4 := (hcl 4 _ rfl).1
    have c5 := (hcl 5 _ rfl).1
    have c6 := (hcl 6 _ rfl).1
    have c7 := (hcl 7 _ rfl).1
    have f0 : wr.frozen? ⟨g, i * 8, none⟩ = _ := (hcl 0 _ rfl).2
    have f1 := (hcl 1 _ rfl).2
    have f2 := (hcl 2 _ rfl).2
    have f3 := (hcl 3 _ rfl).2
    have f4 := (hcl 4 _ rfl).2
    have f5 := (hcl 5 _ rfl).2
    have f6 := (hcl 6 _ rfl).2
    have f7 := (hcl 7 _ rfl).2
    have hgs := hr.gb
    clear hr hcl hvp hp hsn hai hsi ht ht0 hxm hx hrow hownr hfj hrj htj hbs
    go_wp2_with fail
    refine hat.mono ?_
    rintro e w4 ⟨rfl, rfl⟩
    go_wp2
    go_region
    go_wp2
    go_roundw
    case rel => exact ⟨j + 1, by omega, by go_num, by rw [HSN.out]; exact HK, HTK⟩
    case measure => simp [intOf]; omega
   ·have hje : j = A.length := by omega
    subst hje
    have hr := hrj.out
    rw [List.take_length] at hr
    have HRF : Hid (∃ L, RdS wr w1.heap.size Q' rb (killA E A) g cap2 ra' rcap' L) := hr
    clear hr hrj
    go_wp2
    go_ret
    obtain ⟨LF, hrf⟩ := HRF.out
    exact hrf.close HB1.out htj.out HQ3.out HQL.out HNRB.out hrb
theorem rget_some (w : World) (R : Nat -> Prop) (db : Nat) (D : Dc) (h i : Nat) (s : Sl) (hv : View w R db D) (hf : Fits D) (hh : h < 18446744073709551616) (ha : atI D.S h = some i) (hs : D.S[i]? = some s) :
  ∃ aa ac, s.attrs.length <= ac /\ AttrsR w R aa s.attrs /\ Calls Tryz.prog 76 #[.pointer (some ⟨db, 0, none⟩), .int .u64 (h : Int)] w fun e w' => e = .returned (.tuple #[.agg (tv s.kind s.name aa s.attrs.length ac s.text none 0 0), .int .i64 0]) /\ Below w.heap.size w w' := by
 have hat := fun W (hb : Below w.heap.size w W) => rat_any W _ db D h (hv.below hb) hf hh
 rw [atR_some ha] at hat
 obtain ⟨b, o, cap, aa, ac, ka, kc, h1, hcl, hbR, c0, c1, c2, c3, c4, c5, c6, c7, l1, l2, v1, v2⟩ := hv.slot hs
 refine ⟨aa, ac, l1, v1, ?_⟩
 have hbl := hv.lt b hbR
 have hdl := hv.lt db hv.docs
 have hi1 : (i : Int) < ((D.S.length : Nat) : Int) := by have := (List.getElem?_eq_some_iff.1 hs).1; omega
 have hl4 := hf.len
 clear hv ha hs v1 v2 hbR
 go_enter Tryz.func76, Tryz.ntmps76
 go_wp2_with fail
 refine (hat _ (below_new' w _)).mono ?_
 rintro e w1 ⟨rfl, rfl⟩
 go_wp2
 refine bodyPost_ret (v := .tuple #[.agg #[.int .i64 s.kind, .string s.name, .slice aa s.attrs.length ac, .string s.text, .slice none 0 0], .int .i64 0]) (by simp [results, Tryz.results76, go_sem]) rfl ⟨rfl, ?_⟩
 exact (below_new' w _).alloc (by simp) _
def mkN {α : Type} (s : Sl) (l : List α) : Nd α := { kind := s.kind, name := s.name, attrs := s.attrs, text := s.text, kids := l }
def slD (D : Dc) (h : Nat) : Sl := (sl D h).getD (zeroSl 0)
def kidT (D : Dc) : (m : Nat) -> Nat -> List (T m)
 | 0, _ => []
 | m + 1, h => (lst D h).map fun c => (mkN (slD D c) (kidT D m c) : Nd (T m))
def subT (D : Dc) (m : Nat) (h : Nat) : T (m + 1) := (mkN (slD D h) (kidT D m h) : Nd (T m))
def SubP (w : World) (R : Nat -> Prop) (n : Nat) (t : T n) (e : Ending) (w' : World) : Prop :=
 ∃ v, e = .returned (.tuple #[.agg v, .int .i64 0]) /\ TreeR w' (fun b => R b \/ (w.heap.size <= b /\ b < w'.heap.size)) n v t /\ Below w.heap.size w w'
structure SubSt (w wr : World) (R : Nat -> Prop) (m : Nat) (s : Sl) (L : List (T m)) (aa : Option Addr) (ac bx i : Nat) (la : Option Addr) (lcap : Nat) (xs : List Value) : Prop where
 res : IsCells wr w.heap.size #[.int .i64 0, .string ⟨#[]⟩, .slice none 0 0, .string ⟨#[]⟩, .slice none 0 0]
 box : IsCells wr bx #[.int .i64 s.kind, .string s.name, .slice aa s.attrs.length ac, .string s.text, .slice la i lcap]
 bxl : w.heap.size < bx
 own : wr.ownsRow (bx + 1) 35 5 (.slice la i lcap) i xs
 kids : CopiesAt wr (fun b => R b \/ (bx + 1 <= b /\ b < wr.heap.size /\ (Value.slice la i lcap).ownBlock ≠ some b)) m xs (L.take i)
 bel : Below w.heap.size w wr
theorem SubSt.step {w wr w2 w3 : World} {R : Nat -> Prop} {m : Nat} {s : Sl} {L : List (T m)} {aa : Option Addr} {ac bx i : Nat} {la : Option Addr} {lcap : Nat} {xs : List Value} (h : SubSt w wr R m s L aa ac bx i la lcap xs) (hR : ∀ b, R b -> b < w.heap.size) {k : T m} (hk : L[i]? = some k)
  {u : Array Value} (hu : TreeR w2 (fun b => R b \/ (wr.heap.size <= b /\ b < w2.heap.size)) m u k) (hb : Below wr.heap.size wr w2) {o o' : Obj} {la' : Option Addr} {lcap' : Nat} (hown : w3.ownsRow (bx + 1) 35 5 (.slice la' (i + 1) lcap') (i + 1) (xs ++ u.toList))
  (hg : ((w2.alloc o).alloc o').grownBy w3 (Value.slice la i lcap).ownBlock) (hat : (Value.slice la' (i + 1) lcap').ownBlock = (Value.slice la i lcap).ownBlock \/ (Value.slice la' (i + 1) lcap').ownBlock = some (w2.heap.size + 2)) :
  SubSt w (w3.setCell ⟨bx, 4, none⟩ (.slice la' (i + 1) lcap')) R m s L aa ac bx (i + 1) la' lcap' (xs ++ u.toList) := by
 have hs := hb.size
 have hs3 : w2.heap.size + 2 <= w3.heap.size := by have := hg.size; simpa using this
 have hbl := h.bel.size
 have hox := own_block_lt h.own
 have hbx := h.box.lt
 have hrx := h.res.lt
 have hbb := h.bxl
 have hss : (w3.setCell ⟨bx, 4, none⟩ (.slice la' (i + 1) lcap')).heap.size = w3.heap.size := by simp [World.setCell]
 have far : ∀ b, b < w2.heap.size -> (Value.slice la i lcap).ownBlock ≠ some b -> w3.heap[b]? = w2.heap[b]? := fun b hb1 hb2 =>
  (hg.block b (by simp; omega) (fun e => hb2 e.symm)).trans ((Below.heap_alloc _ _ _ (by simp; omega)).trans (Below.heap_alloc _ _ _ hb1))
 have far2 : ∀ b, b < wr.heap.size -> (Value.slice la i lcap).ownBlock ≠ some b -> w3.heap[b]? = wr.heap[b]? := fun b hb1 hb2 => (far b (by omega) hb2).trans (hb.block b hb1)
 have hnew : ∀ b, b < w2.heap.size -> (Value.slice la i lcap).ownBlock ≠ some b -> (Value.slice la' (i + 1) lcap').ownBlock ≠ some b := fun b h1 h2 e => by
  rcases hat with hat | hat
  ·rw [hat] at e; exact h2 e
  ·rw [hat] at e; simp only [Option.some.injEq] at e; omega
 have hnb : ∀ b, b <= bx -> (Value.slice la i lcap).ownBlock ≠ some b := fun b hb e => by have := hox _ e; omega
 have cell3 : ∀ b o, b ≠ bx -> (w3.setCell ⟨bx, 4, none⟩ (.slice la' (i + 1) lcap')).cell? ⟨b, o, none⟩ = w3.cell? ⟨b, o, none⟩ := fun b o hb => World.cell?_of_block (w := w3) (a := ⟨b, o, none⟩) (Below.heap_setCell _ _ _ _ hb)
 refine ⟨(h.res.of_block (far2 _ hrx (hnb _ (by omega)))).other (by show w.heap.size ≠ bx; omega) _, ?_, hbb, own_of_block hown (fun k hk => Below.heap_setCell _ _ _ _ (by have := (own_block_lt hown k hk).1; show k ≠ bx; omega)), ?_, ?_⟩
 ·have := (h.box.of_block (far2 _ hbx (hnb _ (by omega)))).set 4 (.slice la' (i + 1) lcap')
  simpa using this
 ·rw [take_more hk]
  have hne : ∀ b, wr.heap.size <= b -> (Value.slice la i lcap).ownBlock ≠ some b := fun b h1 e => by have := hox _ e; omega
  refine CopiesAt.snoc (h.kids.to (fun b hb' => ?_) (fun b o hb' => ?_)) (hu.to (fun b hb' => ?_) (fun b o hb' => ?_))
  ·rcases hb' with hb' | hb'
   ·exact .inl hb'
   ·exact .inr ⟨hb'.1, by rw [hss]; omega, hnew b (by omega) hb'.2.2⟩
  ·rcases hb' with hb' | hb'
   ·have := hR b hb'
    rw [cell3 b o (by omega)]
    exact World.cell?_of_block (w := wr) (a := ⟨b, o, none⟩) (far2 b (by omega) (hnb b (by omega)))
   ·rw [cell3 b o (by omega)]
    exact World.cell?_of_block (w := wr) (a := ⟨b, o, none⟩) (far2 b hb'.2.1 hb'.2.2)
  ·rcases hb' with hb' | hb'
   ·exact .inl hb'
   ·exact .inr ⟨by omega, by rw [hss]; omega, hnew b hb'.2 (hne b hb'.1)⟩
  ·rcases hb' with hb' | hb'
   ·have := hR b hb'
    rw [cell3 b o (by omega)]
    exact World.cell?_of_block (w := w2) (a := ⟨b, o, none⟩) (far b (by omega) (hnb b (by omega)))
   ·rw [cell3 b o (by omega)]
    exact World.cell?_of_block (w := w2) (a := ⟨b, o, none⟩) (far b hb'.2 (hne b hb'.1))
 ·exact ((h.bel.trans (hb.mono hbl)).trans ⟨hg.os, hg.tape, hg.output, by omega, fun k hk => far k (by omega) (hnb k (by omega))⟩).setCell (p := ⟨bx, 4, none⟩) (by show w.heap.size <= bx; omega) _
theorem SubSt.done {w wr w' : World} {R : Nat -> Prop} {m : Nat} {s : Sl} {L : List (T m)} {aa : Option Addr} {ac bx : Nat} {la : Option Addr} {lcap : Nat} {xs : List Value} (h : SubSt w wr R m s L aa ac bx L.length la lcap xs) (hR : ∀ b, R b -> b < w.heap.size) (hat : AttrsR w R aa s.attrs) (ha : s.attrs.length <= maxA) (hk : L.length <= maxK) (hc : s.attrs.length <= ac)
  (ht : Turn (fun b => b = w.heap.size) wr w') : TreeR w' (fun b => R b \/ (w.heap.size <= b /\ b < w'.heap.size)) (m + 1) #[.int .i64 s.kind, .string s.name, .slice aa s.attrs.length ac, .string s.text, .slice la L.length lcap] (mkN s L : Nd (T m)) /\ Below w.heap.size w w' := by
 have hs := ht.size
 have hbs := h.bel.size
 have hbb := h.bxl
 have hcell : ∀ b o, b ≠ w.heap.size -> b < wr.heap.size -> w'.cell? ⟨b, o, none⟩ = wr.cell? ⟨b, o, none⟩ := fun b o h1 h2 => World.cell?_of_block (w := wr) (a := ⟨b, o, none⟩) (ht.block b h2 h1)
 obtain ⟨hlc, hxl, hrow⟩ := row_cell h.own
 refine ⟨⟨aa, ac, la, lcap, rfl, ha, hk, hc, hlc, hat.to (fun b hb => .inl hb) (fun b o hb => ?_), fun i k hk => ?_⟩, h.bel.trans (ht.below hbs (fun k hk => by omega))⟩
 ·have := hR b hb
  rw [hcell b o (by omega) (by omega)]
  exact h.bel.cell (p := ⟨b, o, none⟩) this
 obtain ⟨_, _, hkids⟩ := h.kids
 obtain ⟨u, h1, h2, h3⟩ := hkids i k (by rw [List.take_length]; exact hk)
 have hj : ∀ j, j < 5 -> ∃ g, la = some ⟨g, 0, none⟩ /\ bx + 1 <= g /\ g < wr.heap.size /\ wr.cell? ⟨g, i * 5 + j, none⟩ = u[j]? := fun j hj => by
  have hu := h2 j hj
  rw [Array.getElem?_eq_getElem (by omega)] at hu
  obtain ⟨g, e1, e2, e3, e4⟩ := hrow _ _ hu
  exact ⟨g, e1, e2, e3, by rw [e4, Array.getElem?_eq_getElem (by omega)]⟩
 obtain ⟨g, rfl, hg1, hg2, _⟩ := hj 0 (by omega)
 refine ⟨g, 0, u, rfl, .inr ⟨by omega, by omega⟩, h1, fun j hj' => ?_, h3.to (fun b hb => ?_) (fun b o hb => ?_)⟩
 ·obtain ⟨g', e1, _, _, e4⟩ := hj j hj'
  cases e1
  rw [Nat.zero_add, hcell g _ (by omega) hg2, e4]
 ·rcases hb with hb | hb
  ·exact .inl hb
  ·exact .inr ⟨by omega, by omega⟩
 ·rcases hb with hb | hb
  ·have := hR b hb
   exact hcell b o (by omega) (by omega)
  ·exact hcell b o (by omega) hb.2.1
theorem WF.alen {D : Dc} (hw : WF D) {h : Nat} {s : Sl} (e : sl D h = some s) : s.attrs.length <= 32 := by
 obtain ⟨i, _, h2, h3, _⟩ := sl_live e
 rcases hw.kind e with hk | hk
 ·have ho := hw.own i s h2 h3
  unfold ownE ndOf at ho
  simp only [hk, if_true] at ho
  split at ho
  ·unfold attrsE at ho
   split at ho
   ·omega
   ·omega
  ·omega
 ·rw [((hw.used i s h2 h3).1 hk).2.2]
  simp
theorem grown_box {w3 w4 : World} {o o' : Obj} {bx : Nat} {row : Option Nat} (hg : ((w3.alloc o).alloc o').grownBy w4 row) (hbx : bx < w3.heap.size) (hne : some bx ≠ row) : w4.heap[bx]? = w3.heap[bx]? :=
 (hg.block bx (by simp; omega) hne).trans ((Below.heap_alloc _ _ _ (by simp; omega)).trans (Below.heap_alloc _ _ _ hbx))
theorem rsub_walk (w : World) (R : Nat -> Prop) (db : Nat) (D : Dc) (h : Nat) (s : Sl) (m : Nat) (L : List (T m)) (hv : View w R db D) (hw : WF D) (hs : sl D h = some s) (hL : L.length = (lst D h).length)
  (hK : ∀ (i x : Nat), (lst D h)[i]? = some x -> ∃ k, L[i]? = some k /\ ∀ W, View W R db D -> Calls Tryz.prog 38 #[.pointer (some ⟨db, 0, none⟩), .int .u64 (x : Int)] W (SubP W R m k)) :
  Calls Tryz.prog 38 #[.pointer (some ⟨db, 0, none⟩), .int .u64 (h : Int)] w (SubP w R (m + 1) (mkN s L : Nd (T m))) := by
 obtain ⟨hhl, h0, i, hai, hsi, -⟩ := hw.lt hs
 have hal := hw.alen hs
 have hll := lst_len hw (.inr ⟨s, hs⟩ : h = 0 \/ ∃ s, sl D h = some s)
 obtain ⟨aa, ac, hac, hat0, hget⟩ := rget_some (w.alloc (.cells #[.int .i64 0, .string ⟨#[]⟩, .slice none 0 0, .string ⟨#[]⟩, .slice none 0 0] 35)) R db D h i s (hv.below (below_new' w _)) hw.fits hhl hai hsi
 have HAT : Hid (AttrsR w R aa s.attrs) := hat0.to (fun _ h => h) (fun b o hb => ((below_new' w _).cell (p := ⟨b, o, none⟩) (hv.lt b hb)).symm)
 have HLV : Hid (∀ W, Below w.heap.size w W -> ∃ a cap, (lst D h).length <= cap /\ HandsAt W R a (lst D h) /\ Calls Tryz.prog 77 #[.pointer (some ⟨db, 0, none⟩), .int .u64 (h : Int)] W fun e w' => e = .returned (.slice a (lst D h).length cap) /\ Below W.heap.size W w') := fun W hb => rlist_any W R db D h (hv.below hb) hw.fits hhl (.inr ⟨s, hs⟩)
 have HV : Hid (View w R db D) := hv
 have HR : Hid (∀ b, R b -> b < w.heap.size) := hv.lt
 have HK : Hid (∀ (i x : Nat), (lst D h)[i]? = some x -> ∃ k, L[i]? = some k /\ ∀ W, View W R db D -> Calls Tryz.prog 38 #[.pointer (some ⟨db, 0, none⟩), .int .u64 (x : Int)] W (SubP W R m k)) := hK
 have HL : Hid (L.length = (lst D h).length) := hL
 clear hat0 hv hw hs hai hsi hK hL
 generalize lst D h = l at *
 unfold tv at hget
 go_enter Tryz.func38, Tryz.ntmps38
 go_wp2_with fail
 refine hget.mono ?_
 rintro e w1 ⟨rfl, hb1⟩
 have hs1 : w.heap.size + 1 <= w1.heap.size := by have := hb1.size; simpa using this
 have HB1 : Hid (Below w.heap.size w w1) := (below_new' w _).trans (hb1.mono (by simp))
 have HRES : Hid (IsCells w1 w.heap.size #[.int .i64 0, .string ⟨#[]⟩, .slice none 0 0, .string ⟨#[]⟩, .slice none 0 0]) := (isCells_new w _ 35).of_block (hb1.block _ (by simp))
 clear hb1 hget
 obtain ⟨ha, hcap, hlc, hlat, hcal⟩ := HLV.out (w1.alloc (.cells #[.int .i64 s.kind, .string s.name, .slice aa s.attrs.length ac, .string s.text, .slice none 0 0] 35)) (HB1.out.alloc (by omega) _)
 have HLA : Hid (HandsAt w R ha l) := hlat.to (fun _ h => h) (fun b o hb => ((HB1.out.alloc (by omega) _).cell (p := ⟨b, o, none⟩) (HR.out b hb)).symm)
 clear hlat HLV
 go_wp2_with fail
 refine hcal.mono ?_
 rintro e w2 ⟨rfl, hb2⟩
 have hs2 : w1.heap.size + 1 <= w2.heap.size := by have := hb2.size; simpa using this
 have HST : Hid (SubSt w w2 R m s L aa ac w1.heap.size 0 none 0 []) :=
  ⟨(HRES.out.alloc _).of_block (hb2.block _ (by simp; omega)), (isCells_new w1 _ 35).of_block (hb2.block _ (by simp)), by omega, own_nil _ _ _ _, by rw [List.take_zero]; exact CopiesAt.nil _ _ _, (HB1.out.alloc (by omega) _).trans (hb2.mono (by simp; omega))⟩
 clear hb2 hcal HRES
 go_wp2
 go_loopw [9, 10, 11] (fun iv _ _ wr => ∃ (i : Nat) (la : Option Addr) (lcap : Nat) (xs : List Value), i <= l.length /\ iv = .int .i64 (i : Int) /\ Hid (SubSt w wr R m s L aa ac w1.heap.size i la lcap xs)) (fun iv _ _ _ => l.length - (intOf iv).toNat)
 case atStart => exact ⟨0, none, 0, [], Nat.zero_le _, rfl, HST⟩
 case round =>
  obtain ⟨j, la, lcap, xs, hj, rfl, hst⟩ := hrel
  have hc := hst.out.box.cell
  have hf := hst.out.box.frozen
  have hr := hst.out.res.cell
  have hrf := hst.out.res.frozen
  have hbs := hst.out.bel.size
  have hrl := hst.out.res.lt
  have hbl := hst.out.box.lt
  clear HST
  by_cases hlt : j < l.length
  ·obtain ⟨x, hx⟩ : ∃ x, l[j]? = some x := ⟨_, List.getElem?_eq_getElem hlt⟩
   obtain ⟨k, hk, hcalls⟩ := HK.out j x hx
   obtain ⟨b, o, rfl, hbR, hcx⟩ := HLA.out j x hx
   have hbb := HR.out b hbR
   have hcx' : wr.cell? ⟨b, o + j, none⟩ = some (.int .u64 (x : Int)) := (hst.out.bel.cell (p := ⟨b, _, none⟩) hbb).trans hcx
   have hbr : b < wr.heap.size := by omega
   have hcall := hcalls wr (HV.out.below hst.out.bel)
   have HKK : Hid (L[j]? = some k) := hk
   clear hk hcalls hx hcx
   go_wp2_with fail
   refine hcall.mono ?_
   rintro e w3 ⟨u, rfl, htu, hbu⟩
   obtain ⟨hcb, hfb⟩ := bcell hbu
   have hs3 := hbu.size
   obtain ⟨kk', nm', a'', al'', ac'', tx', ka3, kl3, kc3, rfl⟩ := htu.form
   have HTU : Hid (TreeR w3 (fun b => R b \/ (wr.heap.size <= b /\ b < w3.heap.size)) m #[.int .i64 kk', .string nm', .slice a'' al'' ac'', .string tx', .slice ka3 kl3 kc3] k) := htu
   have HBU : Hid (Below wr.heap.size wr w3) := hbu
   have hc4 : w3.cell? ⟨w1.heap.size, 4, none⟩ = some (.slice la j lcap) := by rw [hcb _ _ hbl, hc]; rfl
   have hf4 : w3.frozen? ⟨w1.heap.size, 4, none⟩ = false := by rw [hfb _ _ hbl, hf]
   have hb3 : w1.heap.size < w3.heap.size := by omega
   clear htu hbu hcall hcx' hc hf hcb hfb hr hrf
   have tok2 : True := trivial
   go_wp2_with (at_builtin; have _t := tok2; refine wpList_app rfl _ _ rfl Tryz.underlying22 info25 rfl (by decide) (w1.heap.size + 1) (.slice la j lcap) j xs rfl (own_of_block hst.out.own (fun k hk => (Below.heap_alloc _ _ _ (by have := (own_block_lt hst.out.own k hk).2; simp; omega)).trans ((Below.heap_alloc _ _ _ (by have := (own_block_lt hst.out.own k hk).2; omega)).trans (HBU.out.block k (own_block_lt hst.out.own k hk).2)))) (some ⟨w3.heap.size + 1, 0, none⟩) 1 1 [.int .i64 kk', .string nm', .slice a'' al'' ac'', .string tx', .slice ka3 kl3 kc3] rfl rfl (by have := news_new (w3.alloc (.cells #[.int .i64 kk', .string nm', .slice a'' al'' ac'', .string tx', .slice ka3 kl3 kc3] 35)) #[.int .i64 kk', .string nm', .slice a'' al'' ac'', .string tx', .slice ka3 kl3 kc3] 35; simpa using this) (tree_one _ _ _ _ _ _ _ _ _) (by unfold maxLen; omega) (by omega) (by simp; omega) ?_; intro v3 w4 hown3 hg3 _ hat3; clear tok2 _t; obtain ⟨la', lcap', hv3⟩ := own_slice hown3; subst hv3; have hgb := grown_box hg3 hb3 (fun e => by have := (own_block_lt hst.out.own _ e.symm).1; omega); have hc44 : w4.cell? ⟨w1.heap.size, 4, none⟩ = some (.slice la j lcap) := (World.cell?_of_block (w := w3) (a := ⟨w1.heap.size, 4, none⟩) hgb).trans hc4; have hf44 : w4.frozen? ⟨w1.heap.size, 4, none⟩ = false := (World.frozen?_of_block (w := w3) (a := ⟨w1.heap.size, 4, none⟩) hgb).trans hf4; have HST3 : Hid (SubSt w (w4.setCell ⟨w1.heap.size, 4, none⟩ (.slice la' (j + 1) lcap')) R m s L aa ac w1.heap.size (j + 1) la' lcap' (xs ++ [.int .i64 kk', .string nm', .slice a'' al'' ac'', .string tx', .slice ka3 kl3 kc3])) := hst.out.step HR.out HKK.out HTU.out HBU.out hown3 hg3 (by simpa using hat3); clear hown3 hg3 hat3 HTU HBU HKK hst hgb hc4 hf4)
   go_roundw
   case rel => exact ⟨j + 1, la', lcap', _, by omega, by go_num, HST3⟩
   case measure => simp [intOf]; omega
  ·have hje : j = l.length := by omega
   subst hje
   have hN := HL.out
   clear HK hlt
   go_wp2
   refine bodyPost_ret (v := .tuple #[.agg #[.int .i64 s.kind, .string s.name, .slice aa s.attrs.length ac, .string s.text, .slice la l.length lcap], .int .i64 0]) (by simp [results, Tryz.results38, go_sem, hr]) rfl ⟨_, rfl, ?_⟩
   have hs9 := hst.out
   rw [<- hN] at hs9 ⊢
   exact hs9.done HR.out HAT.out (by unfold maxA; omega) (by unfold maxK; omega) hac ((((((Turn.refl (fun b => b = w.heap.size) wr).setCell (A := fun b => b = w.heap.size) (p := ⟨w.heap.size, 0, none⟩) rfl _).setCell (A := fun b => b = w.heap.size) (p := ⟨w.heap.size, 1, none⟩) rfl _).setCell (A := fun b => b = w.heap.size) (p := ⟨w.heap.size, 2, none⟩) rfl _).setCell (A := fun b => b = w.heap.size) (p := ⟨w.heap.size, 3, none⟩) rfl _).setCell (A := fun b => b = w.heap.size) (p := ⟨w.heap.size, 4, none⟩) rfl _)
theorem kidT_succ (D : Dc) (m h : Nat) : kidT D (m + 1) h = (lst D h).map (subT D m) := rfl
theorem slD_of {D : Dc} {h : Nat} {s : Sl} (e : sl D h = some s) : slD D h = s := by simp [slD, e]
theorem rsub_any (D : Dc) (R : Nat -> Prop) (db : Nat) (lv : Nat -> Nat) (hw : WF D) (hl : Lev D lv) : ∀ (m : Nat) (w : World) (h : Nat) (s : Sl), View w R db D -> sl D h = some s -> 63 - lv h <= m ->
  Calls Tryz.prog 38 #[.pointer (some ⟨db, 0, none⟩), .int .u64 (h : Int)] w (SubP w R (m + 1) (subT D m h))
 | 0, w, h, s, hv, hs, hm => by
  have hnil : lst D h = [] := by
   cases he : lst D h with
   | nil => rfl
   | cons c r =>
    obtain ⟨s', h1, _, h2⟩ := hw.kid hl hs (c := c) (by rw [he]; simp)
    have := (hl c s' h1).1
    omega
  have := rsub_walk w R db D h s 0 (kidT D 0 h) hv hw hs (by rw [hnil]; rfl) (fun i x hx => by rw [hnil] at hx; simp at hx)
  unfold subT
  rw [slD_of hs]
  exact this
 | m + 1, w, h, s, hv, hs, hm => by
  have := rsub_walk w R db D h s (m + 1) (kidT D (m + 1) h) hv hw hs (by rw [kidT_succ, List.length_map]) (fun i x hx => by
   refine ⟨subT D m x, by rw [kidT_succ, List.getElem?_map, hx]; rfl, fun W hW => ?_⟩
   obtain ⟨s', h1, _, h2⟩ := hw.kid hl hs (List.mem_of_getElem? hx)
   exact rsub_any D R db lv hw hl m W x s' hW h1 (by omega))
  unfold subT
  rw [slD_of hs]
  exact this
def ForR (w : World) (R : Nat -> Prop) (n : Nat) (a : Option Addr) (L : List (T n)) : Prop :=
 ∀ i k, L[i]? = some k -> ∃ (b o : Nat) (u : Array Value), a = some ⟨b, o, none⟩ /\ R b /\ u.size = 5 /\ (∀ j, j < 5 -> w.cell? ⟨b, o + i * 5 + j, none⟩ = u[j]?) /\ TreeR w R n u k
def ForP (w : World) (R : Nat -> Prop) (n : Nat) (L : List (T n)) (e : Ending) (w' : World) : Prop :=
 ∃ a cap, e = .returned (.slice a L.length cap) /\ L.length <= cap /\ ForR w' (fun b => R b \/ (w.heap.size <= b /\ b < w'.heap.size)) n a L /\ Below w.heap.size w w'
structure ForSt (w wr : World) (R : Nat -> Prop) (m : Nat) (L : List (T m)) (i : Nat) (la : Option Addr) (lcap : Nat) (xs : List Value) : Prop where
 own : wr.ownsRow w.heap.size 35 5 (.slice la i lcap) i xs
 kids : CopiesAt wr (fun b => R b \/ (w.heap.size <= b /\ b < wr.heap.size /\ (Value.slice la i lcap).ownBlock ≠ some b)) m xs (L.take i)
 bel : Below w.heap.size w wr
theorem ForSt.step {w wr w2 w3 : World} {R : Nat -> Prop} {m : Nat} {L : List (T m)} {i : Nat} {la : Option Addr} {lcap : Nat} {xs : List Value} (h : ForSt w wr R m L i la lcap xs) (hR : ∀ b, R b -> b < w.heap.size) {k : T m} (hk : L[i]? = some k)
  {u : Array Value} (hu : TreeR w2 (fun b => R b \/ (wr.heap.size <= b /\ b < w2.heap.size)) m u k) (hb : Below wr.heap.size wr w2) {o o' : Obj} {la' : Option Addr} {lcap' : Nat} (hown : w3.ownsRow w.heap.size 35 5 (.slice la' (i + 1) lcap') (i + 1) (xs ++ u.toList))
  (hg : ((w2.alloc o).alloc o').grownBy w3 (Value.slice la i lcap).ownBlock) (hat : (Value.slice la' (i + 1) lcap').ownBlock = (Value.slice la i lcap).ownBlock \/ (Value.slice la' (i + 1) lcap').ownBlock = some (w2.heap.size + 2)) :
  ForSt w w3 R m L (i + 1) la' lcap' (xs ++ u.toList) := by
 have hs := hb.size
 have hs3 : w2.heap.size + 2 <= w3.heap.size := by have := hg.size; simpa using this
 have hbl := h.bel.size
 have hox := own_block_lt h.own
 have far : ∀ b, b < w2.heap.size -> (Value.slice la i lcap).ownBlock ≠ some b -> w3.heap[b]? = w2.heap[b]? := fun b hb1 hb2 => grown_box hg hb1 (fun e => hb2 e.symm)
 have far2 : ∀ b, b < wr.heap.size -> (Value.slice la i lcap).ownBlock ≠ some b -> w3.heap[b]? = wr.heap[b]? := fun b hb1 hb2 => (far b (by omega) hb2).trans (hb.block b hb1)
 have hnew : ∀ b, b < w2.heap.size -> (Value.slice la i lcap).ownBlock ≠ some b -> (Value.slice la' (i + 1) lcap').ownBlock ≠ some b := fun b h1 h2 e => by
  rcases hat with hat | hat
  ·rw [hat] at e; exact h2 e
  ·rw [hat] at e; simp only [Option.some.injEq] at e; omega
 have hnb : ∀ b, b < w.heap.size -> (Value.slice la i lcap).ownBlock ≠ some b := fun b hb e => by have := hox _ e; omega
 refine ⟨hown, ?_, ?_⟩
 ·rw [take_more hk]
  have hne : ∀ b, wr.heap.size <= b -> (Value.slice la i lcap).ownBlock ≠ some b := fun b h1 e => by have := hox _ e; omega
  refine CopiesAt.snoc (h.kids.to (fun b hb' => ?_) (fun b o hb' => ?_)) (hu.to (fun b hb' => ?_) (fun b o hb' => ?_))
  ·rcases hb' with hb' | hb'
   ·exact .inl hb'
   ·exact .inr ⟨hb'.1, by omega, hnew b (by omega) hb'.2.2⟩
  ·rcases hb' with hb' | hb'
   ·have := hR b hb'
    exact World.cell?_of_block (w := wr) (a := ⟨b, o, none⟩) (far2 b (by omega) (hnb b (by omega)))
   ·exact World.cell?_of_block (w := wr) (a := ⟨b, o, none⟩) (far2 b hb'.2.1 hb'.2.2)
  ·rcases hb' with hb' | hb'
   ·exact .inl hb'
   ·exact .inr ⟨by omega, by omega, hnew b hb'.2 (hne b hb'.1)⟩
  ·rcases hb' with hb' | hb'
   ·have := hR b hb'
    exact World.cell?_of_block (w := w2) (a := ⟨b, o, none⟩) (far b (by omega) (hnb b (by omega)))
   ·exact World.cell?_of_block (w := w2) (a := ⟨b, o, none⟩) (far b hb'.2 (hne b hb'.1))
 ·exact (h.bel.trans (hb.mono hbl)).trans ⟨hg.os, hg.tape, hg.output, by omega, fun k hk => far k (by omega) (hnb k (by omega))⟩
theorem ForSt.done {w wr : World} {R : Nat -> Prop} {m : Nat} {L : List (T m)} {la : Option Addr} {lcap : Nat} {xs : List Value} (h : ForSt w wr R m L L.length la lcap xs) : L.length <= lcap /\ ForR wr (fun b => R b \/ (w.heap.size <= b /\ b < wr.heap.size)) m la L := by
 obtain ⟨hlc, hxl, hrow⟩ := row_cell h.own
 refine ⟨hlc, fun i k hk => ?_⟩
 obtain ⟨_, _, hkids⟩ := h.kids
 obtain ⟨u, h1, h2, h3⟩ := hkids i k (by rw [List.take_length]; exact hk)
 have hj : ∀ j, j < 5 -> ∃ g, la = some ⟨g, 0, none⟩ /\ w.heap.size <= g /\ g < wr.heap.size /\ wr.cell? ⟨g, i * 5 + j, none⟩ = u[j]? := fun j hj => by
  have hu := h2 j hj
  rw [Array.getElem?_eq_getElem (by omega)] at hu
  obtain ⟨g, e1, e2, e3, e4⟩ := hrow _ _ hu
  exact ⟨g, e1, e2, e3, by rw [e4, Array.getElem?_eq_getElem (by omega)]⟩
 obtain ⟨g, rfl, hg1, hg2, _⟩ := hj 0 (by omega)
 refine ⟨g, 0, u, rfl, .inr ⟨hg1, hg2⟩, h1, fun j hj' => ?_, h3.to (fun b hb => ?_) (fun b o hb => rfl)⟩
 ·obtain ⟨g', e1, _, _, e4⟩ := hj j hj'
  cases e1
  rw [Nat.zero_add, e4]
 ·rcases hb with hb | hb
  ·exact .inl hb
  ·exact .inr ⟨hb.1, hb.2.1⟩
theorem rforest_any (w : World) (R : Nat -> Prop) (db : Nat) (D : Dc) (hv : View w R db D) (hw : WF D) :
  Calls Tryz.prog 18 #[.pointer (some ⟨db, 0, none⟩)] w (ForP w R 64 (D.roots.map (subT D 63))) := by
 obtain ⟨lv, hl⟩ := hw.lev
 have hll := (roots_len hw).1
 obtain ⟨ra, rcap, hz1, hrc, hra⟩ := hv.roots
 have HV : Hid (View w R db D) := hv
 have HR : Hid (∀ b, R b -> b < w.heap.size) := hv.lt
 have hdl := hv.lt db hv.docs
 have HRA : Hid (HandsAt w R ra D.roots) := hra
 have HK : Hid (∀ (i x : Nat), D.roots[i]? = some x -> (D.roots.map (subT D 63))[i]? = some (subT D 63 x) /\ ∀ W, View W R db D -> Calls Tryz.prog 38 #[.pointer (some ⟨db, 0, none⟩), .int .u64 (x : Int)] W (SubP W R 64 (subT D 63 x))) := fun i x hx => by
  obtain ⟨s, h1, _, h2⟩ := hw.root hl (List.mem_of_getElem? hx)
  exact ⟨by rw [List.getElem?_map, hx]; rfl, fun W hW => rsub_any D R db lv hw hl 63 W x s hW h1 (by omega)⟩
 have HL : Hid ((D.roots.map (subT D 63)).length = D.roots.length) := List.length_map ..
 clear hv hw hl hra
 generalize D.roots.map (subT D 63) = L at *
 generalize D.roots = l at *
 have HST : Hid (ForSt w (w.alloc (.cells #[] 35)) R 64 L 0 (some ⟨w.heap.size, 0, none⟩) 0 []) := ⟨own_new w 35 5, by rw [List.take_zero]; exact CopiesAt.nil _ _ _, below_new' w _⟩
 go_enter Tryz.func18, Tryz.ntmps18
 go_wp2
 go_loopw [3, 4, 5, 6] (fun q iv _ _ wr => ∃ (i : Nat) (la : Option Addr) (lcap : Nat) (xs : List Value), i <= l.length /\ iv = .int .i64 (i : Int) /\ q = .slice la i lcap /\ Hid (ForSt w wr R 64 L i la lcap xs)) (fun _ iv _ _ _ => l.length - (intOf iv).toNat)
 case atStart => exact ⟨0, _, _, [], Nat.zero_le _, rfl, rfl, HST⟩
 case round =>
  obtain ⟨j, la, lcap, xs, hj, rfl, rfl, hst⟩ := hrel
  have hbs := hst.out.bel.size
  have hz2 : wr.cell? ⟨db, 1, none⟩ = some (.slice ra l.length rcap) := (hst.out.bel.cell (p := ⟨db, _, none⟩) hdl).trans hz1
  have hdr : db < wr.heap.size := by omega
  clear HST
  by_cases hlt : j < l.length
  ·obtain ⟨x, hx⟩ : ∃ x, l[j]? = some x := ⟨_, List.getElem?_eq_getElem hlt⟩
   obtain ⟨hk, hcalls⟩ := HK.out j x hx
   obtain ⟨b, o, rfl, hbR, hcx⟩ := HRA.out j x hx
   have hbb := HR.out b hbR
   have hcx' : wr.cell? ⟨b, o + j, none⟩ = some (.int .u64 (x : Int)) := (hst.out.bel.cell (p := ⟨b, _, none⟩) hbb).trans hcx
   have hbr : b < wr.heap.size := by omega
   have hcall := hcalls wr (HV.out.below hst.out.bel)
   generalize subT D 63 x = k at *
   have HKK : Hid (L[j]? = some k) := hk
   clear hk hcalls hx hcx
   go_wp2_with fail
   refine hcall.mono ?_
   rintro e w3 ⟨u, rfl, htu, hbu⟩
   have hs3 := hbu.size
   obtain ⟨kk', nm', a'', al'', ac'', tx', ka3, kl3, kc3, rfl⟩ := htu.form
   have HTU : Hid (TreeR w3 (fun b => R b \/ (wr.heap.size <= b /\ b < w3.heap.size)) 64 #[.int .i64 kk', .string nm', .slice a'' al'' ac'', .string tx', .slice ka3 kl3 kc3] k) := htu
   have HBU : Hid (Below wr.heap.size wr w3) := hbu
   clear htu hbu hcall hcx'
   have tok2 : True := trivial
   go_wp2_with (at_builtin; have _t := tok2; refine wpList_app rfl _ _ rfl Tryz.underlying22 info25 rfl (by decide) w.heap.size (.slice la j lcap) j xs rfl (own_of_block hst.out.own (fun k hk => (Below.heap_alloc _ _ _ (by have := (own_block_lt hst.out.own k hk).2; simp; omega)).trans ((Below.heap_alloc _ _ _ (by have := (own_block_lt hst.out.own k hk).2; omega)).trans (HBU.out.block k (own_block_lt hst.out.own k hk).2)))) (some ⟨w3.heap.size + 1, 0, none⟩) 1 1 [.int .i64 kk', .string nm', .slice a'' al'' ac'', .string tx', .slice ka3 kl3 kc3] rfl rfl (by have := news_new (w3.alloc (.cells #[.int .i64 kk', .string nm', .slice a'' al'' ac'', .string tx', .slice ka3 kl3 kc3] 35)) #[.int .i64 kk', .string nm', .slice a'' al'' ac'', .string tx', .slice ka3 kl3 kc3] 35; simpa using this) (tree_one _ _ _ _ _ _ _ _ _) (by unfold maxLen; omega) (by omega) (by simp; omega) ?_; intro v3 w4 hown3 hg3 _ hat3; clear tok2 _t; obtain ⟨la', lcap', hv3⟩ := own_slice hown3; subst hv3; have HST3 : Hid (ForSt w w4 R 64 L (j + 1) la' lcap' (xs ++ [.int .i64 kk', .string nm', .slice a'' al'' ac'', .string tx', .slice ka3 kl3 kc3])) := hst.out.step HR.out HKK.out HTU.out HBU.out hown3 hg3 (by simpa using hat3); clear hown3 hg3 hat3 HTU HBU HKK hst)
   go_roundw
   case rel => exact ⟨j + 1, la', lcap', _, by omega, by go_num, rfl, HST3⟩
   case measure => simp [intOf]; omega
  ·have hje : j = l.length := by omega
   subst hje
   have HN := HL
   clear HK hlt
   go_wp2
   go_ret
   have hs9 := hst.out
   have hb9 := hst.out.bel
   rw [<- HN.out] at hs9 ⊢
   exact ⟨_, _, rfl, hs9.done.1, hs9.done.2, hb9⟩
theorem setL_zero (D : Dc) (l' : List Nat) : setL D 0 l' = { D with roots := l' } := by simp [setL]
theorem setL_some {D : Dc} {p i : Nat} {s : Sl} {l' : List Nat} (h0 : p ≠ 0) (ha : atI D.S p = some i) (hs : D.S[i]? = some s) : setL D p l' = { D with S := D.S.set i { s with kids := l' } } := by
 simp only [setL, if_neg h0, ha, hs]
theorem sl_setL_ne {D : Dc} {p q : Nat} {l' : List Nat} (hne : q ≠ p) : sl (setL D p l') q = sl D q := by
 by_cases h0 : p = 0
 ·subst h0; rw [setL_zero]; rfl
 ·cases ha : atI D.S p with
  | none => simp only [setL, if_neg h0, ha]
  | some i =>
   obtain ⟨s, hs, hl, _, _, _, hp⟩ := atI_some ha
   rw [setL_some h0 ha hs]
   have h1 := atI_set_same (h := q) (j := 0) (s' := { s with kids := l' }) hs rfl rfl
   simp only [sl, h1]
   cases hq : atI D.S q with
   | none => rfl
   | some j =>
    obtain ⟨t, ht, _, _, _, _, hqq⟩ := atI_some hq
    simp only [Option.bind_some]
    have hij : i ≠ j := by
     rintro rfl
     rw [hs] at ht
     cases ht
     exact hne (hqq.trans hp.symm)
    rw [List.getElem?_set_ne hij]
theorem sl_setL_eq {D : Dc} {p : Nat} {s : Sl} {l' : List Nat} (hs : sl D p = some s) : sl (setL D p l') p = some { s with kids := l' } := by
 have h0 : p ≠ 0 := by rintro rfl; rw [sl_zero] at hs; cases hs
 obtain ⟨i, ha, hsi, _, _⟩ := sl_live hs
 rw [setL_some h0 ha hsi]
 have h1 := atI_set_same (h := p) (j := 0) (s' := { s with kids := l' }) hsi rfl rfl
 simp only [sl, h1, ha, Option.bind_some]
 exact List.getElem?_set_self (List.getElem?_eq_some_iff.1 hsi).1
theorem lst_setL_eq {D : Dc} {p : Nat} {l' : List Nat} (hp : p = 0 \/ ∃ s, sl D p = some s) : lst (setL D p l') p = l' := by
 rcases hp with rfl | ⟨s, hs⟩
 ·rw [setL_zero]; rfl
 ·have h0 : p ≠ 0 := by rintro rfl; rw [sl_zero] at hs; cases hs
  simp only [lst, if_neg h0, sl_setL_eq hs]
theorem roots_setL {D : Dc} {p : Nat} {l' : List Nat} (h0 : p ≠ 0) : (setL D p l').roots = D.roots := by
 unfold setL
 rw [if_neg h0]
 split
 ·rfl
 ·split <;> rfl
theorem lst_setL_ne {D : Dc} {p q : Nat} {l' : List Nat} (hne : q ≠ p) : lst (setL D p l') q = lst D q := by
 unfold lst
 by_cases h0 : q = 0
 ·rw [if_pos h0, if_pos h0, roots_setL (by omega)]
 ·rw [if_neg h0, if_neg h0, sl_setL_ne hne]
def outD (D : Dc) (n : Nat) (s : Sl) : Dc := setL D s.parent ((lst D s.parent).take (idxH (lst D s.parent) n).toNat ++ (lst D s.parent).drop ((idxH (lst D s.parent) n).toNat + 1))
def putD (D : Dc) (n p : Nat) (wh : Int) (a : Nat) : Dc := setPar (setL D p (ins (lst D p) (whereN (lst D p) wh a) n)) n p
def placeE (D : Dc) (wh : Int) (a : Nat) : Nat × Int := if a = 0 then (0, 0) else match sl D a with
 | none => (0, 8)
 | some s => if wh <= 2 then (if s.kind = 2 then (0, 31) else (a, 0)) else (s.parent, 0)
theorem rplace_any (w : World) (R : Nat -> Prop) (db : Nat) (D : Dc) (wh : Int) (a : Nat) (hv : View w R db D) (hw : WF D) (hal : a < 18446744073709551616) (h : isPlaceB wh a = true) :
  Calls Tryz.prog 62 #[.pointer (some ⟨db, 0, none⟩), .int .i64 wh, .int .u64 (a : Int)] w (RplP w (placeE D wh a).1 (placeE D wh a).2) := by
 by_cases h0 : a = 0
 ·subst h0
  have e : placeE D wh 0 = (0, 0) := by simp [placeE]
  rw [e]
  simp only [isPlaceB, decide_eq_true_eq] at h
  exact rplace_zero w db wh (by omega)
 ·cases hs : sl D a with
  | none =>
   have e : placeE D wh a = (0, 8) := by simp only [placeE, if_neg h0, hs]
   rw [e]
   exact rplace_node w R db D wh a hv hw.fits hal h h0 (sl_none hs)
  | some s =>
   have e : placeE D wh a = if wh <= 2 then (if s.kind = 2 then (0, 31) else (a, 0)) else (s.parent, 0) := by simp only [placeE, if_neg h0, hs]
   rw [e]
   simp only [isPlaceB, decide_eq_true_eq] at h
   exact rplace_some w R db D wh a s hv hw (by omega) hs _ _ rfl
theorem mem_cut {l : List Nat} {k n a : Nat} (hk : l[k]? = some n) (ha : a ∈ l) (hne : a ≠ n) : a ∈ l.take k ++ l.drop (k + 1) := by
 obtain ⟨j, hj⟩ := List.getElem?_of_mem ha
 rw [List.mem_append]
 rcases Nat.lt_trichotomy j k with h | h | h
 ·exact .inl (List.mem_of_getElem? (i := j) (by rw [List.getElem?_take_of_lt h]; exact hj))
 ·subst h; rw [hj] at hk; cases hk; exact absurd rfl hne
 ·exact .inr (List.mem_of_getElem? (i := j - (k + 1)) (by rw [List.getElem?_drop, show k + 1 + (j - (k + 1)) = j from by omega]; exact hj))
theorem kids_sub {D : Dc} (hw : WF D) {h : Nat} {s : Sl} (hs : sl D h = some s) (m : Nat) : kidsT (subT D m h : Nd (T m)) = kidT D m h := by
 unfold kidsT
 have e : (subT D m h : Nd (T m)) = (mkN s (kidT D m h) : Nd (T m)) := by unfold subT; rw [slD_of hs]
 rw [e]
 show (if s.kind = 1 then kidT D m h else []) = kidT D m h
 rcases hw.kind hs with hk | hk
 ·rw [if_pos hk]
 ·rw [if_neg (by omega)]
  obtain ⟨i, _, h2, h3, _⟩ := sl_live hs
  have hnil := ((hw.used i s h2 h3).1 hk).1
  cases m with
  | zero => rfl
  | succ m =>
   have h0 : h ≠ 0 := by rintro rfl; rw [sl_zero] at hs; cases hs
   rw [kidT_succ]
   simp [lst, h0, hs, hnil]
theorem leaf_nil {D : Dc} (hw : WF D) {lv : Nat -> Nat} (hl : Lev D lv) {h : Nat} {s : Sl} (hs : sl D h = some s) (hm : 63 - lv h <= 0) : lst D h = [] := by
 cases he : lst D h with
 | nil => rfl
 | cons c r =>
  obtain ⟨s', h1, _, h2⟩ := hw.kid hl hs (c := c) (by rw [he]; simp)
  have := (hl c s' h1).1
  omega
theorem sub_own {D : Dc} (hw : WF D) {h : Nat} {s : Sl} (hs : sl D h = some s) (m : Nat) : ownE (subT D m h : Nd (T m)) = 0 := by
 obtain ⟨i, _, h2, h3, _⟩ := sl_live hs
 have e : (subT D m h : Nd (T m)) = (mkN s (kidT D m h) : Nd (T m)) := by unfold subT; rw [slD_of hs]
 rw [e]
 exact hw.own i s h2 h3
theorem sub_counts {D : Dc} (hw : WF D) {lv : Nat -> Nat} (hl : Lev D lv) : ∀ (m h : Nat) (s : Sl), sl D h = some s -> 63 - lv h <= m -> okT (m + 1) (subT D m h) /\ ndT (m + 1) (subT D m h) = (allH D h).length /\ htT (m + 1) (subT D m h) = hgt D h
 | 0, h, s, hs, hm => by
  have hn := leaf_nil hw hl hs hm
  rw [okT, ndT, htT, kids_sub hw hs, allH_step hw hs, hgt_step hw hs, hn]
  refine ⟨⟨sub_own hw hs 0, fun k hk => by simp [kidT] at hk⟩, ?_, ?_⟩
  ·simp [kidT]
  ·simp [kidT]
 | m + 1, h, s, hs, hm => by
  have ih : ∀ c ∈ lst D h, okT (m + 1) (subT D m c) /\ ndT (m + 1) (subT D m c) = (allH D c).length /\ htT (m + 1) (subT D m c) = hgt D c := fun c hc => by
   obtain ⟨s', h1, _, h2⟩ := hw.kid hl hs hc
   exact sub_counts hw hl m c s' h1 (by omega)
  rw [okT, ndT, htT, kids_sub hw hs, kidT_succ, allH_step hw hs, hgt_step hw hs]
  refine ⟨⟨sub_own hw hs (m + 1), fun k hk => ?_⟩, ?_, ?_⟩
  ·obtain ⟨c, hc, rfl⟩ := List.mem_map.1 hk
   exact (ih c hc).1
  ·rw [List.map_map, List.length_cons, List.length_flatMap]
   congr 2
   exact List.map_congr_left fun c hc => (ih c hc).2.1
  ·rw [List.map_map]
   congr 2
   exact List.map_congr_left fun c hc => (ih c hc).2.2
end Go.Proofs.YtmapmkogjhinmaaGreat
