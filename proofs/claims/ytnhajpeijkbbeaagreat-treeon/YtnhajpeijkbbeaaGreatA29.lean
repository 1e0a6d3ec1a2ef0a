/- Does: any act. -/
import Derived.Test.YtnhajpeijkbbeaaGreatA27
import Derived.Test.YtnhajpeijkbbeaaGreatA28
import Derived.Test.YtnhajpeijkbbeaaGreatA26
import Derived.Test.YtnhajpeijkbbeaaGreatRows
import Derived.WalkKit
import Derived.ProofKit
import Derived.OpenShut
import Derived.ChangeOld
import Derived.SizedLaws
import Derived.Deep.Slices
import Derived.Test.YtnhajpeijkbbeaaGreatA22
namespace Go.Proofs.YtnhajpeijkbbeaaGreat
open Go.RowKit
set_option linter.unusedVariables false
set_option linter.unusedSimpArgs false
theorem does_any (w : World) (ro : Nat -> Nat) (db : Nat) (Q : Nat -> Prop) (rb : Nat) (D : Dc) (hbo : Bo w ro db Q rb D) (k wh : Int) (how : Bool) (n a : Nat) (nm vl : ByteArray) (xk : Int) (xn : ByteArray) (xa : Option Addr) (xal xac : Nat) (xt : ByteArray) (xka : Option Addr) (xkl xkc : Nat) (hn : n < 18446744073709551616) (ha : a < 18446744073709551616)
  (m : Nat) (t : T m) (lo hi : Nat) (htr : TreeAt w lo hi m #[.int .i64 xk, .string xn, .slice xa xal xac, .string xt, .slice xka xkl xkc] t) (hrb : hi <= rb) (hro : ∀ b, ro b ≠ 0 -> hi <= b) :
  Calls Tryz.prog 12 #[.iface 27 (.pointer (some ⟨db, 0, none⟩)), .pointer (some ⟨rb, 0, none⟩), .agg (actv k wh how n a nm vl xk xn xa xal xac xt xka xkl xkc)] w (DoP w ro db Q rb) := by
 by_cases h0 : k = 0
 ·subst h0; exact does_ins w ro db Q rb D hbo wh how n a nm vl xk xn xa xal xac xt xka xkl xkc hn ha m t lo hi htr hrb hro
 by_cases h1 : k = 1
 ·subst h1; exact does_mov w ro db Q rb D hbo wh how n a nm vl xk xn xa xal xac xt xka xkl xkc hn ha
 by_cases h2 : k = 2
 ·subst h2; exact does_del w ro db Q rb D hbo wh how n a nm vl xk xn xa xal xac xt xka xkl xkc hn ha
 by_cases h3 : k = 3
 ·subst h3; exact does_name w ro db Q rb D hbo wh how n a nm vl xk xn xa xal xac xt xka xkl xkc hn ha
 by_cases h4 : k = 4
 ·subst h4; exact does_text w ro db Q rb D hbo wh how n a nm vl xk xn xa xal xac xt xka xkl xkc hn ha
 by_cases h5 : k = 5
 ·subst h5; exact does_attr w ro db Q rb D hbo wh how n a nm vl xk xn xa xal xac xt xka xkl xkc hn ha
 by_cases h6 : k = 6
 ·subst h6; exact does_drop w ro db Q rb D hbo wh how n a nm vl xk xn xa xal xac xt xka xkl xkc hn ha
 exact does_none w ro db Q rb D hbo k wh how n a nm vl xk xn xa xal xac xt xka xkl xkc hn ha ⟨h0, h1, h2, h3, h4, h5, h6⟩
end Go.Proofs.YtnhajpeijkbbeaaGreat
/- Tells: both documents tell the same. -/
namespace Go.Proofs.YtnhajpeijkbbeaaGreat
open Go.RowKit
set_option linter.unusedVariables false
set_option linter.unusedSimpArgs false
set_option maxRecDepth 100000
set_option maxHeartbeats 4000000
def TelP (w : World) (e : Ending) (w' : World) : Prop := e = .returned (.bool true) /\ Below w.heap.size w w'
theorem images_both {w z W : World} {ro : Nat -> Nat} {db : Nat} {Q : Nat -> Prop} {rb : Nat} {D : Dc} (hw : WF D) {sa ra sa' ra' : Option Addr} {sc rc sc' rc' : Nat} {R R' : Nat -> Prop} (h1 : SlotsAt z R sa D.S) (h2 : HandsAt z R ra D.roots) (h3 : SlotsAt z R' sa' D.S) (h4 : HandsAt z R' ra' D.roots) (hR : ∀ b, R b -> b < z.heap.size) (hR' : ∀ b, R' b -> b < z.heap.size) (hb : Below z.heap.size z W) :
  Calls Tryz.prog 26 #[.agg #[.slice sa D.S.length sc, .slice ra D.roots.length rc], .agg #[.slice sa' D.S.length sc', .slice ra' D.roots.length rc']] W fun e w' => e = .returned (.bool true) /\ Below W.heap.size W w' := by
 have hf := hw.fits.len
 have hr := (roots_len hw).1
 refine images_same W R R' D sa sa' ra ra' sc sc' rc rc' (h1.to (fun _ h => h) (fun b o h => hb.cell (p := ⟨b, o, none⟩) (hR b h))) (h3.to (fun _ h => h) (fun b o h => hb.cell (p := ⟨b, o, none⟩) (hR' b h))) (h2.to (fun _ h => h) (fun b o h => hb.cell (p := ⟨b, o, none⟩) (hR b h))) (h4.to (fun _ h => h) (fun b o h => hb.cell (p := ⟨b, o, none⟩) (hR' b h))) (fun b h => Nat.lt_of_lt_of_le (hR b h) hb.size) (fun b h => Nat.lt_of_lt_of_le (hR' b h) hb.size) (by omega) (by omega) (fun s hs => ?_)
 obtain ⟨i, hi⟩ := List.getElem?_of_mem hs
 have := hw.caps hi
 omega
theorem tells_any (w : World) (ro : Nat -> Nat) (db : Nat) (Q : Nat -> Prop) (rb : Nat) (D : Dc) (hbo : Bo w ro db Q rb D) :
  Calls Tryz.prog 14 #[.pointer (some ⟨db, 0, none⟩), .pointer (some ⟨rb, 0, none⟩)] w (TelP w) := by
 have himg := pimage_any w _ db D hbo.p.view hbo.wf
 have HBO : Hid (Bo w ro db Q rb D) := hbo
 clear hbo
 go_enter Tryz.func14, Tryz.ntmps14
 go_wp2_with fail
 refine himg.mono ?_
 rintro e w1 ⟨sa, sc, ra, rc, rfl, hsc, hrc, hsl, hhl, hb1⟩
 obtain ⟨W1, hW1⟩ : ∃ W1, W1 = w1.alloc (.cells #[.slice sa D.S.length sc, .slice ra D.roots.length rc] 25) := ⟨_, rfl⟩
 have hs1 := hb1.size
 have hsW : W1.heap.size = w1.heap.size + 1 := by rw [hW1]; simp
 have hbW : Below w1.heap.size w1 W1 := by rw [hW1]; exact below_new' w1 _
 have HBW : Hid (Below w.heap.size w W1) := hb1.trans (hbW.mono hs1)
 have HSL : Hid (SlotsAt W1 (Fw w1 w.heap.size) sa D.S) := hsl.to (fun _ h => h) (fun b o h => hbW.cell (p := ⟨b, o, none⟩) h.2.1)
 have HHL : Hid (HandsAt W1 (Fw w1 w.heap.size) ra D.roots) := hhl.to (fun _ h => h) (fun b o h => hbW.cell (p := ⟨b, o, none⟩) h.2.1)
 have HFB : Hid (∀ b, Fw w1 w.heap.size b -> Wr W1 b) := fun b h => h.2.2.of_block (hbW.block b h.2.1)
 have HB1 : Hid (Bo W1 ro db Q rb D) := HBO.out.below HBW.out
 have HX : Hid (IsCells W1 w1.heap.size #[.slice sa D.S.length sc, .slice ra D.roots.length rc]) := by rw [hW1]; exact isCells_new _ _ _
 have HW1 : Hid (W1 = _) := hW1
 have hrb := HB1.out.r.rbl
 have hrl := (roots_len HBO.out.wf).1
 have hfl := HBO.out.wf.fits.len
 clear himg hsl hhl hb1 hbW hW1
 obtain ⟨sa2, sc2, ra2, rc2, hd1, hd2, hd3, hd4, hd5⟩ := HB1.out.r.head
 have HS : Hid (∀ u, Below W1.heap.size W1 u -> u.cell? ⟨w1.heap.size, 0, none⟩ = some (.slice sa D.S.length sc) /\ u.cell? ⟨w1.heap.size, 1, none⟩ = some (.slice ra D.roots.length rc) /\ u.cell? ⟨rb, 1, none⟩ = some (.slice ra2 D.roots.length rc2)) := fun u hu =>
  ⟨(hu.cell (p := ⟨w1.heap.size, 0, none⟩) HX.out.lt).trans (HX.out.cell 0), (hu.cell (p := ⟨w1.heap.size, 1, none⟩) HX.out.lt).trans (HX.out.cell 1), (hu.cell (p := ⟨rb, 1, none⟩) hrb).trans (hd1.cell 1)⟩
 have HBd : Hid (Below W1.heap.size W1 W1.drew) := (Below.refl _ _).drew
 have hSd := HS.out _ HBd.out
 obtain ⟨sa3, sc3, ra3, rc3, e1, e2, e3, e4, hc56⟩ := rimage_any W1.drew _ rb D (HB1.out.below HBd.out).r.view
 have hc26 : ∀ u, Below W1.heap.size W1 u -> Calls Tryz.prog 26 #[.agg #[.slice sa D.S.length sc, .slice ra D.roots.length rc], .agg #[.slice sa3 D.S.length sc3, .slice ra3 D.roots.length rc3]] u fun e w' => e = .returned (.bool true) /\ Below u.heap.size u w' := fun u hu =>
  images_both (w := w) (ro := ro) (db := db) (Q := Q) (rb := rb) HBO.out.wf HSL.out HHL.out (e2.to (fun _ h => h) (fun _ _ _ => rfl)) (e4.to (fun _ h => h) (fun _ _ _ => rfl)) (fun b h => by have := h.2.1; omega) (fun b h => (HB1.out.below HBd.out).r.view.lt b h) hu
 have hc57 : ∀ u, Below W1.heap.size W1 u -> Calls Tryz.prog 57 #[.pointer (some ⟨db, 0, none⟩)] u fun e w' => e = .returned (.int .i64 (cnt Sl.live D.S : Int)) /\ w' = u := fun u hu => plen_any u ro db D (HB1.out.below hu).p
 have hc38 : ∀ u, Below W1.heap.size W1 u -> Calls Tryz.prog 38 #[.pointer (some ⟨rb, 0, none⟩)] u fun e w' => e = .returned (.int .i64 (cnt Sl.live D.S : Int)) /\ w' = u := fun u hu => rlen_any' u _ rb D (HB1.out.below hu).r.view HBO.out.wf.fits
 have hc23 : ∀ u, Below W1.heap.size W1 u -> Calls Tryz.prog 23 #[.pointer (some ⟨db, 0, none⟩)] u (FrP u 42 1 D.roots.length (hvals D.roots)) := fun u hu => proots_any u _ db D (HB1.out.below hu).p.view (by omega)
 have hc53 : ∀ u u' a c, Below W1.heap.size W1 u -> Below u.heap.size u u' -> u'.ownsRow u.heap.size 42 1 (.slice a D.roots.length c) D.roots.length (hvals D.roots) -> Calls Tryz.prog 53 #[.slice a D.roots.length c, .slice ra2 D.roots.length rc2] u' fun e w' => e = .returned (.bool true) /\ Below u'.heap.size u' w' := fun u u' a c hu hu' ho =>
  handles_same u' (fun b => (Value.slice a D.roots.length c).ownBlock = some b /\ Fw u' u.heap.size b) Q a ra2 D.roots c rc2 (hands_own ho) (hd5.to (fun _ h => h) (fun b o h => ((hu.trans (hu'.mono hu.size)).cell (p := ⟨b, o, none⟩) (HB1.out.r.lt b h)))) (fun b h => h.2.2.1) (fun b h => by have := HB1.out.r.lt b h; have := hu.size; have := hu'.size; omega) (by omega)
 have tok0 : True := trivial
 have tok1 : True := trivial
 have tok2 : True := trivial
 have tok3 : True := trivial
 have tok4 : True := trivial
 have tok5 : True := trivial
 obtain ⟨hSd0, hSd1, hSd2⟩ := hSd
 go_upto_region 2 with fail
 rw [<- HW1.out]
 go_cut [31] (fun p wx => p = .bool false /\ Hid (Below W1.heap.size W1 wx))
 case first =>
  go_region_held3 (fun W => W.cell? ⟨w1.heap.size, 0, none⟩ = some (.slice sa D.S.length sc) /\ W.cell? ⟨w1.heap.size, 1, none⟩ = some (.slice ra D.roots.length rc) /\ W.cell? ⟨rb, 1, none⟩ = some (.slice ra2 D.roots.length rc2)) (first | exact ⟨hSd0, hSd1, hSd2⟩ | exact hS2 | exact hS3 | exact hS4 | exact hS5 | go_keep)
   (first
    | (go_at_call 56; have _t := tok0; (with_reducible refine hc56.mono ?_); rintro e w2 ⟨rfl, hb2⟩; have HB2 : Hid (Below W1.heap.size W1 w2) := HBd.out.trans (hb2.mono HBd.out.size); have hS2 := HS.out w2 HB2.out; have hd26 := hc26 w2 HB2.out; clear tok0 _t hb2)
    | (go_at_call 26; have _t := tok1; (with_reducible refine hd26.mono ?_); rintro e w3 ⟨rfl, hb3⟩; have HB3 : Hid (Below W1.heap.size W1 w3) := HB2.out.trans (hb3.mono HB2.out.size); have hS3 := HS.out w3 HB3.out; have hd57 := hc57 w3 HB3.out; have hd38 := hc38 w3 HB3.out; have hd23 := hc23 w3 HB3.out; clear tok1 _t hb3)
    | (go_at_call 57; have _t := tok2; (with_reducible refine hd57.mono ?_); rintro e w4 ⟨rfl, rfl⟩; clear tok2 _t)
    | (go_at_call 38; have _t := tok3; (with_reducible refine hd38.mono ?_); rintro e w4 ⟨rfl, rfl⟩; clear tok3 _t)
    | (go_at_call 23; have _t := tok4; (with_reducible refine hd23.mono ?_); rintro e w5 ⟨a5, c5, rfl, ho5, hb5⟩; have HB5 : Hid (Below W1.heap.size W1 w5) := HB3.out.trans (hb5.mono HB3.out.size); have hS4 := HS.out w5 HB5.out; have hd53 := hc53 _ w5 a5 c5 HB3.out hb5 ho5; clear tok4 _t hb5 ho5)
    | (go_at_call 53; have _t := tok5; (with_reducible refine hd53.mono ?_); rintro e w6 ⟨rfl, hb6⟩; have HB6 : Hid (Below W1.heap.size W1 w6) := HB5.out.trans (hb6.mono HB5.out.size); have hS5 := HS.out w6 HB6.out; clear tok5 _t hb6))
  go_wp2_with fail
  go_meet
  exact ⟨rfl, HB6⟩
 case rest =>
  obtain ⟨rfl, HBc⟩ := hcut
  clear hc26 hc57 hc38 hc23 hc53 hc56 tok0 tok1 tok2 tok3 tok4 tok5 hSd0 hSd1 hSd2 e1 e2 e3 e4 hd1 hd2 hd3 hd4 hd5 HBd HW1
  obtain ⟨hSc0, hSc1, -⟩ := HS.out _ HBc.out
  have hcs := HBc.out.size
  have hXl : w1.heap.size < wc.heap.size := by omega
  have HWRc : Hid (∀ b, Fw w1 w.heap.size b -> Wr wc b) := fun b h => (HFB.out b h).of_block (HBc.out.block b (by have := h.2.1; omega))
  have HBoc : Hid (Bo wc ro db Q rb D) := HB1.out.below HBc.out
  have HBwc : Hid (Below w.heap.size w wc) := HBW.out.trans (HBc.out.mono HBW.out.size)
  have hsp := spoilI_any wc (Fw w1 w.heap.size) sa D.S.length sc ra D.roots.length rc HWRc.out (SlotsAt.weak (HSL.out.to (fun _ h => h) (fun b o h => HBc.out.cell (p := ⟨b, o, none⟩) (show b < W1.heap.size by have := h.2.1; omega))) (fun s hs => by
   obtain ⟨i, hi⟩ := List.getElem?_of_mem hs
   have := HBO.out.wf.caps hi
   omega)) (HandsAt.weak (HHL.out.to (fun _ h => h) (fun b o h => HBc.out.cell (p := ⟨b, o, none⟩) (show b < W1.heap.size by have := h.2.1; omega)))) (by omega) (by omega)
  have HAP : Hid (∀ (R : Nat -> Prop) (u u' : World), (∀ b, R b -> w.heap.size <= b) -> Turn R u u' -> Below w.heap.size w u -> Bo u ro db Q rb D -> Below w.heap.size w u' /\ Bo u' ro db Q rb D) := fun R u u' hR ht hb hbo => ⟨hb.trans (ht.below hb.size hR), hbo.turn ht (fun b hb' hr => by have := PdocLt HBO.out.p b hb'; have := hR b hr; omega) (fun b hb' hr => by have := HBO.out.r.lt b hb'; have := hR b hr; omega) (fun hr => by have := HBO.out.r.rbl; have := hR rb hr; omega)⟩
  clear HS HX HBW HSL HHL HFB HB1 HBc
  go_wp2_with fail
  refine hsp.mono ?_
  rintro e w2 ⟨rfl, hs2⟩
  obtain ⟨HB2, HBo2⟩ := HAP.out _ _ _ (fun b h => h.1) hs2.turn HBwc.out HBoc.out
  have HB2 : Hid (Below w.heap.size w w2) := HB2
  have HBo2 : Hid (Bo w2 ro db Q rb D) := HBo2
  have hpf := pforest_any w2 _ db D HBo2.out.p.view HBO.out.wf
  clear hs2 hsp HWRc HBoc HBwc hSc0 hSc1
  go_wp2_with fail
  refine hpf.mono ?_
  rintro e w3 ⟨fa, fc, rfl, hfl, hfo, hb3⟩
  have HB3 : Hid (Below w.heap.size w w3) := HB2.out.trans (hb3.mono HB2.out.size)
  have HBo3 : Hid (Bo w3 ro db Q rb D) := HBo2.out.below hb3
  have HFO : Hid (ForR w3 (Fw w3 w2.heap.size) 64 fa (D.roots.map (subT D 63))) := hfo
  have hs3 := hb3.size
  have hs2 := HB2.out.size
  have hrf := rforest_any w3 _ rb D HBo3.out.r.view HBO.out.wf
  have hLl : (D.roots.map (subT D 63)).length <= 4096 := by rw [List.length_map]; exact hrl
  generalize hL : D.roots.map (subT D 63) = L at *
  clear hpf hb3 hfo
  go_wp2_with fail
  refine hrf.mono ?_
  rintro e w4 ⟨ga, gc, rfl, hgl, hgo, hb4⟩
  have HB4 : Hid (Below w.heap.size w w4) := HB3.out.trans (hb4.mono HB3.out.size)
  have HBo4 : Hid (Bo w4 ro db Q rb D) := HBo3.out.below hb4
  have hs4 := hb4.size
  have HFO4 : Hid (ForR w4 (Fw w3 w2.heap.size) 64 fa L) := ForR.to (w := w3) HFO.out (fun _ h => h) (fun b o h => hb4.cell (p := ⟨b, o, none⟩) h.2.1)
  have HWR4 : Hid (∀ b, Fw w3 w2.heap.size b -> Wr w4 b) := fun b h => h.2.2.of_block (hb4.block b h.2.1)
  have hfs := forests_same 64 (same_any 64) w4 _ _ fa ga L fc gc HFO4.out hgo (fun b h => by have := h.2.1; omega) (fun b h => by
   rcases h with h | h
   ·have := HBo3.out.r.view.lt b h
    omega
   ·exact h.2) (by omega)
  clear hrf hb4 hgo HFO
  go_wp2_with fail
  refine hfs.mono ?_
  rintro e w5 ⟨rfl, hb5⟩
  have HB5 : Hid (Below w.heap.size w w5) := HB4.out.trans (hb5.mono HB4.out.size)
  have HBo5 : Hid (Bo w5 ro db Q rb D) := HBo4.out.below hb5
  have HFO5 : Hid (ForR w5 (Fw w3 w2.heap.size) 64 fa L) := ForR.to (w := w4) HFO4.out (fun _ h => h) (fun b o h => hb5.cell (p := ⟨b, o, none⟩) (show b < w4.heap.size from by have := h.2.1; omega))
  have HWR5 : Hid (∀ b, Fw w3 w2.heap.size b -> Wr w5 b) := fun b h => (HWR4.out b h).of_block (hb5.block b (by have := h.2.1; omega))
  have HKW : Hid (KW w5 (Fw w3 w2.heap.size) 64 fa L.length) := fun i hi => by
   obtain ⟨b, o, u, g1, g2, g3, g4, g5⟩ := HFO5.out i _ (List.getElem?_eq_getElem hi)
   exact ⟨b, o, u, g1, g2, g3, g4, g5.weak⟩
  have HMK : Hid (L.length <= maxK) := (show L.length <= maxK from by unfold maxK; omega)
  clear hfs hb5 HFO4 HFO5 HWR4
  go_wp2
  go_loopw [7] (fun iv wr => ∃ i : Nat, i <= L.length /\ iv = .int .i64 (i : Int) /\ Hid (Sv (Fw w3 w2.heap.size) w5 wr)) (fun iv _ => L.length - (intOf iv).toNat)
  case atStart => exact ⟨0, Nat.zero_le _, rfl, Sv.refl _ _⟩
  case round =>
   obtain ⟨i, hi, rfl, HV⟩ := hrel
   by_cases hlt : i < L.length
   ·have HKr : Hid (KW _ (Fw w3 w2.heap.size) 64 fa L.length) := HV.out.kw HWR5.out HKW.out HMK.out
    obtain ⟨b, o, kk, nm, a', al', ac', tx, ka', kl', kc', e, hb, c0, c1, c2, c3, c4, hwt⟩ := HKr.out.get hlt
    subst e
    have HWr : Hid (∀ b, Fw w3 w2.heap.size b -> Wr _ b) := fun b h => HV.out.wr b h (HWR5.out b h)
    have hbl := (HWr.out b hb).lt
    have hsp := spoilT_any 64 _ (Fw w3 w2.heap.size) _ HWr.out hwt
    clear hwt
    go_wp2_with fail
    refine hsp.mono ?_
    rintro e w6 ⟨rfl, hs6⟩
    have HV6 : Hid (Sv (Fw w3 w2.heap.size) w5 w6) := HV.out.trans hs6
    clear hs6 hsp c0 c1 c2 c3 c4
    go_wp2
    go_roundw
    case rel => exact ⟨i + 1, by omega, by go_num, HV6⟩
    case measure => simp [intOf]; omega
   ·obtain ⟨HB6, HBo6⟩ := HAP.out _ _ _ (fun b h => by have := h.1; omega) HV.out.turn HB5.out HBo5.out
    have HB6 : Hid (Below w.heap.size w _) := HB6
    have HBo6 : Hid (Bo _ ro db Q rb D) := HBo6
    have hie : i = L.length := by omega
    subst hie
    have himg := pimage_any _ _ db D HBo6.out.p.view HBO.out.wf
    clear HKW HV
    go_wp2_with fail
    refine himg.mono ?_
    rintro e w7 ⟨sa7, sc7, ra7, rc7, rfl, -, -, hsl7, hhl7, hb7⟩
    have HB7 : Hid (Below w.heap.size w w7) := HB6.out.trans (hb7.mono HB6.out.size)
    have HBo7 : Hid (Bo w7 ro db Q rb D) := HBo6.out.below hb7
    have H1 : Hid _ := hsl7
    have H2 : Hid _ := hhl7
    obtain ⟨sa8, sc8, ra8, rc8, e1, e2, e3, e4, hc8⟩ := rimage_any w7 _ rb D HBo7.out.r.view
    have hc9 : ∀ u, Below w7.heap.size w7 u -> Calls Tryz.prog 26 #[.agg #[.slice sa7 D.S.length sc7, .slice ra7 D.roots.length rc7], .agg #[.slice sa8 D.S.length sc8, .slice ra8 D.roots.length rc8]] u fun e w' => e = .returned (.bool true) /\ Below u.heap.size u w' := fun u hu =>
     images_both (w := w) (ro := ro) (db := db) (Q := Q) (rb := rb) HBO.out.wf hsl7 hhl7 e2 e4 (fun b h => h.2.1) (fun b h => HBo7.out.r.view.lt b h) hu
    clear hsl7 hhl7 hb7 e1 e2 e3 e4 himg H1 H2
    go_wp2_with fail
    refine hc8.mono ?_
    rintro e w8 ⟨rfl, hb8⟩
    have HB8 : Hid (Below w.heap.size w w8) := HB7.out.trans (hb8.mono HB7.out.size)
    have hc10 := hc9 w8 hb8
    clear hc8 hc9 hb8
    go_wp2_with fail
    refine hc10.mono ?_
    rintro e w9 ⟨rfl, hb9⟩
    have HB9 : Hid (Below w.heap.size w w9) := HB8.out.trans (hb9.mono HB8.out.size)
    clear hc10 hb9
    go_wp2
    go_ret
    exact ⟨rfl, HB9.out⟩
end Go.Proofs.YtnhajpeijkbbeaaGreat
/- TreeOn: what holds all along. -/
namespace Go.Proofs.YtnhajpeijkbbeaaGreat
open Go.RowKit
set_option linter.unusedVariables false
set_option linter.unusedSimpArgs false
def D0 : Dc := ⟨[], []⟩
theorem sl_D0 (h : Nat) : sl D0 h = none := by
 cases e : sl D0 h with
 | none => rfl
 | some s =>
  obtain ⟨i, -, h2, -⟩ := sl_live e
  simp [D0] at h2
theorem lst_D0 (p : Nat) : lst D0 p = [] := by
 by_cases h : p = 0
 ·subst h; rfl
 ·simp [lst, h, sl_D0]
theorem wf_D0 : WF D0 := by
 refine ⟨⟨by simp [D0], fun i s h => by simp [D0] at h⟩, fun i s h => by simp [D0] at h, fun i s h => by simp [D0] at h, fun i s h => by simp [D0] at h, fun i s h => by simp [D0] at h, ⟨fun _ => 0, fun h s e => (by rw [sl_D0] at e; cases e)⟩, fun h s e => (by rw [sl_D0] at e; cases e), fun p _ h hh => (by rw [lst_D0] at hh; cases hh), fun p => (by rw [lst_D0]; exact List.nodup_nil)⟩
theorem start_bo (w : World) : Bo ((w.alloc (.cells #[.slice none 0 0, .slice none 0 0, .int .i64 0] 36)).alloc (.cells #[.slice none 0 0, .slice none 0 0] 38)) (fun b => if b = w.heap.size then 1 else 0) w.heap.size (fun _ => False) (w.heap.size + 1) D0 := by
 have hx := (isCells_new w #[.slice none 0 0, .slice none 0 0, .int .i64 0] 36).alloc (.cells #[.slice none 0 0, .slice none 0 0] 38)
 have hy := isCells_new (w.alloc (.cells #[.slice none 0 0, .slice none 0 0, .int .i64 0] 36)) #[.slice none 0 0, .slice none 0 0] 38
 rw [show (w.alloc (.cells #[.slice none 0 0, .slice none 0 0, .int .i64 0] 36)).heap.size = w.heap.size + 1 from by simp] at hy
 refine ⟨wf_D0, ⟨none, 0, none, 0, [], ?_⟩, ⟨fun b h => h.elim, fun h => h, none, 0, none, 0, hy, Nat.le_refl _, Nat.le_refl _, fun i s h => by simp [D0] at h, fun i x h => by simp [D0] at h⟩, fun b hb => ⟨fun h => h, fun e => ?_⟩⟩
 ·exact ⟨hx, own_nil _ _ _ _, own_nil _ _ _ _, rfl, fun i s p h => by simp [D0] at h, by simp, fun b h => by simp [Value.ownBlock] at h, fun b h => by simp [Value.ownBlock] at h, fun i p b h => by simp at h, fun i p b h => by simp at h, fun b hb => by
   by_cases e : b = w.heap.size
   ·subst e; simp; omega
   ·simp [e] at hb⟩
 ·subst e
  simp at hb
def ActAt (w : World) (hi b o : Nat) : Prop :=
 ∃ k wh how n a nm vl xk xn xa xal xac xt xka xkl xkc, n < 18446744073709551616 /\ a < 18446744073709551616 /\ (∀ j, j < 12 -> w.cell? ⟨b, o + j, none⟩ = (actv k wh how n a nm vl xk xn xa xal xac xt xka xkl xkc)[j]?) /\
  ∃ (m : Nat) (t : T m), TreeAt w 0 hi m #[.int .i64 xk, .string xn, .slice xa xal xac, .string xt, .slice xka xkl xkc] t
def ActsAt (w : World) (hi : Nat) (a : Option Addr) (n : Nat) : Prop := ∀ i, i < n -> ∃ b o, a = some ⟨b, o, none⟩ /\ b < hi /\ ActAt w hi b (o + i * 12)
theorem ActsAt.below {w w' : World} {hi n : Nat} {a : Option Addr} (h : ActsAt w hi a n) (hb : Below hi w w') : ActsAt w' hi a n := by
 intro i hi'
 obtain ⟨b, o, h1, h2, k, wh, how, n, a, nm, vl, xk, xn, xa, xal, xac, xt, xka, xkl, xkc, g1, g2, g3, m, t, g4⟩ := h i hi'
 exact ⟨b, o, h1, h2, k, wh, how, n, a, nm, vl, xk, xn, xa, xal, xac, xt, xka, xkl, xkc, g1, g2, fun j hj => (hb.cell (p := ⟨b, _, none⟩) h2).trans (g3 j hj), m, t, g4.of_cells (fun b o _ hb' => hb.cell (p := ⟨b, o, none⟩) hb')⟩
structure Pr (w wr : World) (ro : Nat -> Nat) (db : Nat) (Q : Nat -> Prop) (rb : Nat) (D : Dc) : Prop where
 bel : Below w.heap.size w wr
 bo : Bo wr ro db Q rb D
 lo : ∀ b, ro b ≠ 0 -> w.heap.size <= b
 rlo : w.heap.size <= rb
theorem Pr.below {w wr w' : World} {ro : Nat -> Nat} {db : Nat} {Q : Nat -> Prop} {rb : Nat} {D : Dc} (h : Pr w wr ro db Q rb D) (hb : Below wr.heap.size wr w') : Pr w w' ro db Q rb D := ⟨h.bel.trans (hb.mono h.bel.size), h.bo.below hb, h.lo, h.rlo⟩
theorem Pr.step {w wr w' : World} {ro : Nat -> Nat} {db : Nat} {Q : Nat -> Prop} {rb : Nat} {D : Dc} {e : Ending} (h : Pr w wr ro db Q rb D) (hd : DoP wr ro db Q rb e w') : e = .returned (.bool true) /\ ∃ ro' Q' D', Pr w w' ro' db Q' rb D' := by
 obtain ⟨h1, h2, ro', Q', D', h3, h4, h5⟩ := hd
 refine ⟨h1, ro', Q', D', h.bel.trans (h2.below h.bel.size (fun b hb => ?_)), h3, fun b hb => ?_, h.rlo⟩
 ·rcases hb with hb | rfl
  ·exact h.lo b hb
  ·exact h.rlo
 ·rcases h4 b hb with hb | hb
  ·exact h.lo b hb
  ·exact Nat.le_trans h.bel.size hb
structure Ap (ro1 : Nat -> Nat) (Q1 : Nat -> Prop) (rb1 : Nat) (ro2 : Nat -> Nat) (Q2 : Nat -> Prop) (rb2 : Nat) : Prop where
 a1 : ∀ b, ro1 b ≠ 0 -> ro2 b = 0 /\ ¬ Q2 b /\ b ≠ rb2
 a2 : ∀ b, ro2 b ≠ 0 -> ¬ Q1 b /\ b ≠ rb1
 a3 : ¬ Q2 rb1 /\ ¬ Q1 rb2 /\ rb1 ≠ rb2
theorem Ap.symm {ro1 : Nat -> Nat} {Q1 : Nat -> Prop} {rb1 : Nat} {ro2 : Nat -> Nat} {Q2 : Nat -> Prop} {rb2 : Nat} (h : Ap ro1 Q1 rb1 ro2 Q2 rb2) : Ap ro2 Q2 rb2 ro1 Q1 rb1 :=
 ⟨fun b hb => ⟨Decidable.byContradiction fun e => hb (h.a1 b e).1, h.a2 b hb⟩, fun b hb => (h.a1 b hb).2, ⟨h.a3.2.1, h.a3.1, fun e => h.a3.2.2 e.symm⟩⟩
def Two2 (w wr : World) (db1 rb1 db2 rb2 : Nat) : Prop := ∃ ro1 Q1 D1 ro2 Q2 D2, Pr w wr ro1 db1 Q1 rb1 D1 /\ Pr w wr ro2 db2 Q2 rb2 D2 /\ Ap ro1 Q1 rb1 ro2 Q2 rb2
theorem Two2.symm {w wr : World} {db1 rb1 db2 rb2 : Nat} (h : Two2 w wr db1 rb1 db2 rb2) : Two2 w wr db2 rb2 db1 rb1 := by
 obtain ⟨ro1, Q1, D1, ro2, Q2, D2, h1, h2, h3⟩ := h
 exact ⟨ro2, Q2, D2, ro1, Q1, D1, h2, h1, h3.symm⟩
theorem two_step {w wr w' : World} {ro1 : Nat -> Nat} {db1 : Nat} {Q1 : Nat -> Prop} {rb1 : Nat} {D1 : Dc} {ro2 : Nat -> Nat} {db2 : Nat} {Q2 : Nat -> Prop} {rb2 : Nat} {D2 : Dc} {e : Ending} (h1 : Pr w wr ro1 db1 Q1 rb1 D1) (h2 : Pr w wr ro2 db2 Q2 rb2 D2) (ha : Ap ro1 Q1 rb1 ro2 Q2 rb2) (hd : DoP wr ro1 db1 Q1 rb1 e w') : e = .returned (.bool true) /\ Two2 w w' db1 rb1 db2 rb2 := by
 obtain ⟨g1, g2, ro', Q', D', g3, g4, g5⟩ := id hd
 have l2 : ∀ b, ro2 b ≠ 0 -> b < wr.heap.size := PdocLt h2.bo.p
 have l2q := h2.bo.r.lt
 have l2r := h2.bo.r.rbl
 have hB : Below w.heap.size w w' := h1.bel.trans (g2.below h1.bel.size (fun b hb => by
  rcases hb with hb | rfl
  ·exact h1.lo b hb
  ·exact h1.rlo))
 refine ⟨g1, ro', Q', D', ro2, Q2, D2, ⟨hB, g3, fun b hb => ?_, h1.rlo⟩, ⟨hB, h2.bo.turn g2 (fun b hb e => ?_) (fun b hb e => ?_) (fun e => ?_), h2.lo, h2.rlo⟩, ⟨fun b hb => ?_, fun b hb => ⟨fun hq => ?_, (ha.a2 b hb).2⟩, ⟨ha.a3.1, fun hq => ?_, ha.a3.2.2⟩⟩⟩
 ·rcases g4 b hb with hb | hb
  ·exact h1.lo b hb
  ·exact Nat.le_trans h1.bel.size hb
 ·rcases e with e | e
  ·exact hb (ha.a1 b e).1
  ·exact (ha.a2 b hb).2 e
 ·rcases e with e | rfl
  ·exact (ha.a1 b e).2.1 hb
  ·exact ha.a3.1 hb
 ·rcases e with e | e
  ·exact (ha.a1 _ e).2.2 rfl
  ·exact ha.a3.2.2 e.symm
 ·rcases g4 b hb with hb | hb
  ·exact ha.a1 b hb
  ·exact ⟨Decidable.byContradiction fun e => by have := l2 b e; omega, fun e => by have := l2q b e; omega, fun e => by omega⟩
 ·rcases g5 b hq with hq | hq
  ·exact (ha.a2 b hb).1 hq
  ·have := l2 b hb
   omega
 ·rcases g5 _ hq with hq | hq
  ·exact ha.a3.2.1 hq
  ·omega
theorem Pr.does {w wr : World} {ro : Nat -> Nat} {db : Nat} {Q : Nat -> Prop} {rb : Nat} {D : Dc} (h : Pr w wr ro db Q rb D) {k wh : Int} {how : Bool} {n a : Nat} {nm vl : ByteArray} {xk : Int} {xn : ByteArray} {xa : Option Addr} {xal xac : Nat} {xt : ByteArray} {xka : Option Addr} {xkl xkc : Nat} (hn : n < 18446744073709551616) (ha : a < 18446744073709551616)
  {m : Nat} {t : T m} (htr : TreeAt wr 0 w.heap.size m #[.int .i64 xk, .string xn, .slice xa xal xac, .string xt, .slice xka xkl xkc] t) :
  Calls Tryz.prog 12 #[.iface 27 (.pointer (some ⟨db, 0, none⟩)), .pointer (some ⟨rb, 0, none⟩), .agg (actv k wh how n a nm vl xk xn xa xal xac xt xka xkl xkc)] wr (DoP wr ro db Q rb) :=
 does_any wr ro db Q rb D h.bo k wh how n a nm vl xk xn xa xal xac xt xka xkl xkc hn ha m t 0 w.heap.size htr h.rlo h.lo
end Go.Proofs.YtnhajpeijkbbeaaGreat
/- A tree that is read as data lies in memory as a tree. -/
namespace Go.Proofs.YtnhajpeijkbbeaaGreat
open Go.RowKit Go.Deep
set_option linter.unusedVariables false
set_option linter.unusedSimpArgs false
set_option maxRecDepth 100000
theorem cells46 : Tryz.prog.cellsOf 46 = 5 := by kernel_rfl
theorem cells128 : Tryz.prog.cellsOf 128 = 2 := by kernel_rfl
theorem cells3 : Tryz.prog.cellsOf 3 = 1 := by kernel_rfl
theorem cells9 : Tryz.prog.cellsOf 9 = 1 := by kernel_rfl
theorem cells43 : Tryz.prog.cellsOf 43 = 1 := by kernel_rfl
theorem cells44 : Tryz.prog.cellsOf 44 = 1 := by kernel_rfl
theorem bytes46 : Tryz.prog.bytesOf 46 = 88 := by kernel_rfl
theorem bytes128 : Tryz.prog.bytesOf 128 = 32 := by kernel_rfl
def Wt {H : Type} (t : TypeId) (d : DataW H) : Prop := ∀ y ∈ d.weights Tryz.prog t, y <= reachBytes
theorem wt_slice {H : Type} {t e : TypeId} {es sp : List (DataW H)} (hu : Tryz.prog.underlying t = some (.slice e)) (h : Wt t (.slice es sp)) : (es.length + sp.length) * Tryz.prog.bytesOf e <= reachBytes /\ ∀ d ∈ es, Wt e d := by
 unfold Wt at h
 simp only [DataW.weights, hu] at h
 refine ⟨h _ (by simp), fun d hd y hy => h y ?_⟩
 refine List.mem_cons_of_mem _ (List.mem_append_left _ ?_)
 clear h
 induction es with
 | nil => simp at hd
 | cons a r ih =>
  simp only [DataW.weightsAll, List.mem_append]
  rcases List.mem_cons.1 hd with rfl | hd
  ·exact .inl hy
  ·exact .inr (ih hd)
theorem wt_each {H : Type} : ∀ {ts : List TypeId} {ds : List (DataW H)}, (∀ y ∈ DataW.weightsEach Tryz.prog ts ds, y <= reachBytes) -> ∀ {j : Nat} {t : TypeId} {d : DataW H}, ts[j]? = some t -> ds[j]? = some d -> Wt t d
 | [], ds, h, j, t, d, ht, hd => by simp at ht
 | t0 :: ts, [], h, j, t, d, ht, hd => by simp at hd
 | t0 :: ts, d0 :: ds, h, j, t, d, ht, hd => by
  simp only [DataW.weightsEach, List.mem_append] at h
  cases j with
  | zero =>
   simp at ht hd
   subst ht hd
   exact fun y hy => h y (.inl hy)
  | succ j => exact wt_each (fun y hy => h y (.inr hy)) (j := j) (by simpa using ht) (by simpa using hd)
theorem listOf9 {α : Type} : ∀ (len : Nat) (p : Nat -> α -> Prop), (∀ i, i < len -> ∃ k, p i k) -> ∃ L : List α, L.length = len /\ ∀ i k, L[i]? = some k -> p i k
 | 0, p, h => ⟨[], rfl, fun i k hk => by simp at hk⟩
 | len + 1, p, h => by
  obtain ⟨L, hl, hL⟩ := listOf9 len p (fun i hi => h i (by omega))
  obtain ⟨x, hx⟩ := h len (by omega)
  refine ⟨L ++ [x], by simp [hl], fun i k hk => ?_⟩
  rcases Nat.lt_or_ge i len with hi | hi
  ·rw [List.getElem?_append_left (by omega)] at hk
   exact hL i k hk
  ·have : i = len := by
    have := (List.getElem?_eq_some_iff.1 hk).1
    simp at this
    omega
   subst this
   rw [List.getElem?_append_right (by omega), hl] at hk
   simp at hk
   subst hk
   exact hx
theorem slice_cells {H : Type} {enc : TypeId × Value -> H} {W : World} {held : Bool} {fuel : Nat} {t e : TypeId} {sz : Nat} {a : Option Addr} {len cap : Nat} {x : DataW H × List MemPlace} (hu : Tryz.prog.underlying t = some (.slice e)) (hc : Tryz.prog.cellsOf e = sz) (hsz : 0 < sz)
  (h : DataW.trod enc Tryz.prog W 0 (fun _ => true) held fuel t [.slice a len cap] = some x) (hw : Wt t x.1) : len <= cap /\ len * Tryz.prog.bytesOf e <= reachBytes /\ ∃ n, n + 1 <= fuel /\ ∀ i, i < len -> ∃ (b o : Nat) (cs : List Value) (y : DataW H × List MemPlace), a = some ⟨b, o, none⟩ /\ b < W.heap.size /\ cs.length = sz /\ (∀ j, j < sz -> W.cell? ⟨b, o + i * sz + j, none⟩ = cs[j]?) /\ DataW.trod enc Tryz.prog W 0 (fun _ => true) held n e cs = some y /\ Wt e y.1 := by
 rcases DataW.trod_slice hu h with ⟨hcs, hx⟩ | ⟨ad, l, c, elems, rest, n, hf, hcs, hx, hb, hl, hm, hlen, hel, hsp, _⟩
 ·simp at hcs
  obtain ⟨rfl, rfl, rfl⟩ := hcs
  refine ⟨Nat.le_refl _, by simp, 0, ?_, fun i hi => by omega⟩
  cases fuel with
  | zero => simp [DataW.trod] at h
  | succ n => omega
 ·simp at hcs
  obtain ⟨rfl, rfl, rfl⟩ := hcs
  subst hx
  obtain ⟨w1, w2⟩ := wt_slice hu hw
  simp only [List.length_map] at w1
  refine ⟨hl, Nat.le_trans (Nat.mul_le_mul_right _ (by omega)) w1, n, by omega, fun i hi => ?_⟩
  have h1 := hel i hi
  rw [List.getElem?_eq_getElem (by omega), hc] at h1
  obtain ⟨cs, h2, h3⟩ := Option.bind_eq_some_iff.1 h1
  obtain ⟨_, h4, h5⟩ := World.cells?_some h2
  have h6 := h5 0 hsz
  rw [List.getElem?_eq_getElem (by omega)] at h6
  have hspot : ad.spot = none := by
   have g1 := hel 0 (by omega)
   rw [List.getElem?_eq_getElem (by omega), hc] at g1
   obtain ⟨cs0, g2, _⟩ := Option.bind_eq_some_iff.1 g1
   obtain ⟨_, g4, g5⟩ := World.cells?_some g2
   have g6 := g5 0 hsz
   rw [List.getElem?_eq_getElem (by omega)] at g6
   simpa [Addr.add] using World.cell?_spot g6
  obtain ⟨b, o, spot⟩ := ad
  simp only at hspot
  subst hspot
  refine ⟨b, o, cs, elems[i], rfl, ?_, h4, fun j hj => ?_, h3, w2 _ (List.mem_map_of_mem (List.getElem_mem _))⟩
  ·rw [addr_plus, addr_plus] at h6
   exact World.block_lt_of_cell? W _ h6
  ·have := h5 j hj
   rw [addr_plus, addr_plus] at this
   exact this
theorem reach_a {n : Nat} (h : n * 32 <= reachBytes) : n <= maxA := by unfold reachBytes at h; unfold maxA; omega
theorem reach_k {n : Nat} (h : n * 88 <= reachBytes) : n <= maxK := by unfold reachBytes at h; unfold maxK; omega
theorem attrs_of {H : Type} {enc : TypeId × Value -> H} {W : World} {held : Bool} {fuel : Nat} {a : Option Addr} {len cap : Nat} {x : DataW H × List MemPlace} (h : DataW.trod enc Tryz.prog W 0 (fun _ => true) held fuel 43 [.slice a len cap] = some x) (hw : Wt 43 x.1) :
  ∃ l : List (ByteArray × ByteArray), l.length = len /\ len <= cap /\ len <= maxA /\ AttrsAt W 0 W.heap.size a l := by
 obtain ⟨h1, h2, n, _, h3⟩ := slice_cells Tryz.underlying43 cells128 (by decide) h hw
 rw [bytes128] at h2
 obtain ⟨l, hl, hL⟩ := listOf9 len (fun i (p : ByteArray × ByteArray) => ∃ (b o : Nat), a = some ⟨b, o, none⟩ /\ b < W.heap.size /\ W.cell? ⟨b, o + i * 2, none⟩ = some (.string p.1) /\ W.cell? ⟨b, o + i * 2 + 1, none⟩ = some (.string p.2)) (fun i hi => by
  obtain ⟨b, o, cs, y, e1, e2, e3, e4, e5, _⟩ := h3 i hi
  obtain ⟨xs, n', _, _, _, g4, g5⟩ := DataW.trod_struct Tryz.underlying128 e5
  have x2 : xs.length = 2 := g4
  have f0 : DataW.trod enc Tryz.prog W 0 (fun _ => true) held n' 9 ((cs.drop 0).take (Tryz.prog.cellsOf 9)) = xs[0]? := g5 0 _ rfl
  have f1 : DataW.trod enc Tryz.prog W 0 (fun _ => true) held n' 9 ((cs.drop 1).take (Tryz.prog.cellsOf 9)) = xs[1]? := g5 1 _ rfl
  rw [cells9, List.getElem?_eq_getElem (by omega)] at f0 f1
  obtain ⟨s0, q0, _⟩ := DataW.trod_string Tryz.underlying9 f0
  obtain ⟨s1, q1, _⟩ := DataW.trod_string Tryz.underlying9 f1
  obtain ⟨c0, c1, rfl⟩ : ∃ c0 c1, cs = [c0, c1] := by
   match cs, e3 with
   | [c0, c1], _ => exact ⟨c0, c1, rfl⟩
  simp at q0 q1
  subst q0 q1
  exact ⟨(s0, s1), b, o, e1, e2, e4 0 (by omega), e4 1 (by omega)⟩)
 refine ⟨l, hl, h1, reach_a h2, fun i p hp => ?_⟩
 obtain ⟨b, o, e1, e2, e3, e4⟩ := hL i p hp
 exact ⟨b, o, e1, Nat.zero_le _, e2, e3, e4⟩
theorem tree_of {H : Type} {enc : TypeId × Value -> H} {W : World} {held : Bool} : ∀ (N fuel : Nat) (cs : List Value) (x : DataW H × List MemPlace), fuel <= N -> DataW.trod enc Tryz.prog W 0 (fun _ => true) held fuel 46 cs = some x -> Wt 46 x.1 -> ∃ t : T N, TreeAt W 0 W.heap.size N cs.toArray t
 | 0, fuel, cs, x, hN, h, hw => by
  have : fuel = 0 := by omega
  subst this
  simp [DataW.trod] at h
 | N + 1, fuel, cs, x, hN, h, hw => by
  obtain ⟨xs, n', hf, rfl, hl, g4, g5⟩ := DataW.trod_struct Tryz.underlying46 h
  have x5 : xs.length = 5 := g4
  rw [cells46] at hl
  have f0 : DataW.trod enc Tryz.prog W 0 (fun _ => true) held n' 3 ((cs.drop 0).take (Tryz.prog.cellsOf 3)) = xs[0]? := g5 0 _ rfl
  have f1 : DataW.trod enc Tryz.prog W 0 (fun _ => true) held n' 9 ((cs.drop 1).take (Tryz.prog.cellsOf 9)) = xs[1]? := g5 1 _ rfl
  have f2 : DataW.trod enc Tryz.prog W 0 (fun _ => true) held n' 43 ((cs.drop 2).take (Tryz.prog.cellsOf 43)) = xs[2]? := g5 2 _ rfl
  have f3 : DataW.trod enc Tryz.prog W 0 (fun _ => true) held n' 9 ((cs.drop 3).take (Tryz.prog.cellsOf 9)) = xs[3]? := g5 3 _ rfl
  have f4 : DataW.trod enc Tryz.prog W 0 (fun _ => true) held n' 44 ((cs.drop 4).take (Tryz.prog.cellsOf 44)) = xs[4]? := g5 4 _ rfl
  have hww : ∀ y ∈ DataW.weightsEach Tryz.prog [3, 9, 43, 9, 44] (xs.map (·.1)), y <= reachBytes := by
   intro y hy
   refine hw y ?_
   simp only [DataW.weights, Tryz.underlying46]
   exact hy
  have w2 : Wt 43 (xs[2]'(by omega)).1 := wt_each hww (j := 2) rfl (by rw [List.getElem?_map, List.getElem?_eq_getElem (by omega)]; rfl)
  have w4 : Wt 44 (xs[4]'(by omega)).1 := wt_each hww (j := 4) rfl (by rw [List.getElem?_map, List.getElem?_eq_getElem (by omega)]; rfl)
  rw [List.getElem?_eq_getElem (by omega)] at f0 f1 f2 f3 f4
  rw [cells3] at f0
  rw [cells9] at f1 f3
  rw [cells43] at f2
  rw [cells44] at f4
  obtain ⟨c0, c1, c2, c3, c4, rfl⟩ : ∃ c0 c1 c2 c3 c4, cs = [c0, c1, c2, c3, c4] := by
   match cs, hl with
   | [c0, c1, c2, c3, c4], _ => exact ⟨c0, c1, c2, c3, c4, rfl⟩
  simp at f0 f1 f2 f3 f4
  obtain ⟨k, q0, _⟩ := DataW.trod_int Tryz.underlying3 f0
  obtain ⟨nm, q1, _⟩ := DataW.trod_string Tryz.underlying9 f1
  obtain ⟨tx, q3, _⟩ := DataW.trod_string Tryz.underlying9 f3
  simp at q0 q1 q3
  subst q0 q1 q3
  obtain ⟨a, al, ac, rfl⟩ : ∃ a al ac, c2 = .slice a al ac := by
   rcases DataW.trod_slice Tryz.underlying43 f2 with ⟨e, _⟩ | ⟨ad, l, c, _, _, _, _, e, _⟩
   ·simp at e; exact ⟨_, _, _, e⟩
   ·simp at e; exact ⟨_, _, _, e⟩
  obtain ⟨ka, kl, kc, rfl⟩ : ∃ a al ac, c4 = .slice a al ac := by
   rcases DataW.trod_slice Tryz.underlying44 f4 with ⟨e, _⟩ | ⟨ad, l, c, _, _, _, _, e, _⟩
   ·simp at e; exact ⟨_, _, _, e⟩
   ·simp at e; exact ⟨_, _, _, e⟩
  obtain ⟨l, rfl, la, lb, hat⟩ := attrs_of f2 w2
  obtain ⟨ka1, ka2, n, hn, hkid⟩ := slice_cells Tryz.underlying44 cells46 (by decide) f4 w4
  rw [bytes46] at ka2
  obtain ⟨L, rfl, hL⟩ := listOf9 kl (fun i (q : T N) => ∃ (b o : Nat) (u : Array Value), ka = some ⟨b, o, none⟩ /\ 0 <= b /\ b < W.heap.size /\ u.size = 5 /\ (∀ j, j < 5 -> W.cell? ⟨b, o + i * 5 + j, none⟩ = u[j]?) /\ TreeAt W 0 W.heap.size N u q) (fun i hi => by
   obtain ⟨b, o, cs, y, e1, e2, e3, e4, e5, e6⟩ := hkid i hi
   obtain ⟨q, hq⟩ := tree_of N n cs y (by omega) e5 e6
   exact ⟨q, b, o, cs.toArray, e1, Nat.zero_le _, e2, by simpa using e3, fun j hj => by rw [e4 j hj]; simp, hq⟩)
  exact ⟨({ kind := k, name := nm, attrs := l, text := tx, kids := L } : Nd (T N)), a, ac, ka, kc, rfl, lb, reach_k ka2, la, ka1, hat, hL⟩
theorem cells48 : Tryz.prog.cellsOf 48 = 12 := by kernel_rfl
theorem bytes48 : Tryz.prog.bytesOf 48 = 160 := by kernel_rfl
theorem cells4 : Tryz.prog.cellsOf 4 = 1 := by kernel_rfl
theorem cells42 : Tryz.prog.cellsOf 42 = 1 := by kernel_rfl
theorem u64_of {n : Int} (h : (Lit.int .u64 n).wf = true) : ∃ m : Nat, n = (m : Int) /\ m < 18446744073709551616 := by
 have hb := bounds_u64 h
 exact ⟨n.toNat, by omega, by omega⟩
theorem act_of {H : Type} {enc : TypeId × Value -> H} {W : World} {held : Bool} {fuel : Nat} {cs : List Value} {x : DataW H × List MemPlace} {b o : Nat} (h : DataW.trod enc Tryz.prog W 0 (fun _ => true) held fuel 48 cs = some x) (hw : Wt 48 x.1) (hl : cs.length = 12) (hc : ∀ j, j < 12 -> W.cell? ⟨b, o + j, none⟩ = cs[j]?) : ActAt W W.heap.size b o := by
 obtain ⟨xs, n', hf, rfl, _, g4, g5⟩ := DataW.trod_struct Tryz.underlying48 h
 have x8 : xs.length = 8 := g4
 have f0 : DataW.trod enc Tryz.prog W 0 (fun _ => true) held n' 3 ((cs.drop 0).take (Tryz.prog.cellsOf 3)) = xs[0]? := g5 0 _ rfl
 have f1 : DataW.trod enc Tryz.prog W 0 (fun _ => true) held n' 3 ((cs.drop 1).take (Tryz.prog.cellsOf 3)) = xs[1]? := g5 1 _ rfl
 have f2 : DataW.trod enc Tryz.prog W 0 (fun _ => true) held n' 4 ((cs.drop 2).take (Tryz.prog.cellsOf 4)) = xs[2]? := g5 2 _ rfl
 have f3 : DataW.trod enc Tryz.prog W 0 (fun _ => true) held n' 42 ((cs.drop 3).take (Tryz.prog.cellsOf 42)) = xs[3]? := g5 3 _ rfl
 have f4 : DataW.trod enc Tryz.prog W 0 (fun _ => true) held n' 42 ((cs.drop 4).take (Tryz.prog.cellsOf 42)) = xs[4]? := g5 4 _ rfl
 have f5 : DataW.trod enc Tryz.prog W 0 (fun _ => true) held n' 9 ((cs.drop 5).take (Tryz.prog.cellsOf 9)) = xs[5]? := g5 5 _ rfl
 have f6 : DataW.trod enc Tryz.prog W 0 (fun _ => true) held n' 9 ((cs.drop 6).take (Tryz.prog.cellsOf 9)) = xs[6]? := g5 6 _ rfl
 have f7 : DataW.trod enc Tryz.prog W 0 (fun _ => true) held n' 46 ((cs.drop 7).take (Tryz.prog.cellsOf 46)) = xs[7]? := g5 7 _ rfl
 have hww : ∀ y ∈ DataW.weightsEach Tryz.prog [3, 3, 4, 42, 42, 9, 9, 46] (xs.map (·.1)), y <= reachBytes := by
  intro y hy
  refine hw y ?_
  simp only [DataW.weights, Tryz.underlying48]
  exact hy
 have w7 : Wt 46 (xs[7]'(by omega)).1 := wt_each hww (j := 7) rfl (by rw [List.getElem?_map, List.getElem?_eq_getElem (by omega)]; rfl)
 rw [List.getElem?_eq_getElem (by omega)] at f0 f1 f2 f3 f4 f5 f6 f7
 rw [cells3] at f0 f1
 rw [cells4] at f2
 rw [cells42] at f3 f4
 rw [cells9] at f5 f6
 rw [cells46] at f7
 obtain ⟨c0, c1, c2, c3, c4, c5, c6, c7, c8, c9, c10, c11, rfl⟩ : ∃ c0 c1 c2 c3 c4 c5 c6 c7 c8 c9 c10 c11, cs = [c0, c1, c2, c3, c4, c5, c6, c7, c8, c9, c10, c11] := by
  match cs, hl with
  | [c0, c1, c2, c3, c4, c5, c6, c7, c8, c9, c10, c11], _ => exact ⟨c0, c1, c2, c3, c4, c5, c6, c7, c8, c9, c10, c11, rfl⟩
 simp at f0 f1 f2 f3 f4 f5 f6 f7
 obtain ⟨k, q0, _⟩ := DataW.trod_int Tryz.underlying3 f0
 obtain ⟨wh, q1, _⟩ := DataW.trod_int Tryz.underlying3 f1
 obtain ⟨how, q2, _⟩ := DataW.trod_bool Tryz.underlying4 f2
 obtain ⟨n, q3, _, hn⟩ := DataW.trod_int Tryz.underlying42 f3
 obtain ⟨a, q4, _, ha⟩ := DataW.trod_int Tryz.underlying42 f4
 obtain ⟨nm, q5, _⟩ := DataW.trod_string Tryz.underlying9 f5
 obtain ⟨vl, q6, _⟩ := DataW.trod_string Tryz.underlying9 f6
 simp at q0 q1 q2 q3 q4 q5 q6
 subst q0 q1 q2 q3 q4 q5 q6
 obtain ⟨n, rfl, hn9⟩ := u64_of hn
 obtain ⟨a, rfl, ha9⟩ := u64_of ha
 obtain ⟨t, ht⟩ := tree_of n' n' _ _ (Nat.le_refl _) f7 w7
 obtain ⟨xk, xn, xa, xal, xac, xt, xka, xkl, xkc, e⟩ := ht.toR.form
 simp at e
 obtain ⟨rfl, rfl, rfl, rfl, rfl⟩ := e
 exact ⟨k, wh, how, n, a, nm, vl, xk, xn, xa, xal, xac, xt, xka, xkl, xkc, hn9, ha9, fun j hj => by rw [hc j hj]; simp [actv], n', t, ht⟩
theorem acts_of {H : Type} {enc : TypeId × Value -> H} {W : World} {held : Bool} {fuel : Nat} {a : Option Addr} {len cap : Nat} {x : DataW H × List MemPlace} (h : DataW.trod enc Tryz.prog W 0 (fun _ => true) held fuel 26 [.slice a len cap] = some x) (hw : Wt 26 x.1) : ActsAt W W.heap.size a len /\ len < 4611686018427387904 := by
 obtain ⟨h1, h2, n, _, h3⟩ := slice_cells Tryz.underlying26 cells48 (by decide) h hw
 rw [bytes48] at h2
 refine ⟨fun i hi => ?_, by unfold reachBytes at h2; omega⟩
 obtain ⟨b, o, cs, y, e1, e2, e3, e4, e5, e6⟩ := h3 i hi
 exact ⟨b, o, e1, e2, act_of e5 e6 e3 e4⟩
end Go.Proofs.YtnhajpeijkbbeaaGreat
/- TreeOn, walked. -/
namespace Go.Proofs.YtnhajpeijkbbeaaGreat
open Go.RowKit
set_option linter.unusedVariables false
set_option linter.unusedSimpArgs false
set_option maxRecDepth 100000
set_option maxHeartbeats 4000000
def OnP (w : World) (e : Ending) (w' : World) : Prop := e = .returned (.bool true) /\ Below w.heap.size w w'
theorem on_walk (w : World) (aa : Option Addr) (an ac : Nat) (ba : Option Addr) (bn bc : Nat) (h1 : ActsAt w w.heap.size aa an) (h2 : ActsAt w w.heap.size ba bn) (l1 : an < 4611686018427387904) (l2 : bn < 4611686018427387904) :
  Calls Tryz.prog 4 #[.slice aa an ac, .slice ba bn bc] w (OnP w) := by
 have HA : Hid (ActsAt w w.heap.size aa an) := h1
 have HB : Hid (ActsAt w w.heap.size ba bn) := h2
 have HP0 : Hid (∃ ro Q D, Pr w ((w.alloc (.cells #[.slice none 0 0, .slice none 0 0, .int .i64 0] 36)).alloc (.cells #[.slice none 0 0, .slice none 0 0] 38)) ro w.heap.size Q (w.heap.size + 1) D) := ⟨_, _, _, ⟨(below_new' w _).alloc (by simp) _, start_bo w, fun b hb => by
  by_cases e : b = w.heap.size
  ·omega
  ·simp [e] at hb, by omega⟩⟩
 clear h1 h2
 go_enter Tryz.func4, Tryz.ntmps4
 go_wp2
 go_loopw [7] (fun iv wr => ∃ i : Nat, i <= an /\ iv = .int .i64 (i : Int) /\ Hid (∃ ro Q D, Pr w wr ro w.heap.size Q (w.heap.size + 1) D)) (fun iv _ => an - (intOf iv).toNat)
 case atStart => exact ⟨0, Nat.zero_le _, rfl, HP0⟩
 case round =>
  clear HP0
  obtain ⟨i, hi, rfl, HP⟩ := hrel
  obtain ⟨ro, Q, D, hpr⟩ := HP.out
  have HPR : Hid (Pr w _ ro w.heap.size Q (w.heap.size + 1) D) := hpr
  by_cases hlt : i < an
  ·obtain ⟨b, o, e, hb, k, wh, how, n, a, nm, vl, xk, xn, xa, xal, xac, xt, xka, xkl, xkc, g1, g2, g3, m, t, g4⟩ := (HA.out.below hpr.bel) i hlt
   subst e
   have hcall := hpr.does (k := k) (wh := wh) (how := how) (nm := nm) (vl := vl) g1 g2 g4
   have c0 := g3 0 (by omega)
   have c1 := g3 1 (by omega)
   have c2 := g3 2 (by omega)
   have c3 := g3 3 (by omega)
   have c4 := g3 4 (by omega)
   have c5 := g3 5 (by omega)
   have c6 := g3 6 (by omega)
   have c7 := g3 7 (by omega)
   have c8 := g3 8 (by omega)
   have c9 := g3 9 (by omega)
   have c10 := g3 10 (by omega)
   have c11 := g3 11 (by omega)
   unfold actv at hcall
   simp only [actv, Nat.add_zero, List.getElem?_toArray, List.getElem?_cons_zero, List.getElem?_cons_succ] at c0 c1 c2 c3 c4 c5 c6 c7 c8 c9 c10 c11
   have hbl : b < _ := Nat.lt_of_lt_of_le hb hpr.bel.size
   clear g3 g4 hpr HP
   go_wp2_with fail
   refine hcall.mono ?_
   intro e w2 hd
   obtain ⟨rfl, hd2⟩ := HPR.out.step hd
   have HP2 : Hid (∃ ro Q D, Pr w w2 ro w.heap.size Q (w.heap.size + 1) D) := hd2
   clear hd hd2 hcall c0 c1 c2 c3 c4 c5 c6 c7 c8 c9 c10 c11
   go_wp2
   go_roundw
   case rel => exact ⟨i + 1, by omega, by go_num, HP2⟩
   case measure => simp [intOf]; omega
  ·have himg := pimage_any _ _ w.heap.size D hpr.bo.p.view hpr.bo.wf
   clear hpr HP HA
   go_wp2_with fail
   refine himg.mono ?_
   rintro e w1 ⟨sa, sc, ra, rc, rfl, hsc, hrc, hsl, hhl, hb1⟩
   have HPR1 : Hid (Pr w w1 ro w.heap.size Q (w.heap.size + 1) D) := HPR.out.below hb1
   have hload := load_any w1 _ D sa sc ra rc HPR.out.bo.wf hsl hhl (fun b h => h.2.1) hsc hrc
   clear himg hsl hhl hb1 HPR
   go_wp2_with fail
   refine hload.mono ?_
   rintro e w2 ⟨qb, ro2, rfl, hq2, hro2, hb2⟩
   have HPR2 : Hid (Pr w w2 ro w.heap.size Q (w.heap.size + 1) D) := HPR1.out.below hb2
   have hcp := rcopy_any w2 Q (w.heap.size + 1) D HPR2.out.bo.r HPR2.out.bo.wf.fits (roots_len HPR2.out.bo.wf).1
   have HQ2 : Hid (PDoc w2 ro2 qb D) := hq2
   have HR2 : Hid (∀ b, ro2 b ≠ 0 -> w1.heap.size <= b) := hro2
   clear hload hb2 hq2 hro2
   go_wp2_with fail
   refine hcp.mono ?_
   rintro e w3 ⟨sb, rfl, hsb, hb3, hrd⟩
   have HJ : Hid (Two2 w w3 w.heap.size (w.heap.size + 1) qb sb) := by
    have hs3 := hb3.size
    have p3 := HPR2.out.below hb3
    have hl1 : ∀ b, ro b ≠ 0 -> b < w1.heap.size := PdocLt HPR1.out.bo.p
    have hl2 : ∀ b, ro2 b ≠ 0 -> b < w2.heap.size := PdocLt HQ2.out
    have hq1 : ∀ b, Q b -> b < w1.heap.size := HPR1.out.bo.r.lt
    have hr1 := HPR1.out.bo.r.rbl
    have hs1 := HPR1.out.bel.size
    have hs2 : w.heap.size <= w2.heap.size := HPR2.out.bel.size
    have hap := p3.bo.ap
    have q3 : PDoc w3 ro2 qb D := HQ2.out.turn (A := fun _ => False) ((Turn.refl _ _).then hb3 (Nat.le_refl _)) (fun _ _ h => h)
    have h12 : w1.heap.size <= w2.heap.size := by
     have h0 := hl2 qb (by obtain ⟨_, _, _, _, _, hh⟩ := HQ2.out; rw [hh.rdb]; omega)
     have h1 := HR2.out qb (by obtain ⟨_, _, _, _, _, hh⟩ := HQ2.out; rw [hh.rdb]; omega)
     omega
    refine ⟨ro, Q, D, ro2, _, D, p3, ⟨p3.bel, ⟨p3.bo.wf, q3, hrd, fun b hb => ⟨?_, ?_⟩⟩, fun b hb => ?_, by omega⟩, ⟨fun b hb => ⟨?_, ?_, ?_⟩, fun b hb => ⟨?_, ?_⟩, ⟨?_, ?_, ?_⟩⟩⟩
    ·have := hl2 b hb
     have := HR2.out b hb
     rintro (h | ⟨h, _⟩)
     ·have := hq1 b h
      omega
     ·omega
    ·have := hl2 b hb
     omega
    ·have := HR2.out b hb
     omega
    ·have := hl1 b hb
     exact Decidable.byContradiction fun e => by have := HR2.out b e; omega
    ·have := hl1 b hb
     rintro (h | ⟨h, _⟩)
     ·exact (hap b hb).1 h
     ·omega
    ·have := hl1 b hb
     omega
    ·have := HR2.out b hb
     intro h
     have := hq1 b h
     omega
    ·have := HR2.out b hb
     omega
    ·rintro (h | ⟨h, _⟩)
     ·exact p3.bo.r.nrb h
     ·omega
    ·intro h
     have := hq1 sb h
     omega
    ·omega
   clear hcp hb3 hrd HPR1 HPR2 HQ2 HR2
   go_wp2
   go_loopw [11] (fun iv wr => ∃ j : Nat, j <= bn /\ iv = .int .i64 (j : Int) /\ Hid (Two2 w wr w.heap.size (w.heap.size + 1) qb sb)) (fun iv _ => bn - (intOf iv).toNat)
   case atStart => exact ⟨0, Nat.zero_le _, rfl, HJ⟩
   case round =>
    clear HJ
    obtain ⟨j, hj, rfl, HJ⟩ := hrel
    obtain ⟨ro1, Q1, D1, ro3, Q3, D3, p1, p2, hap⟩ := HJ.out
    by_cases hlj : j < bn
    ·obtain ⟨b, o, e, hb, k, wh, how, n, a, nm, vl, xk, xn, xa, xal, xac, xt, xka, xkl, xkc, g1, g2, g3, m, t, g4⟩ := (HB.out.below p1.bel) j hlj
     subst e
     have hcall := p1.does (k := k) (wh := wh) (how := how) (nm := nm) (vl := vl) g1 g2 g4
     have HP1 : Hid (Pr w _ ro1 w.heap.size Q1 (w.heap.size + 1) D1) := p1
     have HP2 : Hid (Pr w _ ro3 qb Q3 sb D3) := p2
     have HAP : Hid (Ap ro1 Q1 (w.heap.size + 1) ro3 Q3 sb) := hap
     have c0 := g3 0 (by omega)
     have c1 := g3 1 (by omega)
     have c2 := g3 2 (by omega)
     have c3 := g3 3 (by omega)
     have c4 := g3 4 (by omega)
     have c5 := g3 5 (by omega)
     have c6 := g3 6 (by omega)
     have c7 := g3 7 (by omega)
     have c8 := g3 8 (by omega)
     have c9 := g3 9 (by omega)
     have c10 := g3 10 (by omega)
     have c11 := g3 11 (by omega)
     have HG3 : Hid _ := g3
     have HG4 : Hid _ := g4
     unfold actv at hcall
     simp only [actv, Nat.add_zero, List.getElem?_toArray, List.getElem?_cons_zero, List.getElem?_cons_succ] at c0 c1 c2 c3 c4 c5 c6 c7 c8 c9 c10 c11
     have hbl : b < _ := Nat.lt_of_lt_of_le hb p1.bel.size
     have HBL : Hid (Below w.heap.size w _) := p1.bel
     clear g3 g4 p1 p2 hap HJ
     go_wp2_with fail
     refine hcall.mono ?_
     intro e w4 hd
     obtain ⟨rfl, ro1', Q1', D1', ro3', Q3', D3', p1', p2', hap'⟩ := two_step HP1.out HP2.out HAP.out hd
     have HP1' : Hid (Pr w w4 ro1' w.heap.size Q1' (w.heap.size + 1) D1') := p1'
     have HP2' : Hid (Pr w w4 ro3' qb Q3' sb D3') := p2'
     have HAP' : Hid (Ap ro1' Q1' (w.heap.size + 1) ro3' Q3' sb) := hap'
     have hcc : ∀ x, w4.cell? ⟨b, x, none⟩ = w.cell? ⟨b, x, none⟩ := fun x => p1'.bel.cell (p := ⟨b, x, none⟩) hb
     have hcw : ∀ x, w.cell? ⟨b, x, none⟩ = _ := fun x => (HBL.out.cell (p := ⟨b, x, none⟩) hb).symm
     have d0 := (hcc _).trans ((hcw _).trans c0)
     have d1 := (hcc _).trans ((hcw _).trans c1)
     have d2 := (hcc _).trans ((hcw _).trans c2)
     have d3 := (hcc _).trans ((hcw _).trans c3)
     have d4 := (hcc _).trans ((hcw _).trans c4)
     have d5 := (hcc _).trans ((hcw _).trans c5)
     have d6 := (hcc _).trans ((hcw _).trans c6)
     have d7 := (hcc _).trans ((hcw _).trans c7)
     have d8 := (hcc _).trans ((hcw _).trans c8)
     have d9 := (hcc _).trans ((hcw _).trans c9)
     have d10 := (hcc _).trans ((hcw _).trans c10)
     have d11 := (hcc _).trans ((hcw _).trans c11)
     have hbl4 : b < w4.heap.size := Nat.lt_of_lt_of_le hb p1'.bel.size
     have hcall2 := p2'.does (k := k) (wh := wh) (how := how) (nm := nm) (vl := vl) g1 g2 (TreeAt.of_cells (fun b' o' _ hb' => (p1'.bel.cell (p := ⟨b', o', none⟩) hb').trans (HBL.out.cell (p := ⟨b', o', none⟩) hb').symm) HG4.out)
     unfold actv at hcall2
     clear hd hcall c0 c1 c2 c3 c4 c5 c6 c7 c8 c9 c10 c11 hcc hcw p1' p2' hap' HP1 HP2 HAP HG3 HG4 HBL
     go_wp2_with fail
     refine hcall2.mono ?_
     intro e w5 hd
     obtain ⟨rfl, hj5⟩ := two_step HP2'.out HP1'.out HAP'.out.symm hd
     have HJ5 : Hid (Two2 w w5 w.heap.size (w.heap.size + 1) qb sb) := hj5.symm
     clear hd hj5 hcall2 d0 d1 d2 d3 d4 d5 d6 d7 d8 d9 d10 d11
     go_wp2
     go_roundw
     case rel => exact ⟨j + 1, by omega, by go_num, HJ5⟩
     case measure => simp [intOf]; omega
    ·have ht1 := tells_any _ ro1 w.heap.size Q1 (w.heap.size + 1) D1 p1.bo
     have HP1 : Hid (Pr w _ ro1 w.heap.size Q1 (w.heap.size + 1) D1) := p1
     have HP2 : Hid (Pr w _ ro3 qb Q3 sb D3) := p2
     clear p1 p2 hap HJ HB
     go_wp2_with fail
     refine ht1.mono ?_
     rintro e w6 ⟨rfl, hb6⟩
     have HP3 : Hid (Pr w w6 ro3 qb Q3 sb D3) := HP2.out.below hb6
     have ht2 := tells_any _ ro3 qb Q3 sb D3 HP3.out.bo
     clear ht1 hb6
     go_wp2_with fail
     refine ht2.mono ?_
     rintro e w7 ⟨rfl, hb7⟩
     have HB7 : Hid (Below w.heap.size w w7) := HP3.out.bel.trans (hb7.mono HP3.out.bel.size)
     clear ht2 hb7
     go_wp2
     go_ret
     exact ⟨rfl, HB7.out⟩
end Go.Proofs.YtnhajpeijkbbeaaGreat
