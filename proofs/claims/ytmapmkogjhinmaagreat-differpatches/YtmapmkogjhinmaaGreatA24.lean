/- Can: what is wrong with a forest, by the document. -/
import Derived.Test.YtmapmkogjhinmaaGreatA23
import Derived.Test.YtmapmkogjhinmaaGreatA19
import Derived.Test.YtmapmkogjhinmaaGreatA13
import Derived.Test.YtmapmkogjhinmaaGreatA14
import Derived.Test.YtmapmkogjhinmaaGreatA07
import Derived.Test.YtmapmkogjhinmaaGreatA15
namespace Go.Proofs.YtmapmkogjhinmaaGreat
open Go.RowKit
set_option maxRecDepth 100000
set_option maxHeartbeats 2000000
set_option linter.unusedVariables false
set_option linter.unusedSimpArgs false
theorem can_any (n : Nat) (w : World) (lo : Nat) (a : Option Addr) (L : List (T n)) (c : Nat) (hk : KidsAt w lo w.heap.size n a L) (hl : L.length <= maxK) :
  Calls Tryz.prog 15 #[.slice a L.length c] w fun e w' => e = .returned (.int .i64 (canE L)) /\ Below w.heap.size w w' := by
 have HK : Hid (KidsAt w lo w.heap.size n a L) := hk
 unfold maxK at hl
 clear hk
 generalize hZ : canE L = Z
 have HZ : Hid (canE L = Z) := hZ
 clear hZ
 go_enter Tryz.func15, Tryz.ntmps15
 go_wp2
 go_loopw [3, 4] (fun q iv wr => ∃ (j x : Nat), j <= L.length /\ iv = .int .i64 (j : Int) /\ q = .int .i64 (x : Int) /\ x <= 4097 /\ Hid (x = if 4096 < ((L.take j).map (ndT n)).sum then 4097 else ((L.take j).map (ndT n)).sum) /\ Hid (∀ (i : Nat) (t : T n), i < j -> L[i]? = some t -> (chk n t 1 0).2 = 0) /\ Hid (Below w.heap.size w wr)) (fun _ iv _ => L.length - (intOf iv).toNat)
 case atStart => exact ⟨0, 0, by omega, rfl, rfl, by omega, by show _ = _; simp, fun i t h => by omega, Below.refl _ _⟩
 case round =>
  obtain ⟨j, x, hj, rfl, rfl, hx, hsx, hck, hbw⟩ := hrel
  have hbs := hbw.out.size
  by_cases hlt : j < L.length
  ·obtain ⟨k, hk⟩ : ∃ k, L[j]? = some k := ⟨_, List.getElem?_eq_getElem hlt⟩
   have hkt' := HK.out.after hbw.out
   obtain ⟨b, o, kk, nm, a', al', ac', tx, ka2, kl2, kc2, rfl, hb1, hb2, c0, c1, c2, c3, c4, htr⟩ := hkt'.get hk
   have hcal := rCheck_any n wr _ k lo wr.heap.size htr (Nat.le_refl _)
   have HTR : Hid (TreeAt wr lo wr.heap.size n #[.int .i64 kk, .string nm, .slice a' al' ac', .string tx, .slice ka2 kl2 kc2] k) := htr
   have tl : (j : Int) < (L.length : Int) := by omega
   have t0 : (0 : Int) <= (j : Int) := by omega
   have HKK : Hid (L[j]? = some k) := hk
   clear hkt' htr hk
   by_cases hz : (chk n k 1 0).2 = 0
   ·rw [hz] at hcal
    obtain ⟨-, h2, h3⟩ := chk_ok n k 1 0 (by omega) (by omega) (by omega) hz
    have hnd : ndT n k <= 4096 := by
     have := chk_le n k 1 0 (by omega)
     omega
    have hcal2 := fun W (hb : Below wr.heap.size wr W) => size4_any n W _ k lo wr.heap.size (HTR.out.below hb (Nat.le_refl _)) hb.size hnd
    have HC2 : Hid (∀ W, Below wr.heap.size wr W -> Calls Tryz.prog 30 #[.agg #[.int .i64 kk, .string nm, .slice a' al' ac', .string tx, .slice ka2 kl2 kc2]] W fun e w' => e = .returned (.int .i64 (ndT n k : Int)) /\ Below W.heap.size W w') := hcal2
    have HCK : Hid (∀ (i : Nat) (t : T n), i < j + 1 -> L[i]? = some t -> (chk n t 1 0).2 = 0) := fun i t hi ht => by
     rcases Nat.lt_or_ge i j with h | h
     ·exact hck.out i t h ht
     ·have : i = j := by omega
      subst this
      rw [HKK.out] at ht
      cases ht
      exact hz
    have HSX : Hid (((L.take (j + 1)).map (ndT n)).sum = ((L.take j).map (ndT n)).sum + ndT n k) := sum_more HKK.out
    generalize ndT n k = p at *
    clear hz h2 h3 hcal2 HTR hck
    go_wp2_with fail
    refine hcal.mono ?_
    rintro e w2 ⟨rfl, hb2'⟩
    have HB2 : Hid (Below w.heap.size w w2) := hbw.out.trans (hb2'.mono hbs)
    have hcal3 := HC2.out w2 hb2'
    obtain ⟨hcb, hfb⟩ := bcell hb2'
    have hs2 := hb2'.size
    clear hcal
    go_wp2_with fail
    refine hcal3.mono ?_
    rintro e w3 ⟨rfl, hb3⟩
    have HB3 : Hid (Below w.heap.size w w3) := HB2.out.trans (hb3.mono (by omega))
    clear hcal3 hcb hfb hb2' hb3 c0 c1 c2 c3 c4
    by_cases hgt : 4096 < x + p
    ·have tg : (4096 : Int) < (x : Int) + (p : Int) := by omega
     have HX : Hid (4097 = if 4096 < ((L.take (j + 1)).map (ndT n)).sum then 4097 else ((L.take (j + 1)).map (ndT n)).sum) := by
      show _ = _
      have := hsx.out
      rw [HSX.out]
      split at this
      ·rw [if_pos (by omega)]
      ·rw [if_pos (by omega)]
     go_wp2
     refine ⟨⟨j + 1, 4097, by omega, by go_num, rfl, by omega, HX, HCK, HB3⟩, ?_⟩
     simp [intOf]; omega
    ·have tg : ¬ (4096 : Int) < (x : Int) + (p : Int) := by omega
     have HX : Hid (x + p = if 4096 < ((L.take (j + 1)).map (ndT n)).sum then 4097 else ((L.take (j + 1)).map (ndT n)).sum) := by
      show _ = _
      have := hsx.out
      rw [HSX.out]
      split at this
      ·omega
      ·rw [if_neg (by omega)]; omega
     go_wp2
     refine ⟨⟨j + 1, x + p, by omega, by go_num, congrArg _ (by omega), by omega, HX, HCK, HB3⟩, ?_⟩
     simp [intOf]; omega
   ·have hce := canE_at hck.out HKK.out hz
    have hZe : (chk n k 1 0).2 = Z := hce.symm.trans HZ.out
    generalize (chk n k 1 0).2 = z at *
    have hzb : (z == 0) = false := by simp [hz]
    clear HTR hck HKK hce
    subst hZe
    go_wp2_with fail
    refine hcal.mono ?_
    rintro e w2 ⟨rfl, hb2'⟩
    have HB2 : Hid (Below w.heap.size w w2) := hbw.out.trans (hb2'.mono hbs)
    clear hcal hb2' c0 c1 c2 c3 c4
    go_wp2
    go_ret
    exact ⟨rfl, HB2.out⟩
  ·have hje : j = L.length := by omega
   subst hje
   have hce := canE_all (L := L) (fun i t ht => hck.out i t (List.getElem?_eq_some_iff.1 ht).1 ht)
   have hsx' := hsx.out
   rw [List.take_length] at hsx'
   rw [HZ.out] at hce
   by_cases hgt : 4096 < (L.map (ndT n)).sum
   ·rw [if_pos hgt] at hsx' hce
    subst hsx'
    clear hlt hgt hsx hck HZ
    subst hce
    go_wp2
    go_ret
    exact ⟨rfl, hbw.out⟩
   ·rw [if_neg hgt] at hsx' hce
    have tg : ¬ (4096 : Int) < (x : Int) := by omega
    clear hlt hsx hck hgt hsx' HZ
    subst hce
    go_wp2
    go_ret
    exact ⟨rfl, hbw.out⟩
def InsP (w : World) (ro : Nat -> Nat) (db : Nat) (D' : Dc) (h : Nat) (z : Int) (e : Ending) (w' : World) : Prop :=
 e = .returned (.tuple #[.int .u64 (h : Int), .int .i64 z]) /\ Turn (fun b => ro b ≠ 0) w w' /\ ∃ ro', PDoc w' ro' db D' /\ ∀ b, ro' b ≠ 0 -> ro b ≠ 0 \/ w.heap.size <= b
theorem insp_same {w w' : World} {ro : Nat -> Nat} {db : Nat} {D : Dc} {z : Int} (h : PDoc w ro db D) (hb : Below w.heap.size w w') : InsP w ro db D 0 z (.returned (.tuple #[.int .u64 0, .int .i64 z])) w' :=
 ⟨rfl, (Turn.refl _ _).then hb (Nat.le_refl _), ro, h.turn (A := fun _ => False) ((Turn.refl _ _).then hb (Nat.le_refl _)) (fun _ _ => not_false), fun b hb => .inl hb⟩
theorem ins_place (n : Nat) (w : World) (v : Array Value) (t : T n) (lo hi : Nat) (ro : Nat -> Nat) (db a : Nat) (wh : Int) (D : Dc) (h : TreeAt w lo hi n v t) (hsz : hi <= w.heap.size) (hro : ∀ b, ro b ≠ 0 -> ¬ (lo <= b /\ b < hi)) (hd : PDoc w ro db D) (hw : WF D) (hal : a < 18446744073709551616) (hpl : isPlaceB wh a = false) :
  Calls Tryz.prog 21 #[.pointer (some ⟨db, 0, none⟩), .int .i64 wh, .int .u64 (a : Int), .agg v] w (InsP w ro db D 0 1) := by
 have hv := hd.view
 have hpc := fun W => isPlace_any W wh a
 have HD : Hid (PDoc w ro db D) := hd
 obtain ⟨tk, nm, aa, al, ac, tx, ka, kl, kc, rfl⟩ := h.form
 have HBX : Hid (Below w.heap.size w (w.alloc (.cells #[.int .i64 tk, .string nm, .slice aa al ac, .string tx, .slice ka kl kc] 35))) := below_new' w _
 have HBC : Hid (IsCells (w.alloc (.cells #[.int .i64 tk, .string nm, .slice aa al ac, .string tx, .slice ka kl kc] 35)) w.heap.size #[.int .i64 tk, .string nm, .slice aa al ac, .string tx, .slice ka kl kc]) := isCells_new w _ _
 rw [hpl] at hpc
 clear hd hv h hw
 go_enter Tryz.func21, Tryz.ntmps21
 go_wp2_with fail
 refine (hpc _).mono ?_
 rintro e w1 ⟨rfl, rfl⟩
 clear hpc
 go_wp2
 go_ret2
 exact insp_same HD.out HBX.out
theorem ins_check (n : Nat) (w : World) (v : Array Value) (t : T n) (lo hi : Nat) (ro : Nat -> Nat) (db a : Nat) (wh : Int) (D : Dc) (h : TreeAt w lo hi n v t) (hsz : hi <= w.heap.size) (hro : ∀ b, ro b ≠ 0 -> ¬ (lo <= b /\ b < hi)) (hd : PDoc w ro db D) (hw : WF D) (hal : a < 18446744073709551616) (hpl : isPlaceB wh a = true) (hcz : (chk n t 1 0).2 ≠ 0) :
  Calls Tryz.prog 21 #[.pointer (some ⟨db, 0, none⟩), .int .i64 wh, .int .u64 (a : Int), .agg v] w (InsP w ro db D 0 (chk n t 1 0).2) := by
 have hv := hd.view
 have hpc := fun W => isPlace_any W wh a
 have HD : Hid (PDoc w ro db D) := hd
 obtain ⟨tk, nm, aa, al, ac, tx, ka, kl, kc, rfl⟩ := h.form
 have HBX : Hid (Below w.heap.size w (w.alloc (.cells #[.int .i64 tk, .string nm, .slice aa al ac, .string tx, .slice ka kl kc] 35))) := below_new' w _
 have HBC : Hid (IsCells (w.alloc (.cells #[.int .i64 tk, .string nm, .slice aa al ac, .string tx, .slice ka kl kc] 35)) w.heap.size #[.int .i64 tk, .string nm, .slice aa al ac, .string tx, .slice ka kl kc]) := isCells_new w _ _
 have hck := fun W (hb : Below w.heap.size w W) => Check_any n W _ t lo hi (h.below hb hsz) (Nat.le_trans hsz hb.size)
 rw [hpl] at hpc
 generalize (chk n t 1 0).2 = z at *
 have hzb : (z == 0) = false := beq_eq_false_iff_ne.2 hcz
 clear hd hv h hw
 go_enter Tryz.func21, Tryz.ntmps21
 go_wp2_with fail
 refine (hpc _).mono ?_
 rintro e w1 ⟨rfl, rfl⟩
 clear hpc
 have hck1 := hck _ HBX.out
 clear hck
 go_wp2_with fail
 refine hck1.mono ?_
 rintro e w2 ⟨rfl, hb⟩
 have HB2 : Hid (Below w.heap.size w w2) := HBX.out.trans (hb.mono HBX.out.size)
 have HC2 : Hid (IsCells w2 w.heap.size #[.int .i64 tk, .string nm, .slice aa al ac, .string tx, .slice ka kl kc]) := HBC.out.of_block (hb.block w.heap.size (by simp))
 clear hb hck1
 go_wp2
 go_ret2
 exact insp_same HD.out HB2.out
theorem ins_live (n : Nat) (w : World) (v : Array Value) (t : T n) (lo hi : Nat) (ro : Nat -> Nat) (db a : Nat) (wh : Int) (D : Dc) (h : TreeAt w lo hi n v t) (hsz : hi <= w.heap.size) (hro : ∀ b, ro b ≠ 0 -> ¬ (lo <= b /\ b < hi)) (hd : PDoc w ro db D) (hw : WF D) (hal : a < 18446744073709551616) (hpl : isPlaceB wh a = true) (hcz : (chk n t 1 0).2 = 0) (hla : liveB D a = false) :
  Calls Tryz.prog 21 #[.pointer (some ⟨db, 0, none⟩), .int .i64 wh, .int .u64 (a : Int), .agg v] w (InsP w ro db D 0 8) := by
 have hv := hd.view
 have hpc := fun W => isPlace_any W wh a
 have HD : Hid (PDoc w ro db D) := hd
 obtain ⟨tk, nm, aa, al, ac, tx, ka, kl, kc, rfl⟩ := h.form
 have HBX : Hid (Below w.heap.size w (w.alloc (.cells #[.int .i64 tk, .string nm, .slice aa al ac, .string tx, .slice ka kl kc] 35))) := below_new' w _
 have HBC : Hid (IsCells (w.alloc (.cells #[.int .i64 tk, .string nm, .slice aa al ac, .string tx, .slice ka kl kc] 35)) w.heap.size #[.int .i64 tk, .string nm, .slice aa al ac, .string tx, .slice ka kl kc]) := isCells_new w _ _
 have hck := fun W (hb : Below w.heap.size w W) => Check_any n W _ t lo hi (h.below hb hsz) (Nat.le_trans hsz hb.size)
 have hlv := fun W (hb : Below w.heap.size w W) => isLive_any W _ db D a (hv.below hb) hw.fits hal
 rw [hpl] at hpc
 rw [hcz] at hck
 rw [hla] at hlv
 clear hd hv h hw hcz hla
 go_enter Tryz.func21, Tryz.ntmps21
 go_wp2_with fail
 refine (hpc _).mono ?_
 rintro e w1 ⟨rfl, rfl⟩
 clear hpc
 have hck1 := hck _ HBX.out
 clear hck
 go_wp2_with fail
 refine hck1.mono ?_
 rintro e w2 ⟨rfl, hb⟩
 have HB2 : Hid (Below w.heap.size w w2) := HBX.out.trans (hb.mono HBX.out.size)
 have HC2 : Hid (IsCells w2 w.heap.size #[.int .i64 tk, .string nm, .slice aa al ac, .string tx, .slice ka kl kc]) := HBC.out.of_block (hb.block w.heap.size (by simp))
 clear hb hck1
 have hlv2 := hlv w2 HB2.out
 clear hlv
 go_wp2_with fail
 refine hlv2.mono ?_
 rintro e w3 ⟨rfl, hb⟩
 have HB3 : Hid (Below w.heap.size w w3) := HB2.out.trans (hb.mono HB2.out.size)
 have HC3 : Hid (IsCells w3 w.heap.size #[.int .i64 tk, .string nm, .slice aa al ac, .string tx, .slice ka kl kc]) := HC2.out.of_block (hb.block w.heap.size HC2.out.lt)
 clear hb hlv2
 go_wp2
 go_ret2
 exact insp_same HD.out HB3.out
theorem ins_fits (n : Nat) (w : World) (v : Array Value) (t : T n) (lo hi : Nat) (ro : Nat -> Nat) (db a : Nat) (wh : Int) (D : Dc) (h : TreeAt w lo hi n v t) (hsz : hi <= w.heap.size) (hro : ∀ b, ro b ≠ 0 -> ¬ (lo <= b /\ b < hi)) (hd : PDoc w ro db D) (hw : WF D) (hal : a < 18446744073709551616) (hpl : isPlaceB wh a = true) (hcz : (chk n t 1 0).2 = 0) (hla : liveB D a = true) (hN4 : ndT n t <= 4096) (hfz : fitsE D (arD D wh a) (htT n t) ≠ 0) :
  Calls Tryz.prog 21 #[.pointer (some ⟨db, 0, none⟩), .int .i64 wh, .int .u64 (a : Int), .agg v] w (InsP w ro db D 0 (fitsE D (arD D wh a) (htT n t))) := by
 have hv := hd.view
 have hpc := fun W => isPlace_any W wh a
 have HD : Hid (PDoc w ro db D) := hd
 obtain ⟨tk, nm, aa, al, ac, tx, ka, kl, kc, rfl⟩ := h.form
 have HBX : Hid (Below w.heap.size w (w.alloc (.cells #[.int .i64 tk, .string nm, .slice aa al ac, .string tx, .slice ka kl kc] 35))) := below_new' w _
 have HBC : Hid (IsCells (w.alloc (.cells #[.int .i64 tk, .string nm, .slice aa al ac, .string tx, .slice ka kl kc] 35)) w.heap.size #[.int .i64 tk, .string nm, .slice aa al ac, .string tx, .slice ka kl kc]) := isCells_new w _ _
 have hck := fun W (hb : Below w.heap.size w W) => Check_any n W _ t lo hi (h.below hb hsz) (Nat.le_trans hsz hb.size)
 have hlv := fun W (hb : Below w.heap.size w W) => isLive_any W _ db D a (hv.below hb) hw.fits hal
 obtain ⟨o1, o2, o3⟩ := chk_ok n t 1 0 (by omega) (by omega) (by omega) hcz
 have hn1 : 1 <= ndT n t := by
  cases n with
  | zero => cases t
  | succ n => exact ndT_pos n t
 have hn4 : ndT n t <= 4096 := hN4
 obtain ⟨lv, hlv0⟩ := hw.lev
 have hlive := live_of hla
 have hwl : wh = 3 \/ wh = 4 -> ∃ t, sl D a = some t := fun h => by
  refine hlive.resolve_left (fun e => ?_)
  subst e
  rcases h with rfl | rfl <;> simp [isPlaceB] at hpl
 have hpp : arD D wh a = 0 \/ ∃ t, sl D (arD D wh a) = some t := by
  unfold arD
  split
  ·rename_i h
   obtain ⟨t, ht⟩ := hwl h
   have := (dep_par hlv0 ht).2
   simpa [par, ht] using this
  ·exact hlive
 have hal' : arD D wh a < 18446744073709551616 := by
  rcases hpp with e | ⟨t, ht⟩
  ·omega
  ·exact (hw.lt ht).1
 have har := fun W (hb : Below w.heap.size w W) => around_any W _ db D wh a (hv.below hb) hw.fits hal hwl
 have hme := fun W (hb : Below w.heap.size w W) => measure_any n W _ t lo hi (h.below hb hsz) (Nat.le_trans hsz hb.size) o1 hn4 (by omega)
 have hfi := fun W (hb : Below w.heap.size w W) => fits_any W _ db D (arD D wh a) (htT n t) (hv.below hb) hw hpp (by omega) _ rfl
 have hfe := fun W (hb : Below w.heap.size w W) => pfree_any W _ db D (ndT n t) (hv.below hb) hw.fits hn4
 rw [hpl] at hpc
 rw [hcz] at hck
 rw [hla] at hlv
 generalize fitsE D (arD D wh a) (htT n t) = z at *
 generalize arD D wh a = p at *
 generalize htT n t = ht at *
 generalize ndT n t = nd at *
 have hzb : (z == 0) = false := beq_eq_false_iff_ne.2 hfz
 clear hd hv h hw hcz hla hfe o1 o2 hlv0 hwl hpp hlive
 go_enter Tryz.func21, Tryz.ntmps21
 go_wp2_with fail
 refine (hpc _).mono ?_
 rintro e w1 ⟨rfl, rfl⟩
 clear hpc
 have hck1 := hck _ HBX.out
 clear hck
 go_wp2_with fail
 refine hck1.mono ?_
 rintro e w2 ⟨rfl, hb⟩
 have HB2 : Hid (Below w.heap.size w w2) := HBX.out.trans (hb.mono HBX.out.size)
 have HC2 : Hid (IsCells w2 w.heap.size #[.int .i64 tk, .string nm, .slice aa al ac, .string tx, .slice ka kl kc]) := HBC.out.of_block (hb.block w.heap.size (by simp))
 clear hb hck1
 have hlv2 := hlv w2 HB2.out
 clear hlv
 go_wp2_with fail
 refine hlv2.mono ?_
 rintro e w3 ⟨rfl, hb⟩
 have HB3 : Hid (Below w.heap.size w w3) := HB2.out.trans (hb.mono HB2.out.size)
 have HC3 : Hid (IsCells w3 w.heap.size #[.int .i64 tk, .string nm, .slice aa al ac, .string tx, .slice ka kl kc]) := HC2.out.of_block (hb.block w.heap.size HC2.out.lt)
 clear hb hlv2
 have har3 := har w3 HB3.out
 clear har
 go_wp2_with fail
 refine har3.mono ?_
 rintro e w4 ⟨rfl, hb⟩
 have HB4 : Hid (Below w.heap.size w w4) := HB3.out.trans (hb.mono HB3.out.size)
 have HC4 : Hid (IsCells w4 w.heap.size #[.int .i64 tk, .string nm, .slice aa al ac, .string tx, .slice ka kl kc]) := HC3.out.of_block (hb.block w.heap.size HC3.out.lt)
 clear hb har3
 have hx0 := HC4.out.cell 0
 have hx1 := HC4.out.cell 1
 have hx2 := HC4.out.cell 2
 have hx3 := HC4.out.cell 3
 have hx4 := HC4.out.cell 4
 simp at hx0 hx1 hx2 hx3 hx4
 have hme4 := hme w4 HB4.out
 clear hme
 go_wp2_with fail
 refine hme4.mono ?_
 rintro e w5 ⟨rfl, hb⟩
 have HB5 : Hid (Below w.heap.size w w5) := HB4.out.trans (hb.mono HB4.out.size)
 have HC5 : Hid (IsCells w5 w.heap.size #[.int .i64 tk, .string nm, .slice aa al ac, .string tx, .slice ka kl kc]) := HC4.out.of_block (hb.block w.heap.size HC4.out.lt)
 clear hb hme4 hx0 hx1 hx2 hx3 hx4
 have hfi5 := hfi w5 HB5.out
 clear hfi
 go_wp2_with fail
 refine hfi5.mono ?_
 rintro e w6 ⟨rfl, hb⟩
 have HB6 : Hid (Below w.heap.size w w6) := HB5.out.trans (hb.mono HB5.out.size)
 have HC6 : Hid (IsCells w6 w.heap.size #[.int .i64 tk, .string nm, .slice aa al ac, .string tx, .slice ka kl kc]) := HC5.out.of_block (hb.block w.heap.size HC5.out.lt)
 clear hb hfi5
 go_wp2
 go_ret2
 exact insp_same HD.out HB6.out
theorem ins_many (n : Nat) (w : World) (v : Array Value) (t : T n) (lo hi : Nat) (ro : Nat -> Nat) (db a : Nat) (wh : Int) (D : Dc) (h : TreeAt w lo hi n v t) (hsz : hi <= w.heap.size) (hro : ∀ b, ro b ≠ 0 -> ¬ (lo <= b /\ b < hi)) (hd : PDoc w ro db D) (hw : WF D) (hal : a < 18446744073709551616) (hpl : isPlaceB wh a = true) (hcz : (chk n t 1 0).2 = 0) (hla : liveB D a = true) (hN4 : ndT n t <= 4096) (hfz : fitsE D (arD D wh a) (htT n t) = 0) (hmn : 4096 < cnt takenB D.S + ndT n t) :
  Calls Tryz.prog 21 #[.pointer (some ⟨db, 0, none⟩), .int .i64 wh, .int .u64 (a : Int), .agg v] w (InsP w ro db D 0 33) := by
 have hv := hd.view
 have hpc := fun W => isPlace_any W wh a
 have HD : Hid (PDoc w ro db D) := hd
 obtain ⟨tk, nm, aa, al, ac, tx, ka, kl, kc, rfl⟩ := h.form
 have HBX : Hid (Below w.heap.size w (w.alloc (.cells #[.int .i64 tk, .string nm, .slice aa al ac, .string tx, .slice ka kl kc] 35))) := below_new' w _
 have HBC : Hid (IsCells (w.alloc (.cells #[.int .i64 tk, .string nm, .slice aa al ac, .string tx, .slice ka kl kc] 35)) w.heap.size #[.int .i64 tk, .string nm, .slice aa al ac, .string tx, .slice ka kl kc]) := isCells_new w _ _
 have hck := fun W (hb : Below w.heap.size w W) => Check_any n W _ t lo hi (h.below hb hsz) (Nat.le_trans hsz hb.size)
 have hlv := fun W (hb : Below w.heap.size w W) => isLive_any W _ db D a (hv.below hb) hw.fits hal
 obtain ⟨o1, o2, o3⟩ := chk_ok n t 1 0 (by omega) (by omega) (by omega) hcz
 have hn1 : 1 <= ndT n t := by
  cases n with
  | zero => cases t
  | succ n => exact ndT_pos n t
 have hn4 : ndT n t <= 4096 := hN4
 obtain ⟨lv, hlv0⟩ := hw.lev
 have hlive := live_of hla
 have hwl : wh = 3 \/ wh = 4 -> ∃ t, sl D a = some t := fun h => by
  refine hlive.resolve_left (fun e => ?_)
  subst e
  rcases h with rfl | rfl <;> simp [isPlaceB] at hpl
 have hpp : arD D wh a = 0 \/ ∃ t, sl D (arD D wh a) = some t := by
  unfold arD
  split
  ·rename_i h
   obtain ⟨t, ht⟩ := hwl h
   have := (dep_par hlv0 ht).2
   simpa [par, ht] using this
  ·exact hlive
 have hal' : arD D wh a < 18446744073709551616 := by
  rcases hpp with e | ⟨t, ht⟩
  ·omega
  ·exact (hw.lt ht).1
 have har := fun W (hb : Below w.heap.size w W) => around_any W _ db D wh a (hv.below hb) hw.fits hal hwl
 have hme := fun W (hb : Below w.heap.size w W) => measure_any n W _ t lo hi (h.below hb hsz) (Nat.le_trans hsz hb.size) o1 hn4 (by omega)
 have hfi := fun W (hb : Below w.heap.size w W) => fits_any W _ db D (arD D wh a) (htT n t) (hv.below hb) hw hpp (by omega) _ rfl
 have hfe := fun W (hb : Below w.heap.size w W) => pfree_any W _ db D (ndT n t) (hv.below hb) hw.fits hn4
 rw [hpl] at hpc
 rw [hcz] at hck
 rw [hla] at hlv
 rw [hfz] at hfi
 have hfl : ((frL D).take (ndT n t)).length < ndT n t := by
  have := frL_len hw.fits
  rw [List.length_take]
  omega
 generalize (frL D).take (ndT n t) = FL at *
 generalize arD D wh a = p at *
 generalize htT n t = ht at *
 generalize ndT n t = nd at *
 generalize hFN : FL.length = fn at *
 have hflb : (fn : Int) < (nd : Int) := by omega
 clear hd hv h hw hcz hla o1 o2 hlv0 hwl hpp hlive hmn hfz
 go_enter Tryz.func21, Tryz.ntmps21
 go_wp2_with fail
 refine (hpc _).mono ?_
 rintro e w1 ⟨rfl, rfl⟩
 clear hpc
 have hck1 := hck _ HBX.out
 clear hck
 go_wp2_with fail
 refine hck1.mono ?_
 rintro e w2 ⟨rfl, hb⟩
 have HB2 : Hid (Below w.heap.size w w2) := HBX.out.trans (hb.mono HBX.out.size)
 have HC2 : Hid (IsCells w2 w.heap.size #[.int .i64 tk, .string nm, .slice aa al ac, .string tx, .slice ka kl kc]) := HBC.out.of_block (hb.block w.heap.size (by simp))
 clear hb hck1
 have hlv2 := hlv w2 HB2.out
 clear hlv
 go_wp2_with fail
 refine hlv2.mono ?_
 rintro e w3 ⟨rfl, hb⟩
 have HB3 : Hid (Below w.heap.size w w3) := HB2.out.trans (hb.mono HB2.out.size)
 have HC3 : Hid (IsCells w3 w.heap.size #[.int .i64 tk, .string nm, .slice aa al ac, .string tx, .slice ka kl kc]) := HC2.out.of_block (hb.block w.heap.size HC2.out.lt)
 clear hb hlv2
 have har3 := har w3 HB3.out
 clear har
 go_wp2_with fail
 refine har3.mono ?_
 rintro e w4 ⟨rfl, hb⟩
 have HB4 : Hid (Below w.heap.size w w4) := HB3.out.trans (hb.mono HB3.out.size)
 have HC4 : Hid (IsCells w4 w.heap.size #[.int .i64 tk, .string nm, .slice aa al ac, .string tx, .slice ka kl kc]) := HC3.out.of_block (hb.block w.heap.size HC3.out.lt)
 clear hb har3
 have hx0 := HC4.out.cell 0
 have hx1 := HC4.out.cell 1
 have hx2 := HC4.out.cell 2
 have hx3 := HC4.out.cell 3
 have hx4 := HC4.out.cell 4
 simp at hx0 hx1 hx2 hx3 hx4
 have hme4 := hme w4 HB4.out
 clear hme
 go_wp2_with fail
 refine hme4.mono ?_
 rintro e w5 ⟨rfl, hb⟩
 have HB5 : Hid (Below w.heap.size w w5) := HB4.out.trans (hb.mono HB4.out.size)
 have HC5 : Hid (IsCells w5 w.heap.size #[.int .i64 tk, .string nm, .slice aa al ac, .string tx, .slice ka kl kc]) := HC4.out.of_block (hb.block w.heap.size HC4.out.lt)
 clear hb hme4 hx0 hx1 hx2 hx3 hx4
 have hfi5 := hfi w5 HB5.out
 clear hfi
 go_wp2_with fail
 refine hfi5.mono ?_
 rintro e w6 ⟨rfl, hb⟩
 have HB6 : Hid (Below w.heap.size w w6) := HB5.out.trans (hb.mono HB5.out.size)
 have HC6 : Hid (IsCells w6 w.heap.size #[.int .i64 tk, .string nm, .slice aa al ac, .string tx, .slice ka kl kc]) := HC5.out.of_block (hb.block w.heap.size HC5.out.lt)
 clear hb hfi5
 have hfe6 := hfe w6 HB6.out
 clear hfe
 go_wp2_with fail
 refine hfe6.mono ?_
 rintro e w7 ⟨fa, fc, rfl, hown, hb⟩
 rw [hFN]
 have HB7 : Hid (Below w.heap.size w w7) := HB6.out.trans (hb.mono HB6.out.size)
 have HC7 : Hid (IsCells w7 w.heap.size #[.int .i64 tk, .string nm, .slice aa al ac, .string tx, .slice ka kl kc]) := HC6.out.of_block (hb.block w.heap.size HC6.out.lt)
 have HB8 : Hid (Below w.heap.size w (w7.alloc (.cells #[.slice fa fn fc] 78))) := HB7.out.alloc HB7.out.size _
 clear hown hb hfe6 hFN
 go_wp2
 go_ret2
 exact insp_same HD.out HB8.out
theorem ins_ok (n : Nat) (w : World) (v : Array Value) (t : T n) (lo hi : Nat) (ro : Nat -> Nat) (db a : Nat) (wh : Int) (D : Dc) (h : TreeAt w lo hi n v t) (hsz : hi <= w.heap.size) (hro : ∀ b, ro b ≠ 0 -> ¬ (lo <= b /\ b < hi)) (hd : PDoc w ro db D) (hw : WF D) (hal : a < 18446744073709551616) (hz : insE D wh a n t = 0) (hpl : isPlaceB wh a = true) (hcz : (chk n t 1 0).2 = 0) (hla : liveB D a = true) (hN4 : ndT n t <= 4096) (hfz : fitsE D (arD D wh a) (htT n t) = 0) :
  Calls Tryz.prog 21 #[.pointer (some ⟨db, 0, none⟩), .int .i64 wh, .int .u64 (a : Int), .agg v] w (InsP w ro db (putD (growD n t (arD D wh a) D).1 (growD n t (arD D wh a) D).2 (arD D wh a) wh a) (growD n t (arD D wh a) D).2 0) := by
 have hv := hd.view
 have hpc := fun W => isPlace_any W wh a
 have HD : Hid (PDoc w ro db D) := hd
 obtain ⟨tk, nm, aa, al, ac, tx, ka, kl, kc, rfl⟩ := h.form
 have HBX : Hid (Below w.heap.size w (w.alloc (.cells #[.int .i64 tk, .string nm, .slice aa al ac, .string tx, .slice ka kl kc] 35))) := below_new' w _
 have HBC : Hid (IsCells (w.alloc (.cells #[.int .i64 tk, .string nm, .slice aa al ac, .string tx, .slice ka kl kc] 35)) w.heap.size #[.int .i64 tk, .string nm, .slice aa al ac, .string tx, .slice ka kl kc]) := isCells_new w _ _
 have hck := fun W (hb : Below w.heap.size w W) => Check_any n W _ t lo hi (h.below hb hsz) (Nat.le_trans hsz hb.size)
 have hlv := fun W (hb : Below w.heap.size w W) => isLive_any W _ db D a (hv.below hb) hw.fits hal
 obtain ⟨o1, o2, o3⟩ := chk_ok n t 1 0 (by omega) (by omega) (by omega) hcz
 have hn1 : 1 <= ndT n t := by
  cases n with
  | zero => cases t
  | succ n => exact ndT_pos n t
 have hn4 : ndT n t <= 4096 := hN4
 obtain ⟨lv, hlv0⟩ := hw.lev
 have hlive := live_of hla
 have hwl : wh = 3 \/ wh = 4 -> ∃ t, sl D a = some t := fun h => by
  refine hlive.resolve_left (fun e => ?_)
  subst e
  rcases h with rfl | rfl <;> simp [isPlaceB] at hpl
 have hpp : arD D wh a = 0 \/ ∃ t, sl D (arD D wh a) = some t := by
  unfold arD
  split
  ·rename_i h
   obtain ⟨t, ht⟩ := hwl h
   have := (dep_par hlv0 ht).2
   simpa [par, ht] using this
  ·exact hlive
 have hal' : arD D wh a < 18446744073709551616 := by
  rcases hpp with e | ⟨t, ht⟩
  ·omega
  ·exact (hw.lt ht).1
 have har := fun W (hb : Below w.heap.size w W) => around_any W _ db D wh a (hv.below hb) hw.fits hal hwl
 have hme := fun W (hb : Below w.heap.size w W) => measure_any n W _ t lo hi (h.below hb hsz) (Nat.le_trans hsz hb.size) o1 hn4 (by omega)
 have hfi := fun W (hb : Below w.heap.size w W) => fits_any W _ db D (arD D wh a) (htT n t) (hv.below hb) hw hpp (by omega) _ rfl
 have hfe := fun W (hb : Below w.heap.size w W) => pfree_any W _ db D (ndT n t) (hv.below hb) hw.fits hn4
 have hmk : ∀ (f : Fn) (first cap : Array Value) (w : World), (Instr.makeFunc f first cap).run Tryz.prog w = .ok (.func f first cap) w := fun _ _ _ _ => rfl
 obtain ⟨e1, e2, e3, e4, e5⟩ := insE_ok hz
 obtain ⟨f1, f2, f3, f4⟩ := place_facts hw e3 e1
 obtain ⟨N, hgn, sn, k1, k2⟩ := ins_grown hw hz
 rw [f3] at f1 f4 hgn k1 k2
 have HPUT := putD_same (wh := wh) (a := a) k1 k2
 have haN : a ∉ N := hgn.notin hlive
 have hpN : arD D wh a ∉ N := hgn.notin hpp
 have hslA : sl (growD n t (arD D wh a) D).1 a = sl D a := hgn.old a haN
 have hlE : lst (growD n t (arD D wh a) D).1 (arD D wh a) = lst D (arD D wh a) := hgn.lst_old hpN
 have harE : arD (growD n t (arD D wh a) D).1 wh a = arD D wh a := by
  show (if wh = 3 \/ wh = 4 then par _ a else a) = (if wh = 3 \/ wh = 4 then par D a else a)
  unfold par
  rw [hslA]
 have hppE : arD D wh a = 0 \/ ∃ s, sl (growD n t (arD D wh a) D).1 (arD D wh a) = some s := hpp.imp id (fun ⟨s, hs⟩ => ⟨s, by rw [hgn.old _ hpN]; exact hs⟩)
 have hwhE : wh = 1 \/ wh = 2 \/ ((wh = 3 \/ wh = 4) /\ a ∈ lst (growD n t (arD D wh a) D).1 (arD D wh a) /\ ∃ s, sl (growD n t (arD D wh a) D).1 a = some s) := by
  rcases f4 with h | h | ⟨h1, h2⟩
  ·exact .inl h
  ·exact .inr (.inl h)
  ·exact .inr (.inr ⟨h1, by rw [hlE]; exact h2, by rw [hslA]; exact hwl h1⟩)
 have hllE : (lst (growD n t (arD D wh a) D).1 (arD D wh a)).length <= 4096 := by rw [hlE]; exact lst_len hw hpp
 have HLK : Hid (∀ W roW, PDoc W roW db (growD n t (arD D wh a) D).1 -> Calls Tryz.prog 48 #[.pointer (some ⟨db, 0, none⟩), .int .u64 ((growD n t (arD D wh a) D).2 : Int), .int .i64 wh, .int .u64 (a : Int)] W (LinkP W roW db (putD (growD n t (arD D wh a) D).1 (growD n t (arD D wh a) D).2 (arD D wh a) wh a))) := fun W roW hW => by
  rw [HPUT]
  exact link_any W roW db _ _ a (arD D wh a) wh hW hgn.sane.fits hal hal' hppE hllE harE hwhE
 have hfl : ((frL D).take (ndT n t)).length = ndT n t := by
  have := frL_len hw.fits
  rw [List.length_take]
  omega
 have HLT : Hid (∀ b, ro b ≠ 0 -> b < w.heap.size) := hv.lt
 have HGA : Hid (∀ W fb fg, Below w.heap.size w W -> FrAt W fb fg ((frL D).take (ndT n t)) -> w.heap.size <= fb -> w.heap.size <= fg -> Calls Tryz.prog 46 #[.pointer (some ⟨db, 0, none⟩), .agg #[.int .i64 tk, .string nm, .slice aa al ac, .string tx, .slice ka kl kc], .int .u64 (arD D wh a : Int), .func (.func 47) #[] #[.pointer (some ⟨fb, 0, none⟩)]] W (GrowP W ro db fb fg (growD n t (arD D wh a) D).1 (growD n t (arD D wh a) D).2 (((frL D).take (ndT n t)).drop (ndT n t)))) := fun W fb fg hb hf h1 h2 => by
  have hz : ∀ b, w.heap.size <= b -> ro b = 0 := fun b hb => by
   by_cases e : ro b = 0
   ·exact e
   ·have := HLT.out b e
    omega
  exact grow_any n W _ t lo hi (arD D wh a) ro db fb fg (ndT n t) D (h.below hb hsz) (Nat.le_trans hsz hb.size) hro (Nat.le_trans hsz h1) (HD.out.turn (A := fun _ => False) ((Turn.refl _ _).then hb (Nat.le_refl _)) (fun _ _ => not_false)) hf (Nat.le_refl _) ⟨hz fb h1, hz fg h2⟩ hw.sane e5 hpp hal' o1
 rw [hpl] at hpc
 rw [hcz] at hck
 rw [hla] at hlv
 rw [hfz] at hfi
 generalize hFL : (frL D).take (ndT n t) = FL at *
 generalize hnd : ndT n t = nd at *
 generalize htT n t = ht at *
 generalize (growD n t (arD D wh a) D).1 = E at *
 generalize (growD n t (arD D wh a) D).2 = H at *
 generalize arD D wh a = p at *
 clear hd hv h hw hcz hla o1 o2 hlv0 hwl hpp hlive hfz hnd hFL hz e1 e2 e3 e4 e5 f1 f2 f3 f4 hgn k1 k2 HPUT haN hpN hslA hlE harE hppE hwhE hllE hro
 go_enter Tryz.func21, Tryz.ntmps21
 go_wp2_with fail
 refine (hpc _).mono ?_
 rintro e w1 ⟨rfl, rfl⟩
 clear hpc
 have hck1 := hck _ HBX.out
 clear hck
 go_wp2_with fail
 refine hck1.mono ?_
 rintro e w2 ⟨rfl, hb⟩
 have HB2 : Hid (Below w.heap.size w w2) := HBX.out.trans (hb.mono HBX.out.size)
 have HC2 : Hid (IsCells w2 w.heap.size #[.int .i64 tk, .string nm, .slice aa al ac, .string tx, .slice ka kl kc]) := HBC.out.of_block (hb.block w.heap.size (by simp))
 clear hb hck1
 have hlv2 := hlv w2 HB2.out
 clear hlv
 go_wp2_with fail
 refine hlv2.mono ?_
 rintro e w3 ⟨rfl, hb⟩
 have HB3 : Hid (Below w.heap.size w w3) := HB2.out.trans (hb.mono HB2.out.size)
 have HC3 : Hid (IsCells w3 w.heap.size #[.int .i64 tk, .string nm, .slice aa al ac, .string tx, .slice ka kl kc]) := HC2.out.of_block (hb.block w.heap.size HC2.out.lt)
 clear hb hlv2
 have har3 := har w3 HB3.out
 clear har
 go_wp2_with fail
 refine har3.mono ?_
 rintro e w4 ⟨rfl, hb⟩
 have HB4 : Hid (Below w.heap.size w w4) := HB3.out.trans (hb.mono HB3.out.size)
 have HC4 : Hid (IsCells w4 w.heap.size #[.int .i64 tk, .string nm, .slice aa al ac, .string tx, .slice ka kl kc]) := HC3.out.of_block (hb.block w.heap.size HC3.out.lt)
 clear hb har3
 have hx0 := HC4.out.cell 0
 have hx1 := HC4.out.cell 1
 have hx2 := HC4.out.cell 2
 have hx3 := HC4.out.cell 3
 have hx4 := HC4.out.cell 4
 simp at hx0 hx1 hx2 hx3 hx4
 have hme4 := hme w4 HB4.out
 clear hme
 go_wp2_with fail
 refine hme4.mono ?_
 rintro e w5 ⟨rfl, hb⟩
 have HB5 : Hid (Below w.heap.size w w5) := HB4.out.trans (hb.mono HB4.out.size)
 have HC5 : Hid (IsCells w5 w.heap.size #[.int .i64 tk, .string nm, .slice aa al ac, .string tx, .slice ka kl kc]) := HC4.out.of_block (hb.block w.heap.size HC4.out.lt)
 clear hb hme4 hx0 hx1 hx2 hx3 hx4
 have hfi5 := hfi w5 HB5.out
 clear hfi
 go_wp2_with fail
 refine hfi5.mono ?_
 rintro e w6 ⟨rfl, hb⟩
 have HB6 : Hid (Below w.heap.size w w6) := HB5.out.trans (hb.mono HB5.out.size)
 have HC6 : Hid (IsCells w6 w.heap.size #[.int .i64 tk, .string nm, .slice aa al ac, .string tx, .slice ka kl kc]) := HC5.out.of_block (hb.block w.heap.size HC5.out.lt)
 clear hb hfi5
 have hfe6 := hfe w6 HB6.out
 clear hfe
 go_wp2_with fail
 refine hfe6.mono ?_
 rintro e w7 ⟨fa, fc, rfl, hown, hb⟩
 have HB7 : Hid (Below w.heap.size w w7) := HB6.out.trans (hb.mono HB6.out.size)
 have HC7 : Hid (IsCells w7 w.heap.size #[.int .i64 tk, .string nm, .slice aa al ac, .string tx, .slice ka kl kc]) := HC6.out.of_block (hb.block w.heap.size HC6.out.lt)
 obtain ⟨fg, hfa, hfg⟩ : ∃ fg, fa = some ⟨fg, 0, none⟩ /\ w6.heap.size <= fg /\ fg < w7.heap.size /\ nd <= fc /\ ∀ (j x : Nat), FL[j]? = some x -> w7.cell? ⟨fg, 0 + j, none⟩ = some (.int .i64 (x : Int)) := by
  obtain ⟨r1, r2, r3⟩ := row_cell hown
  obtain ⟨x0, hx0⟩ : ∃ x, FL[0]? = some x := ⟨_, List.getElem?_eq_getElem (by omega)⟩
  obtain ⟨g0, q1, q2, q3, q4⟩ := r3 0 (.int .i64 (x0 : Int)) (by simp [ivals, hx0])
  refine ⟨g0, q1, q2, q3, by omega, fun j x hx => ?_⟩
  obtain ⟨g1, q1', _, _, q4'⟩ := r3 j (.int .i64 (x : Int)) (by simp [ivals, hx])
  rw [q1] at q1'
  cases q1'
  rw [Nat.zero_add]
  exact q4'
 subst hfa
 rw [hfl]
 have hs67 := hb.size
 have hs6 := HB6.out.size
 have HFA : Hid (FrAt (w7.alloc (.cells #[.slice (some ⟨fg, 0, none⟩) nd fc] 78)) w7.heap.size fg FL) := by
  refine ⟨⟨0, fc, ?_, by rw [hfl]; exact hfg.2.2.1, fun j x hx => ?_⟩, by omega, by simp; omega⟩
  ·rw [hfl]
   exact isCells_new w7 _ 78
  ·exact (World.cell?_of_block (w := w7) (a := ⟨fg, 0 + j, none⟩) (Below.heap_alloc _ _ _ hfg.2.1)).trans (hfg.2.2.2 j x hx)
 have HB8 : Hid (Below w.heap.size w (w7.alloc (.cells #[.slice (some ⟨fg, 0, none⟩) nd fc] 78))) := HB7.out.alloc HB7.out.size _
 have HC8 : Hid (IsCells (w7.alloc (.cells #[.slice (some ⟨fg, 0, none⟩) nd fc] 78)) w.heap.size #[.int .i64 tk, .string nm, .slice aa al ac, .string tx, .slice ka kl kc]) := HC7.out.alloc _
 have hga := HGA.out _ _ _ HB8.out HFA.out (by omega) (by omega)
 have hx0 := HC7.out.cell 0
 have hx1 := HC7.out.cell 1
 have hx2 := HC7.out.cell 2
 have hx3 := HC7.out.cell 3
 have hx4 := HC7.out.cell 4
 simp at hx0 hx1 hx2 hx3 hx4
 have hwl7 : w.heap.size < w7.heap.size := HC7.out.lt
 have hnn : ¬ (nd : Int) < (nd : Int) := by omega
 clear hown hb hfe6 hfg HFA HGA
 go_wp2_with fail
 refine hga.mono ?_
 rintro e w9 ⟨rfl, ro9, hp9⟩
 have hlk := HLK.out w9 ro9 hp9.doc
 have HP9 : Hid (PG (w7.alloc (.cells #[.slice (some ⟨fg, 0, none⟩) nd fc] 78)) ro db w7.heap.size fg E _ w9 ro9) := hp9
 clear hga hp9 HLK hx0 hx1 hx2 hx3 hx4
 go_wp2_with fail
 refine hlk.mono ?_
 rintro e w10 ⟨rfl, ht, ro10, hd10, hf10⟩
 have HFIN : Hid (Turn (fun b => ro b ≠ 0) w w10 /\ ∃ ro', PDoc w10 ro' db (putD E H p wh a) /\ ∀ b, ro' b ≠ 0 -> ro b ≠ 0 \/ w.heap.size <= b) := by
  have h8 := HB8.out
  have h9 := HP9.out
  have hs8 := h8.size
  refine ⟨⟨ht.os.trans (h9.turn.os.trans h8.os), ht.tape.trans (h9.turn.tape.trans h8.tape), ht.output.trans (h9.turn.output.trans h8.output), Nat.le_trans hs8 (Nat.le_trans h9.turn.size ht.size), fun b hb hn => ?_⟩, ro10, hd10, fun b hb => ?_⟩
  ·rw [ht.block b (by have := h9.turn.size; omega) (fun e => ?_), h9.turn.block b (by omega) (fun e => ?_), h8.block b hb]
   ·rcases e with e | e
    ·exact hn e
    ·omega
   ·rcases h9.from' b e with h1 | h1
    ·exact hn h1
    ·omega
  ·rcases hf10 b hb with h1 | h1
   ·rcases h9.from' b h1 with h2 | h2
    ·exact .inl h2
    ·exact .inr (by omega)
   ·exact .inr (by have := h9.turn.size; omega)
 clear ht hd10 hf10 hlk
 go_wp2
 go_ret2
 exact ⟨rfl, HFIN.out⟩
theorem pins_any (n : Nat) (w : World) (v : Array Value) (t : T n) (lo hi : Nat) (ro : Nat -> Nat) (db a : Nat) (wh : Int) (D : Dc) (h : TreeAt w lo hi n v t) (hsz : hi <= w.heap.size) (hro : ∀ b, ro b ≠ 0 -> ¬ (lo <= b /\ b < hi)) (hd : PDoc w ro db D) (hw : WF D) (hal : a < 18446744073709551616) :
  Calls Tryz.prog 21 #[.pointer (some ⟨db, 0, none⟩), .int .i64 wh, .int .u64 (a : Int), .agg v] w (InsP w ro db (insD D wh a n t).1 (insD D wh a n t).2 (insE D wh a n t)) := by
 have hbad : insE D wh a n t ≠ 0 -> insD D wh a n t = (D, 0) := fun h => by unfold insD; rw [if_neg h]
 cases hpl : isPlaceB wh a with
 | false =>
  have e : insE D wh a n t = 1 := by unfold insE; rw [if_pos hpl]
  rw [hbad (by rw [e]; decide), e]
  exact ins_place n w v t lo hi ro db a wh D h hsz hro hd hw hal hpl
 | true =>
  by_cases hcz : (chk n t 1 0).2 = 0
  ·have e := insE_eq hw (a := a) (wh := wh) hpl hcz
   have o := chk_ok n t 1 0 (by omega) (by omega) (by omega) hcz
   have hN4 : ndT n t <= 4096 := by
    have := chk_le n t 1 0 (by omega)
    omega
   cases hla : liveB D a with
   | false =>
    rw [if_pos hla] at e
    rw [hbad (by rw [e]; decide), e]
    exact ins_live n w v t lo hi ro db a wh D h hsz hro hd hw hal hpl hcz hla
   | true =>
    rw [if_neg (by simp [hla])] at e
    by_cases hfz : fitsE D (arD D wh a) (htT n t) = 0
    ·rw [if_neg (by simp [hfz])] at e
     by_cases hmn : 4096 < cnt takenB D.S + ndT n t
     ·rw [if_pos hmn] at e
      rw [hbad (by rw [e]; decide), e]
      exact ins_many n w v t lo hi ro db a wh D h hsz hro hd hw hal hpl hcz hla hN4 hfz hmn
     ·rw [if_neg hmn] at e
      have hz := e
      have f3 := (place_facts hw (insE_ok e).2.2.1 hpl).2.2.1
      have ei : insD D wh a n t = (putD (growD n t (arD D wh a) D).1 (growD n t (arD D wh a) D).2 (arD D wh a) wh a, (growD n t (arD D wh a) D).2) := by
       unfold insD
       rw [if_pos e, f3]
      rw [ei, e]
      exact ins_ok n w v t lo hi ro db a wh D h hsz hro hd hw hal hz hpl hcz hla hN4 hfz
    ·rw [if_pos (by simpa using hfz)] at e
     rw [hbad (by rw [e]; exact hfz), e]
     exact ins_fits n w v t lo hi ro db a wh D h hsz hro hd hw hal hpl hcz hla hN4 hfz
  ·have e : insE D wh a n t = (chk n t 1 0).2 := by unfold insE; rw [if_neg (by simp [hpl]), if_pos hcz]
   rw [hbad (by rw [e]; exact hcz), e]
   exact ins_check n w v t lo hi ro db a wh D h hsz hro hd hw hal hpl hcz
def DopP (w : World) (ro : Nat -> Nat) (db : Nat) (D' : Dc) (z : Int) (e : Ending) (w' : World) : Prop :=
 (∃ h : Nat, e = .returned (.tuple #[.int .u64 (h : Int), .int .i64 z])) /\ Turn (fun b => ro b ≠ 0) w w' /\ ∃ ro', PDoc w' ro' db D' /\ ∀ b, ro' b ≠ 0 -> ro b ≠ 0 \/ w.heap.size <= b
theorem pdo_1 (w : World) (ro : Nat -> Nat) (db : Nat) (D : Dc) (nd sp : Nat) (wh : Int) (nm vl : ByteArray) (tk : Int) (tn : ByteArray) (aa : Option Addr) (al ac : Nat) (tt : ByteArray) (ka : Option Addr) (kl kc lev : Nat) (tr : T lev) (lo hi : Nat) (hd : PDoc w ro db D) (hw : WF D) (htr : TreeAt w lo hi lev #[.int .i64 tk, .string tn, .slice aa al ac, .string tt, .slice ka kl kc] tr) (hhi : hi <= w.heap.size) (hro : ∀ b, ro b ≠ 0 -> ¬ (lo <= b /\ b < hi)) (hn : nd < 18446744073709551616) (hs : sp < 18446744073709551616) :
  Calls Tryz.prog 13 #[.pointer (some ⟨db, 0, none⟩), .agg (opv (1) nd sp wh nm vl tk tn aa al ac tt ka kl kc)] w (DopP w ro db (stepD D ⟨1, nd, sp, wh, nm, vl, lev, tr⟩).1 (stepD D ⟨1, nd, sp, wh, nm, vl, lev, tr⟩).2) := by
 unfold opv
 have HP0 : Hid (PDoc (w.alloc (.cells (opv 1 nd sp wh nm vl tk tn aa al ac tt ka kl kc) 37)) ro db D) := hd.turn (A := fun _ => False) ((Turn.refl _ _).alloc _) (fun _ _ h => h)
 have hst : stepD D ⟨1, nd, sp, wh, nm, vl, lev, tr⟩ = ((insD D wh sp lev tr).1, insE D wh sp lev tr) := by simp [stepD]
 rw [hst]
 have hcal := pins_any lev _ _ tr lo hi ro db sp wh D (htr.below (below_new' w _) hhi) (by simp; omega) hro HP0.out hw hs
 unfold opv at HP0 hcal
 have HB0 : Hid (Below w.heap.size w (w.alloc (.cells #[.int .i64 1, .int .u64 (nd : Int), .int .u64 (sp : Int), .int .i64 wh, .string nm, .string vl, .int .i64 tk, .string tn, .slice aa al ac, .string tt, .slice ka kl kc] 37))) := below_new' w _
 clear hst HP0 htr hd
 go_enter Tryz.func13, Tryz.ntmps13
 go_wp2_with fail
 refine hcal.mono ?_
 rintro e w1 ⟨rfl, ht, ro', hp', hn'⟩
 have HD : Hid (Turn (fun b => ro b ≠ 0) w w1) := ((Turn.refl _ _).then HB0.out (Nat.le_refl _)).trans ht
 have HN : Hid (∀ b, ro' b ≠ 0 -> ro b ≠ 0 \/ w.heap.size <= b) := fun b hb => (hn' b hb).imp id (fun h => Nat.le_trans HB0.out.size h)
 clear hcal ht hn'
 go_wp2
 go_ret2
 exact ⟨⟨_, rfl⟩, HD.out, ro', hp', HN.out⟩
theorem pdo_2 (w : World) (ro : Nat -> Nat) (db : Nat) (D : Dc) (nd sp : Nat) (wh : Int) (nm vl : ByteArray) (tk : Int) (tn : ByteArray) (aa : Option Addr) (al ac : Nat) (tt : ByteArray) (ka : Option Addr) (kl kc lev : Nat) (tr : T lev) (lo hi : Nat) (hd : PDoc w ro db D) (hw : WF D) (htr : TreeAt w lo hi lev #[.int .i64 tk, .string tn, .slice aa al ac, .string tt, .slice ka kl kc] tr) (hhi : hi <= w.heap.size) (hro : ∀ b, ro b ≠ 0 -> ¬ (lo <= b /\ b < hi)) (hn : nd < 18446744073709551616) (hs : sp < 18446744073709551616) :
  Calls Tryz.prog 13 #[.pointer (some ⟨db, 0, none⟩), .agg (opv (2) nd sp wh nm vl tk tn aa al ac tt ka kl kc)] w (DopP w ro db (stepD D ⟨2, nd, sp, wh, nm, vl, lev, tr⟩).1 (stepD D ⟨2, nd, sp, wh, nm, vl, lev, tr⟩).2) := by
 unfold opv
 have HP0 : Hid (PDoc (w.alloc (.cells (opv 2 nd sp wh nm vl tk tn aa al ac tt ka kl kc) 37)) ro db D) := hd.turn (A := fun _ => False) ((Turn.refl _ _).alloc _) (fun _ _ h => h)
 have hst : stepD D ⟨2, nd, sp, wh, nm, vl, lev, tr⟩ = movD D nd wh sp := by simp [stepD]
 rw [hst]
 have hcal := pmov_any _ ro db D nd sp wh HP0.out hw hn hs
 unfold opv at HP0 hcal
 have HB0 : Hid (Below w.heap.size w (w.alloc (.cells #[.int .i64 2, .int .u64 (nd : Int), .int .u64 (sp : Int), .int .i64 wh, .string nm, .string vl, .int .i64 tk, .string tn, .slice aa al ac, .string tt, .slice ka kl kc] 37))) := below_new' w _
 clear hst HP0 htr hd
 go_enter Tryz.func13, Tryz.ntmps13
 go_wp2_with fail
 refine hcal.mono ?_
 rintro e w1 ⟨rfl, ht, ro', hp', hn'⟩
 have HD : Hid (Turn (fun b => ro b ≠ 0) w w1) := ((Turn.refl _ _).then HB0.out (Nat.le_refl _)).trans ht
 have HN : Hid (∀ b, ro' b ≠ 0 -> ro b ≠ 0 \/ w.heap.size <= b) := fun b hb => (hn' b hb).imp id (fun h => Nat.le_trans HB0.out.size h)
 clear hcal ht hn'
 go_wp2
 go_ret2
 exact ⟨⟨_, rfl⟩, HD.out, ro', hp', HN.out⟩
theorem pdo_3 (w : World) (ro : Nat -> Nat) (db : Nat) (D : Dc) (nd sp : Nat) (wh : Int) (nm vl : ByteArray) (tk : Int) (tn : ByteArray) (aa : Option Addr) (al ac : Nat) (tt : ByteArray) (ka : Option Addr) (kl kc lev : Nat) (tr : T lev) (lo hi : Nat) (hd : PDoc w ro db D) (hw : WF D) (htr : TreeAt w lo hi lev #[.int .i64 tk, .string tn, .slice aa al ac, .string tt, .slice ka kl kc] tr) (hhi : hi <= w.heap.size) (hro : ∀ b, ro b ≠ 0 -> ¬ (lo <= b /\ b < hi)) (hn : nd < 18446744073709551616) (hs : sp < 18446744073709551616) :
  Calls Tryz.prog 13 #[.pointer (some ⟨db, 0, none⟩), .agg (opv (3) nd sp wh nm vl tk tn aa al ac tt ka kl kc)] w (DopP w ro db (stepD D ⟨3, nd, sp, wh, nm, vl, lev, tr⟩).1 (stepD D ⟨3, nd, sp, wh, nm, vl, lev, tr⟩).2) := by
 unfold opv
 have HP0 : Hid (PDoc (w.alloc (.cells (opv 3 nd sp wh nm vl tk tn aa al ac tt ka kl kc) 37)) ro db D) := hd.turn (A := fun _ => False) ((Turn.refl _ _).alloc _) (fun _ _ h => h)
 have hst : stepD D ⟨3, nd, sp, wh, nm, vl, lev, tr⟩ = delD D nd := by simp [stepD]
 rw [hst]
 have hcal := pdel_any _ ro db D nd HP0.out hw hn
 unfold opv at HP0 hcal
 have HB0 : Hid (Below w.heap.size w (w.alloc (.cells #[.int .i64 3, .int .u64 (nd : Int), .int .u64 (sp : Int), .int .i64 wh, .string nm, .string vl, .int .i64 tk, .string tn, .slice aa al ac, .string tt, .slice ka kl kc] 37))) := below_new' w _
 clear hst HP0 htr hd
 go_enter Tryz.func13, Tryz.ntmps13
 go_wp2_with fail
 refine hcal.mono ?_
 rintro e w1 ⟨rfl, ht, ro', hp', hn'⟩
 have HD : Hid (Turn (fun b => ro b ≠ 0) w w1) := ((Turn.refl _ _).then HB0.out (Nat.le_refl _)).trans ht
 have HN : Hid (∀ b, ro' b ≠ 0 -> ro b ≠ 0 \/ w.heap.size <= b) := fun b hb => (hn' b hb).imp id (fun h => Nat.le_trans HB0.out.size h)
 clear hcal ht hn'
 go_wp2
 go_ret2
 exact ⟨⟨_, rfl⟩, HD.out, ro', hp', HN.out⟩
theorem pdo_4 (w : World) (ro : Nat -> Nat) (db : Nat) (D : Dc) (nd sp : Nat) (wh : Int) (nm vl : ByteArray) (tk : Int) (tn : ByteArray) (aa : Option Addr) (al ac : Nat) (tt : ByteArray) (ka : Option Addr) (kl kc lev : Nat) (tr : T lev) (lo hi : Nat) (hd : PDoc w ro db D) (hw : WF D) (htr : TreeAt w lo hi lev #[.int .i64 tk, .string tn, .slice aa al ac, .string tt, .slice ka kl kc] tr) (hhi : hi <= w.heap.size) (hro : ∀ b, ro b ≠ 0 -> ¬ (lo <= b /\ b < hi)) (hn : nd < 18446744073709551616) (hs : sp < 18446744073709551616) :
  Calls Tryz.prog 13 #[.pointer (some ⟨db, 0, none⟩), .agg (opv (4) nd sp wh nm vl tk tn aa al ac tt ka kl kc)] w (DopP w ro db (stepD D ⟨4, nd, sp, wh, nm, vl, lev, tr⟩).1 (stepD D ⟨4, nd, sp, wh, nm, vl, lev, tr⟩).2) := by
 unfold opv
 have HP0 : Hid (PDoc (w.alloc (.cells (opv 4 nd sp wh nm vl tk tn aa al ac tt ka kl kc) 37)) ro db D) := hd.turn (A := fun _ => False) ((Turn.refl _ _).alloc _) (fun _ _ h => h)
 have hst : stepD D ⟨4, nd, sp, wh, nm, vl, lev, tr⟩ = setNameD D nd nm := by simp [stepD]
 rw [hst]
 have hcal := psetName_any _ ro db D nd nm HP0.out hw.fits hn
 unfold opv at HP0 hcal
 have HB0 : Hid (Below w.heap.size w (w.alloc (.cells #[.int .i64 4, .int .u64 (nd : Int), .int .u64 (sp : Int), .int .i64 wh, .string nm, .string vl, .int .i64 tk, .string tn, .slice aa al ac, .string tt, .slice ka kl kc] 37))) := below_new' w _
 clear hst HP0 htr hd
 go_enter Tryz.func13, Tryz.ntmps13
 go_wp2_with fail
 refine hcal.mono ?_
 rintro e w1 ⟨rfl, ht, ro', hp', hn'⟩
 have HD : Hid (Turn (fun b => ro b ≠ 0) w w1) := ((Turn.refl _ _).then HB0.out (Nat.le_refl _)).trans ht
 have HN : Hid (∀ b, ro' b ≠ 0 -> ro b ≠ 0 \/ w.heap.size <= b) := fun b hb => (hn' b hb).imp id (fun h => Nat.le_trans HB0.out.size h)
 clear hcal ht hn'
 go_wp2
 go_ret2
 exact ⟨⟨_, rfl⟩, HD.out, ro', hp', HN.out⟩
theorem pdo_5 (w : World) (ro : Nat -> Nat) (db : Nat) (D : Dc) (nd sp : Nat) (wh : Int) (nm vl : ByteArray) (tk : Int) (tn : ByteArray) (aa : Option Addr) (al ac : Nat) (tt : ByteArray) (ka : Option Addr) (kl kc lev : Nat) (tr : T lev) (lo hi : Nat) (hd : PDoc w ro db D) (hw : WF D) (htr : TreeAt w lo hi lev #[.int .i64 tk, .string tn, .slice aa al ac, .string tt, .slice ka kl kc] tr) (hhi : hi <= w.heap.size) (hro : ∀ b, ro b ≠ 0 -> ¬ (lo <= b /\ b < hi)) (hn : nd < 18446744073709551616) (hs : sp < 18446744073709551616) :
  Calls Tryz.prog 13 #[.pointer (some ⟨db, 0, none⟩), .agg (opv (5) nd sp wh nm vl tk tn aa al ac tt ka kl kc)] w (DopP w ro db (stepD D ⟨5, nd, sp, wh, nm, vl, lev, tr⟩).1 (stepD D ⟨5, nd, sp, wh, nm, vl, lev, tr⟩).2) := by
 unfold opv
 have HP0 : Hid (PDoc (w.alloc (.cells (opv 5 nd sp wh nm vl tk tn aa al ac tt ka kl kc) 37)) ro db D) := hd.turn (A := fun _ => False) ((Turn.refl _ _).alloc _) (fun _ _ h => h)
 have hst : stepD D ⟨5, nd, sp, wh, nm, vl, lev, tr⟩ = setTextD D nd vl := by simp [stepD]
 rw [hst]
 have hcal := psetText_any _ ro db D nd vl HP0.out hw.fits hn
 unfold opv at HP0 hcal
 have HB0 : Hid (Below w.heap.size w (w.alloc (.cells #[.int .i64 5, .int .u64 (nd : Int), .int .u64 (sp : Int), .int .i64 wh, .string nm, .string vl, .int .i64 tk, .string tn, .slice aa al ac, .string tt, .slice ka kl kc] 37))) := below_new' w _
 clear hst HP0 htr hd
 go_enter Tryz.func13, Tryz.ntmps13
 go_wp2_with fail
 refine hcal.mono ?_
 rintro e w1 ⟨rfl, ht, ro', hp', hn'⟩
 have HD : Hid (Turn (fun b => ro b ≠ 0) w w1) := ((Turn.refl _ _).then HB0.out (Nat.le_refl _)).trans ht
 have HN : Hid (∀ b, ro' b ≠ 0 -> ro b ≠ 0 \/ w.heap.size <= b) := fun b hb => (hn' b hb).imp id (fun h => Nat.le_trans HB0.out.size h)
 clear hcal ht hn'
 go_wp2
 go_ret2
 exact ⟨⟨_, rfl⟩, HD.out, ro', hp', HN.out⟩
theorem pdo_6 (w : World) (ro : Nat -> Nat) (db : Nat) (D : Dc) (nd sp : Nat) (wh : Int) (nm vl : ByteArray) (tk : Int) (tn : ByteArray) (aa : Option Addr) (al ac : Nat) (tt : ByteArray) (ka : Option Addr) (kl kc lev : Nat) (tr : T lev) (lo hi : Nat) (hd : PDoc w ro db D) (hw : WF D) (htr : TreeAt w lo hi lev #[.int .i64 tk, .string tn, .slice aa al ac, .string tt, .slice ka kl kc] tr) (hhi : hi <= w.heap.size) (hro : ∀ b, ro b ≠ 0 -> ¬ (lo <= b /\ b < hi)) (hn : nd < 18446744073709551616) (hs : sp < 18446744073709551616) :
  Calls Tryz.prog 13 #[.pointer (some ⟨db, 0, none⟩), .agg (opv (6) nd sp wh nm vl tk tn aa al ac tt ka kl kc)] w (DopP w ro db (stepD D ⟨6, nd, sp, wh, nm, vl, lev, tr⟩).1 (stepD D ⟨6, nd, sp, wh, nm, vl, lev, tr⟩).2) := by
 unfold opv
 have HP0 : Hid (PDoc (w.alloc (.cells (opv 6 nd sp wh nm vl tk tn aa al ac tt ka kl kc) 37)) ro db D) := hd.turn (A := fun _ => False) ((Turn.refl _ _).alloc _) (fun _ _ h => h)
 have hst : stepD D ⟨6, nd, sp, wh, nm, vl, lev, tr⟩ = setAttrD D nd nm vl := by simp [stepD]
 rw [hst]
 have hcal := psetA_any _ ro db D nd nm vl HP0.out hw hn
 unfold opv at HP0 hcal
 have HB0 : Hid (Below w.heap.size w (w.alloc (.cells #[.int .i64 6, .int .u64 (nd : Int), .int .u64 (sp : Int), .int .i64 wh, .string nm, .string vl, .int .i64 tk, .string tn, .slice aa al ac, .string tt, .slice ka kl kc] 37))) := below_new' w _
 clear hst HP0 htr hd
 go_enter Tryz.func13, Tryz.ntmps13
 go_wp2_with fail
 refine hcal.mono ?_
 rintro e w1 ⟨rfl, ht, ro', hp', hn'⟩
 have HD : Hid (Turn (fun b => ro b ≠ 0) w w1) := ((Turn.refl _ _).then HB0.out (Nat.le_refl _)).trans ht
 have HN : Hid (∀ b, ro' b ≠ 0 -> ro b ≠ 0 \/ w.heap.size <= b) := fun b hb => (hn' b hb).imp id (fun h => Nat.le_trans HB0.out.size h)
 clear hcal ht hn'
 go_wp2
 go_ret2
 exact ⟨⟨_, rfl⟩, HD.out, ro', hp', HN.out⟩
theorem pdo_7 (w : World) (ro : Nat -> Nat) (db : Nat) (D : Dc) (nd sp : Nat) (wh : Int) (nm vl : ByteArray) (tk : Int) (tn : ByteArray) (aa : Option Addr) (al ac : Nat) (tt : ByteArray) (ka : Option Addr) (kl kc lev : Nat) (tr : T lev) (lo hi : Nat) (hd : PDoc w ro db D) (hw : WF D) (htr : TreeAt w lo hi lev #[.int .i64 tk, .string tn, .slice aa al ac, .string tt, .slice ka kl kc] tr) (hhi : hi <= w.heap.size) (hro : ∀ b, ro b ≠ 0 -> ¬ (lo <= b /\ b < hi)) (hn : nd < 18446744073709551616) (hs : sp < 18446744073709551616) :
  Calls Tryz.prog 13 #[.pointer (some ⟨db, 0, none⟩), .agg (opv (7) nd sp wh nm vl tk tn aa al ac tt ka kl kc)] w (DopP w ro db (stepD D ⟨7, nd, sp, wh, nm, vl, lev, tr⟩).1 (stepD D ⟨7, nd, sp, wh, nm, vl, lev, tr⟩).2) := by
 unfold opv
 have HP0 : Hid (PDoc (w.alloc (.cells (opv 7 nd sp wh nm vl tk tn aa al ac tt ka kl kc) 37)) ro db D) := hd.turn (A := fun _ => False) ((Turn.refl _ _).alloc _) (fun _ _ h => h)
 have hst : stepD D ⟨7, nd, sp, wh, nm, vl, lev, tr⟩ = dropD D nd nm := by simp [stepD]
 rw [hst]
 have hcal := pdropA_any _ ro db D nd nm HP0.out hw hn
 unfold opv at HP0 hcal
 have HB0 : Hid (Below w.heap.size w (w.alloc (.cells #[.int .i64 7, .int .u64 (nd : Int), .int .u64 (sp : Int), .int .i64 wh, .string nm, .string vl, .int .i64 tk, .string tn, .slice aa al ac, .string tt, .slice ka kl kc] 37))) := below_new' w _
 clear hst HP0 htr hd
 go_enter Tryz.func13, Tryz.ntmps13
 go_wp2_with fail
 refine hcal.mono ?_
 rintro e w1 ⟨rfl, ht, ro', hp', hn'⟩
 have HD : Hid (Turn (fun b => ro b ≠ 0) w w1) := ((Turn.refl _ _).then HB0.out (Nat.le_refl _)).trans ht
 have HN : Hid (∀ b, ro' b ≠ 0 -> ro b ≠ 0 \/ w.heap.size <= b) := fun b hb => (hn' b hb).imp id (fun h => Nat.le_trans HB0.out.size h)
 clear hcal ht hn'
 go_wp2
 go_ret2
 exact ⟨⟨_, rfl⟩, HD.out, ro', hp', HN.out⟩
theorem pdo_no (w : World) (ro : Nat -> Nat) (db : Nat) (D : Dc) (k : Int) (nd sp : Nat) (wh : Int) (nm vl : ByteArray) (tk : Int) (tn : ByteArray) (aa : Option Addr) (al ac : Nat) (tt : ByteArray) (ka : Option Addr) (kl kc lev : Nat) (tr : T lev) (lo hi : Nat) (hd : PDoc w ro db D) (hw : WF D) (htr : TreeAt w lo hi lev #[.int .i64 tk, .string tn, .slice aa al ac, .string tt, .slice ka kl kc] tr) (hhi : hi <= w.heap.size) (hro : ∀ b, ro b ≠ 0 -> ¬ (lo <= b /\ b < hi)) (hn : nd < 18446744073709551616) (hs : sp < 18446744073709551616) (hk1 : k ≠ 1) (hk2 : k ≠ 2) (hk3 : k ≠ 3) (hk4 : k ≠ 4) (hk5 : k ≠ 5) (hk6 : k ≠ 6) (hk7 : k ≠ 7):
  Calls Tryz.prog 13 #[.pointer (some ⟨db, 0, none⟩), .agg (opv k nd sp wh nm vl tk tn aa al ac tt ka kl kc)] w (DopP w ro db (stepD D ⟨k, nd, sp, wh, nm, vl, lev, tr⟩).1 (stepD D ⟨k, nd, sp, wh, nm, vl, lev, tr⟩).2) := by
 unfold opv
 have HP0 : Hid (PDoc (w.alloc (.cells (opv k nd sp wh nm vl tk tn aa al ac tt ka kl kc) 37)) ro db D) := hd.turn (A := fun _ => False) ((Turn.refl _ _).alloc _) (fun _ _ h => h)
 have y1 : (k == 1) = false := by simpa using hk1
 have y2 : (k == 2) = false := by simpa using hk2
 have y3 : (k == 3) = false := by simpa using hk3
 have y4 : (k == 4) = false := by simpa using hk4
 have y5 : (k == 5) = false := by simpa using hk5
 have y6 : (k == 6) = false := by simpa using hk6
 have y7 : (k == 7) = false := by simpa using hk7
 have hst : stepD D ⟨k, nd, sp, wh, nm, vl, lev, tr⟩ = (D, 180) := by simp [stepD, hk1, hk2, hk3, hk4, hk5, hk6, hk7]
 rw [hst]
 unfold opv at HP0
 clear hst htr hd hk1 hk2 hk3 hk4 hk5 hk6 hk7
 go_enter Tryz.func13, Tryz.ntmps13
 go_wp2
 go_ret2
 exact ⟨⟨0, rfl⟩, (Turn.refl _ _).alloc _, ro, HP0.out, fun b hb => .inl hb⟩
theorem do_any (w : World) (ro : Nat -> Nat) (db : Nat) (D : Dc) (x : OpP) (tk : Int) (tn : ByteArray) (aa : Option Addr) (al ac : Nat) (tt : ByteArray) (ka : Option Addr) (kl kc lo hi : Nat) (hd : PDoc w ro db D) (hw : WF D) (htr : TreeAt w lo hi x.lev #[.int .i64 tk, .string tn, .slice aa al ac, .string tt, .slice ka kl kc] x.tree) (hhi : hi <= w.heap.size) (hro : ∀ b, ro b ≠ 0 -> ¬ (lo <= b /\ b < hi)) (hn : x.node < 18446744073709551616) (hs : x.spot < 18446744073709551616) :
  Calls Tryz.prog 13 #[.pointer (some ⟨db, 0, none⟩), .agg (opv x.kind x.node x.spot x.wh x.name x.value tk tn aa al ac tt ka kl kc)] w (DopP w ro db (stepD D x).1 (stepD D x).2) := by
 obtain ⟨k, nd, sp, wh, nm, vl, lev, tr⟩ := x
 by_cases h1 : k = 1
 ·subst h1; exact pdo_1 w ro db D nd sp wh nm vl tk tn aa al ac tt ka kl kc lev tr lo hi hd hw htr hhi hro hn hs
 by_cases h2 : k = 2
 ·subst h2; exact pdo_2 w ro db D nd sp wh nm vl tk tn aa al ac tt ka kl kc lev tr lo hi hd hw htr hhi hro hn hs
 by_cases h3 : k = 3
 ·subst h3; exact pdo_3 w ro db D nd sp wh nm vl tk tn aa al ac tt ka kl kc lev tr lo hi hd hw htr hhi hro hn hs
 by_cases h4 : k = 4
 ·subst h4; exact pdo_4 w ro db D nd sp wh nm vl tk tn aa al ac tt ka kl kc lev tr lo hi hd hw htr hhi hro hn hs
 by_cases h5 : k = 5
 ·subst h5; exact pdo_5 w ro db D nd sp wh nm vl tk tn aa al ac tt ka kl kc lev tr lo hi hd hw htr hhi hro hn hs
 by_cases h6 : k = 6
 ·subst h6; exact pdo_6 w ro db D nd sp wh nm vl tk tn aa al ac tt ka kl kc lev tr lo hi hd hw htr hhi hro hn hs
 by_cases h7 : k = 7
 ·subst h7; exact pdo_7 w ro db D nd sp wh nm vl tk tn aa al ac tt ka kl kc lev tr lo hi hd hw htr hhi hro hn hs
 exact pdo_no w ro db D k nd sp wh nm vl tk tn aa al ac tt ka kl kc lev tr lo hi hd hw htr hhi hro hn hs h1 h2 h3 h4 h5 h6 h7
end Go.Proofs.YtmapmkogjhinmaaGreat
