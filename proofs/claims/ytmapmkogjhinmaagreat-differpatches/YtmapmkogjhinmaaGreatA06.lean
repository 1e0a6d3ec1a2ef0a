/- Places: the program's isPlace, fits, findKind, canGive; the document's place, taken, Len. -/
import Derived.Test.YtmapmkogjhinmaaGreatA05
namespace Go.Proofs.YtmapmkogjhinmaaGreat
open Go.RowKit
set_option maxRecDepth 100000
set_option maxHeartbeats 1000000
set_option linter.unusedVariables false
set_option linter.unusedSimpArgs false
attribute [local go_sem] Bel.cell Bel.fz
def isPlaceB (wh : Int) (a : Nat) : Bool := decide (wh = 1 \/ wh = 2 \/ ((wh = 3 \/ wh = 4) /\ a ≠ 0))
theorem isPlace_any (w : World) (wh : Int) (a : Nat) : Calls Tryz.prog 40 #[.int .i64 wh, .int .u64 (a : Int)] w fun e w' => e = .returned (.bool (isPlaceB wh a)) /\ w' = w := by
 by_cases h1 : wh = 1
 ·subst h1
  go_enter Tryz.func40, Tryz.ntmps40
  go_wp2
  go_ret
  exact ⟨rfl, rfl⟩
 ·by_cases h2 : wh = 2
  ·subst h2
   go_enter Tryz.func40, Tryz.ntmps40
   go_wp2
   go_ret
   exact ⟨rfl, rfl⟩
  ·by_cases h3 : wh = 3
   ·subst h3
    go_enter Tryz.func40, Tryz.ntmps40
    go_wp2
    go_ret
    refine ⟨congrArg _ (v_bool (Bool.eq_iff_iff.2 ?_)), rfl⟩
    simp [isPlaceB]
    try omega
   ·by_cases h4 : wh = 4
    ·subst h4
     go_enter Tryz.func40, Tryz.ntmps40
     go_wp2
     go_ret
     refine ⟨congrArg _ (v_bool (Bool.eq_iff_iff.2 ?_)), rfl⟩
     simp [isPlaceB]
     try omega
    ·have e1 : isPlaceB wh a = false := by simp [isPlaceB, h1, h2, h3, h4]
     rw [e1]
     have b1 : (wh == 1) = false := beq_eq_false_iff_ne.2 h1
     have b2 : (wh == 2) = false := beq_eq_false_iff_ne.2 h2
     have b3 : (wh == 3) = false := beq_eq_false_iff_ne.2 h3
     have b4 : (wh == 4) = false := beq_eq_false_iff_ne.2 h4
     clear h1 h2 h3 h4 e1
     go_enter Tryz.func40, Tryz.ntmps40
     go_wp2
     go_ret
     exact ⟨rfl, rfl⟩
def fitsE (D : Dc) (p ht : Nat) : Int := if (∃ s, sl D p = some s /\ s.kind = 2) then 31 else if 64 < (ups D p).length + ht then 32 else 0
theorem fits_any (w : World) (R : Nat -> Prop) (db : Nat) (D : Dc) (p ht : Nat) (hv : View w R db D) (hw : WF D) (hp : p = 0 \/ ∃ s, sl D p = some s) (hht : ht <= 4096) (z : Int) (hz : fitsE D p ht = z) :
  Calls Tryz.prog 44 #[.pointer (some ⟨db, 0, none⟩), .int .u64 (p : Int), .int .i64 (ht : Int)] w fun e w' => e = .returned (.int .i64 z) /\ Below w.heap.size w w' := by
 obtain ⟨lv, hlv⟩ := hw.lev
 have hul : (ups D p).length <= 64 := by rw [ups_length hlv hp]; exact dep_le hlv hp
 have hdp := fun W (hb : Below w.heap.size w W) => depth_any W R db D p (hv.below hb) hw hp
 have HDP : Hid (∀ W, Below w.heap.size w W -> Calls Tryz.prog 80 #[.pointer (some ⟨db, 0, none⟩), .int .u64 (p : Int)] W fun e w' => e = .returned (.int .i64 ((ups D p).length : Int)) /\ Below W.heap.size W w') := hdp
 have hpl := hw.ltz hp
 clear hdp hlv
 cases hs : sl D p with
 | none =>
  have hfi := find_none w R db D p hv hw.fits hpl (sl_none hs)
  have hz' : (if 64 < (ups D p).length + ht then (32 : Int) else 0) = z := by
   have hn : ¬ (∃ s, sl D p = some s /\ s.kind = 2) := by
    rintro ⟨s, h, _⟩
    rw [hs] at h
    cases h
   rw [<- hz, fitsE, if_neg hn]
  generalize (ups D p).length = u at *
  clear hv hw hp hz hs
  by_cases hc : 64 < u + ht
  ·rw [if_pos hc] at hz'
   have HZ : Hid (32 = z) := hz'
   clear hz'
   go_enter Tryz.func44, Tryz.ntmps44
   go_wp2_with fail
   refine hfi.mono ?_
   rintro e w1 ⟨rfl, hb1⟩
   have HB1 : Hid (Below w.heap.size w w1) := hb1
   clear hb1 hfi
   go_wp2_with fail
   refine (HDP.out w1 HB1.out).mono ?_
   rintro e w2 ⟨rfl, hb2⟩
   have HB2 : Hid (Below w.heap.size w w2) := HB1.out.trans (hb2.mono HB1.out.size)
   clear hb2
   go_wp2
   go_ret
   exact ⟨congrArg _ (v_int HZ.out), HB2.out⟩
  ·rw [if_neg hc] at hz'
   have HZ : Hid (0 = z) := hz'
   clear hz'
   go_enter Tryz.func44, Tryz.ntmps44
   go_wp2_with fail
   refine hfi.mono ?_
   rintro e w1 ⟨rfl, hb1⟩
   have HB1 : Hid (Below w.heap.size w w1) := hb1
   clear hb1 hfi
   go_wp2_with fail
   refine (HDP.out w1 HB1.out).mono ?_
   rintro e w2 ⟨rfl, hb2⟩
   have HB2 : Hid (Below w.heap.size w w2) := HB1.out.trans (hb2.mono HB1.out.size)
   clear hb2
   go_wp2
   go_ret
   exact ⟨congrArg _ (v_int HZ.out), HB2.out⟩
 | some s =>
  obtain ⟨i, ha, hsi, -⟩ := sl_live hs
  obtain ⟨b, o, cap, aa, ac, ka, kc, h1, hcl, hbR, c0, c1, c2, -⟩ := hv.slot hsi
  have hfi := find_some w R db D p i hv hw.fits hpl ha b o cap h1
  have hbl := hv.lt b hbR
  by_cases k2 : s.kind = 2
  ·have hz' : z = 31 := by rw [<- hz, fitsE, if_pos ⟨s, hs, k2⟩]
   rw [k2] at c2
   clear hv hw hp hz hs ha hsi k2 HDP
   go_enter Tryz.func44, Tryz.ntmps44
   go_wp2_with fail
   refine hfi.mono ?_
   rintro e w1 ⟨rfl, hb1⟩
   obtain ⟨hcc, -⟩ := bcell hb1
   have HB1 : Hid (Below w.heap.size w w1) := hb1
   clear hb1 hfi
   go_wp2
   go_ret
   exact ⟨congrArg _ (v_int hz'.symm), HB1.out⟩
  ·have hz' : (if 64 < (ups D p).length + ht then (32 : Int) else 0) = z := by
    have hn : ¬ (∃ s, sl D p = some s /\ s.kind = 2) := by
     rintro ⟨s', h, h2⟩
     rw [hs] at h
     cases h
     exact k2 h2
    rw [<- hz, fitsE, if_neg hn]
   have hkb : (s.kind == 2) = false := beq_eq_false_iff_ne.2 k2
   generalize (ups D p).length = u at *
   clear hv hw hp hz hs ha hsi k2
   by_cases hc : 64 < u + ht
   ·rw [if_pos hc] at hz'
    have HZ : Hid (32 = z) := hz'
    clear hz'
    go_enter Tryz.func44, Tryz.ntmps44
    go_wp2_with fail
    refine hfi.mono ?_
    rintro e w1 ⟨rfl, hb1⟩
    obtain ⟨hcc, -⟩ := bcell hb1
    have HB1 : Hid (Below w.heap.size w w1) := hb1
    clear hb1 hfi
    go_wp2_with fail
    refine (HDP.out w1 HB1.out).mono ?_
    rintro e w2 ⟨rfl, hb2⟩
    have HB2 : Hid (Below w.heap.size w w2) := HB1.out.trans (hb2.mono HB1.out.size)
    clear hb2
    go_wp2
    go_ret
    exact ⟨congrArg _ (v_int HZ.out), HB2.out⟩
   ·rw [if_neg hc] at hz'
    have HZ : Hid (0 = z) := hz'
    clear hz'
    go_enter Tryz.func44, Tryz.ntmps44
    go_wp2_with fail
    refine hfi.mono ?_
    rintro e w1 ⟨rfl, hb1⟩
    obtain ⟨hcc, -⟩ := bcell hb1
    have HB1 : Hid (Below w.heap.size w w1) := hb1
    clear hb1 hfi
    go_wp2_with fail
    refine (HDP.out w1 HB1.out).mono ?_
    rintro e w2 ⟨rfl, hb2⟩
    have HB2 : Hid (Below w.heap.size w w2) := HB1.out.trans (hb2.mono HB1.out.size)
    clear hb2
    go_wp2
    go_ret
    exact ⟨congrArg _ (v_int HZ.out), HB2.out⟩
theorem findKind_none (w : World) (R : Nat -> Prop) (db : Nat) (D : Dc) (h : Nat) (k : Int) (hv : View w R db D) (hf : Fits D) (hh : h < 18446744073709551616) (ha : atI D.S h = none) :
  Calls Tryz.prog 54 #[.pointer (some ⟨db, 0, none⟩), .int .u64 (h : Int), .int .i64 k] w fun e w' => e = .returned (.tuple #[.pointer none, .int .i64 8]) /\ Below w.heap.size w w' := by
 have hfi := find_none w R db D h hv hf hh ha
 clear hv ha
 go_enter Tryz.func54, Tryz.ntmps54
 go_wp2_with fail
 refine hfi.mono ?_
 rintro e w1 ⟨rfl, hb1⟩
 go_wp2
 go_ret2
 exact ⟨rfl, hb1⟩
theorem findKind_some (w : World) (R : Nat -> Prop) (db : Nat) (D : Dc) (h i : Nat) (s : Sl) (k : Int) (hv : View w R db D) (hf : Fits D) (hh : h < 18446744073709551616) (ha : atI D.S h = some i) (hs : D.S[i]? = some s) (b o cap : Nat) (hc : w.cell? ⟨db, 0, none⟩ = some (.slice (some ⟨b, o, none⟩) D.S.length cap)) :
  Calls Tryz.prog 54 #[.pointer (some ⟨db, 0, none⟩), .int .u64 (h : Int), .int .i64 k] w fun e w' => e = .returned (.tuple (if s.kind = k then #[.pointer (some ⟨b, o + i * 8, none⟩), .int .i64 0] else #[.pointer none, .int .i64 30])) /\ Below w.heap.size w w' := by
 have hfi := find_some w R db D h i hv hf hh ha b o cap hc
 obtain ⟨b', o', cap', aa, ac, ka, kc, h1, hcl, hbR, c0, c1, c2, -⟩ := hv.slot hs
 rw [hc] at h1
 simp only [Option.some.injEq, Value.slice.injEq, Addr.mk.injEq, and_true, true_and] at h1
 obtain ⟨⟨rfl, rfl⟩, rfl⟩ := h1
 have hbl := hv.lt b hbR
 clear hv ha hs
 by_cases hk : s.kind = k
 ·rw [if_pos hk]
  have hb : (s.kind == k) = true := beq_iff_eq.2 hk
  clear hk
  go_enter Tryz.func54, Tryz.ntmps54
  go_wp2_with fail
  refine hfi.mono ?_
  rintro e w1 ⟨rfl, hb1⟩
  obtain ⟨hcc, -⟩ := bcell hb1
  have HB1 : Hid (Below w.heap.size w w1) := hb1
  clear hb1 hfi
  go_wp2
  go_ret2
  exact ⟨rfl, HB1.out⟩
 ·rw [if_neg hk]
  have hb : (s.kind == k) = false := beq_eq_false_iff_ne.2 hk
  clear hk
  go_enter Tryz.func54, Tryz.ntmps54
  go_wp2_with fail
  refine hfi.mono ?_
  rintro e w1 ⟨rfl, hb1⟩
  obtain ⟨hcc, -⟩ := bcell hb1
  have HB1 : Hid (Below w.heap.size w w1) := hb1
  clear hb1 hfi
  go_wp2
  go_ret2
  exact ⟨rfl, HB1.out⟩
theorem canGive_any (w : World) (g : Nat) (lv : Bool) (k : Int) (nm : ByteArray) (av : Value) (tx : ByteArray) (p : Nat) (kv : Value) :
  Calls Tryz.prog 81 #[.agg #[.int .u32 (g : Int), .bool lv, .int .i64 k, .string nm, av, .string tx, .int .u64 (p : Int), kv]] w fun e w' => e = .returned (.bool (!lv && decide (g < 4294967295))) /\ Below w.heap.size w w' := by
 cases lv
 ·go_enter Tryz.func81, Tryz.ntmps81
  go_wp2
  go_ret
  refine ⟨congrArg _ (v_bool (Bool.eq_iff_iff.2 ?_)), below_new' w _⟩
  simp
  try omega
 ·go_enter Tryz.func81, Tryz.ntmps81
  go_wp2
  go_ret
  exact ⟨rfl, below_new' w _⟩
attribute [local go_sem] Bel.cell Bel.fz
def RplP (w : World) (p : Nat) (z : Int) (e : Ending) (w' : World) : Prop := e = .returned (.tuple #[.int .u64 (p : Int), .int .i64 z]) /\ Below w.heap.size w w'
theorem rplace_arg (w : World) (db : Nat) (wh : Int) (a : Nat) (h : isPlaceB wh a = false) : Calls Tryz.prog 62 #[.pointer (some ⟨db, 0, none⟩), .int .i64 wh, .int .u64 (a : Int)] w (RplP w 0 1) := by
 simp only [isPlaceB, decide_eq_false_iff_not] at h
 by_cases h1 : wh < 1
 ·clear h
  go_enter Tryz.func62, Tryz.ntmps62
  go_wp2
  go_ret2
  exact ⟨rfl, Below.refl _ _⟩
 ·have d1 : decide (wh < 1) = false := by simpa using h1
  by_cases h2 : 4 < wh
  ·clear h
   go_enter Tryz.func62, Tryz.ntmps62
   go_wp2
   go_ret2
   exact ⟨rfl, Below.refl _ _⟩
  ·have d2 : decide (4 < wh) = false := by simpa using h2
   have ha : a = 0 := by
    apply Decidable.byContradiction
    intro ha
    apply h
    omega
   have h3 : 2 < wh := by
    apply Decidable.byContradiction
    intro h3
    apply h
    omega
   subst ha
   clear h
   go_enter Tryz.func62, Tryz.ntmps62
   go_wp2
   go_ret2
   exact ⟨rfl, Below.refl _ _⟩
theorem rplace_node (w : World) (R : Nat -> Prop) (db : Nat) (D : Dc) (wh : Int) (a : Nat) (hv : View w R db D) (hf : Fits D) (hh : a < 18446744073709551616) (h : isPlaceB wh a = true) (h0 : a ≠ 0) (ha : atI D.S a = none) :
  Calls Tryz.prog 62 #[.pointer (some ⟨db, 0, none⟩), .int .i64 wh, .int .u64 (a : Int)] w (RplP w 0 8) := by
 simp only [isPlaceB, decide_eq_true_eq] at h
 have d1 : decide (wh < 1) = false := by simp; omega
 have d2 : decide (4 < wh) = false := by simp; omega
 have d3 : ((a : Int) == 0) = false := by simp; omega
 have d4 : ((a : Int) != 0) = true := by simp; omega
 have hlv := rlive_any w R db D a hv hf hh
 rw [ha] at hlv
 clear hv h0 ha h
 go_enter Tryz.func62, Tryz.ntmps62
 go_wp2_with fail
 refine hlv.mono ?_
 rintro e w1 ⟨rfl, rfl⟩
 go_wp2
 go_ret2
 exact ⟨rfl, Below.refl _ _⟩
theorem rplace_zero (w : World) (db : Nat) (wh : Int) (h : wh = 1 \/ wh = 2) :
  Calls Tryz.prog 62 #[.pointer (some ⟨db, 0, none⟩), .int .i64 wh, .int .u64 0] w (RplP w 0 0) := by
 have d1 : decide (wh < 1) = false := by simp; omega
 have d2 : decide (4 < wh) = false := by simp; omega
 have d3 : decide (2 < wh) = false := by simp; omega
 have d4 : decide (wh <= 2) = true := by simp; omega
 have d5 : wh <= 2 := by omega
 clear h
 go_enter Tryz.func62, Tryz.ntmps62
 go_wp2
 refine wp_region_bel (by kernel_rfl) (by kernel_rfl) ?_
 intro hne
 repeat go_big_quiet_step (fail)
 refine wpQuiet_nil ?_
 rintro _ ⟨u, rfl⟩
 go_wp2
 go_ret2
 exact ⟨rfl, u.h⟩
theorem rplace_some (w : World) (R : Nat -> Prop) (db : Nat) (D : Dc) (wh : Int) (a : Nat) (s : Sl) (hv : View w R db D) (hw : WF D) (h : wh = 1 \/ wh = 2 \/ wh = 3 \/ wh = 4) (hs : sl D a = some s) (p : Nat) (z : Int) (hpz : (if wh <= 2 then (if s.kind = 2 then (0, 31) else (a, 0)) else (s.parent, 0)) = ((p, z) : Nat × Int)) :
  Calls Tryz.prog 62 #[.pointer (some ⟨db, 0, none⟩), .int .i64 wh, .int .u64 (a : Int)] w (RplP w p z) := by
 obtain ⟨hal, ha0, i, hai, hsi, -⟩ := hw.lt hs
 have d1 : decide (wh < 1) = false := by simp; omega
 have d2 : decide (4 < wh) = false := by simp; omega
 have d3 : ((a : Int) == 0) = false := by simp; omega
 have d4 : ((a : Int) != 0) = true := by simp; omega
 have hlv := rlive_any w R db D a hv hw.fits hal
 rw [hai] at hlv
 have hat := fun W (hb : Below w.heap.size w W) => rat_any W R db D a (hv.below hb) hw.fits hal
 rw [atR_some hai] at hat
 obtain ⟨b, o, cap, aa, ac, ka, kc, h1, hcl, hbR, c0, c1, c2, c3, c4, c5, c6, c7, -⟩ := hv.slot hsi
 have hbl := hv.lt b hbR
 have hdl := hv.lt db hv.docs
 have hi1 : (i : Int) < ((D.S.length : Nat) : Int) := by have := (List.getElem?_eq_some_iff.1 hsi).1; omega
 have hl4 := hw.fits.len
 clear hv hw hs hai hsi
 by_cases hw2 : wh <= 2
 ·rw [if_pos hw2] at hpz
  by_cases hk : s.kind = 2
  ·rw [if_pos hk] at hpz
   cases hpz
   have hkb : (s.kind == 2) = true := beq_iff_eq.2 hk
   clear hk
   go_enter Tryz.func62, Tryz.ntmps62
   go_wp2_with fail
   refine hlv.mono ?_
   rintro e w1 ⟨rfl, rfl⟩
   go_wp2
   refine wp_region_bel (by kernel_rfl) (by kernel_rfl) ?_
   intro hne
   repeat go_big_quiet_step ((go_at_call 72; exact Calls.bel_of_same (hat _ (Bel.h _))))
   refine wpQuiet_nil ?_
   rintro _ ⟨u, rfl⟩
   go_wp2
   go_ret2
   exact ⟨rfl, u.h⟩
  ·rw [if_neg hk] at hpz
   cases hpz
   have hkb : (s.kind == 2) = false := beq_eq_false_iff_ne.2 hk
   clear hk
   go_enter Tryz.func62, Tryz.ntmps62
   go_wp2_with fail
   refine hlv.mono ?_
   rintro e w1 ⟨rfl, rfl⟩
   go_wp2
   refine wp_region_bel (by kernel_rfl) (by kernel_rfl) ?_
   intro hne
   repeat go_big_quiet_step ((go_at_call 72; exact Calls.bel_of_same (hat _ (Bel.h _))))
   refine wpQuiet_nil ?_
   rintro _ ⟨u, rfl⟩
   go_wp2
   go_ret2
   exact ⟨rfl, u.h⟩
 ·rw [if_neg hw2] at hpz
  cases hpz
  go_enter Tryz.func62, Tryz.ntmps62
  go_wp2_with fail
  refine hlv.mono ?_
  rintro e w1 ⟨rfl, rfl⟩
  go_wp2
  refine wp_region_bel (by kernel_rfl) (by kernel_rfl) ?_
  intro hne
  repeat go_big_quiet_step ((go_at_call 72; exact Calls.bel_of_same (hat _ (Bel.h _))))
  refine wpQuiet_nil ?_
  rintro _ ⟨u, rfl⟩
  go_wp2
  go_ret2
  exact ⟨rfl, u.h⟩
def cnt (f : Sl -> Bool) (S : List Sl) : Nat := (S.filter f).length
theorem cnt_snoc (f : Sl -> Bool) {S : List Sl} {i : Nat} {s : Sl} (h : S[i]? = some s) : cnt f (S.take (i + 1)) = cnt f (S.take i) + if f s then 1 else 0 := by
 unfold cnt
 rw [take_more h, List.filter_append, List.length_append]
 cases hf : f s <;> simp [hf]
theorem cnt_le (f : Sl -> Bool) (S : List Sl) : cnt f S <= S.length := List.length_filter_le _ _
def takenB (s : Sl) : Bool := s.live || decide (s.gen = 4294967295)
theorem rtaken_any (w : World) (R : Nat -> Prop) (db : Nat) (D : Dc) (hv : View w R db D) (hf : Fits D) :
  Calls Tryz.prog 65 #[.pointer (some ⟨db, 0, none⟩)] w fun e w' => e = .returned (.int .i64 (cnt takenB D.S : Int)) /\ w' = w := by
 have hl := hf.len
 obtain ⟨a, cap, h1, hcl, -⟩ := hv.head
 have HV : Hid (View w R db D) := hv
 have HF : Hid (Fits D) := hf
 clear hv hf
 go_enter Tryz.func65, Tryz.ntmps65
 go_wp2
 go_loop [3, 4] (fun q iv => ∃ (i x : Nat), i <= D.S.length /\ iv = .int .i64 (i : Int) /\ q = .int .i64 (x : Int) /\ x <= 4096 /\ Hid (cnt takenB (D.S.take i) = x)) (fun _ iv => D.S.length - (intOf iv).toNat)
 case atStart => exact ⟨0, 0, by omega, rfl, rfl, by omega, rfl⟩
 case round =>
  obtain ⟨i, x, hi, rfl, rfl, hx, hc⟩ := hrel
  by_cases hlt : i < D.S.length
  ·obtain ⟨s, hs⟩ : ∃ s, D.S[i]? = some s := ⟨_, List.getElem?_eq_getElem hlt⟩
   obtain ⟨b, o, cap', aa, ac, ka, kc, h1', -, hbR, c0, c1, -⟩ := HV.out.slot hs
   rw [h1] at h1'
   simp only [Option.some.injEq, Value.slice.injEq, true_and] at h1'
   obtain ⟨rfl, rfl⟩ := h1'
   have hsn := cnt_snoc takenB hs
   rw [hc.out] at hsn
   have hle := cnt_le takenB (D.S.take (i + 1))
   have htl : (D.S.take (i + 1)).length <= 4096 := by rw [List.length_take]; omega
   have hg := HF.out.gen i s hs
   cases hlv : s.live
   ·rw [hlv] at c1
    by_cases hgw : s.gen = 4294967295
    ·have HC : Hid (cnt takenB (D.S.take (i + 1)) = x + 1) := by show _ = _; simpa [takenB, hgw] using hsn
     have hx1 : x + 1 <= 4096 := by have := HC.out; omega
     have hb : ((s.gen : Int) == 4294967295) = true := by rw [hgw]; rfl
     clear hsn hs hc hlv hle hgw
     go_wp2
     go_round
     case rel => exact ⟨i + 1, x + 1, by omega, by go_num, by go_num, hx1, HC⟩
     case measure => simp [intOf]; omega
    ·have HC : Hid (cnt takenB (D.S.take (i + 1)) = x) := by show _ = _; simpa [takenB, hgw, hlv] using hsn
     have hb : ((s.gen : Int) == 4294967295) = false := by simp; omega
     clear hsn hs hc hlv hle hgw
     go_wp2
     go_round
     case rel => exact ⟨i + 1, x, by omega, by go_num, rfl, hx, HC⟩
     case measure => simp [intOf]; omega
   ·rw [hlv] at c1
    have HC : Hid (cnt takenB (D.S.take (i + 1)) = x + 1) := by show _ = _; simpa [takenB, hlv] using hsn
    have hx1 : x + 1 <= 4096 := by have := HC.out; omega
    clear hsn hs hc hlv hle
    go_wp2
    go_round
    case rel => exact ⟨i + 1, x + 1, by omega, by go_num, by go_num, hx1, HC⟩
    case measure => simp [intOf]; omega
  ·have hfin : cnt takenB D.S = x := by rw [<- hc.out, List.take_of_length_le (by omega)]
   have HF2 : Hid (cnt takenB D.S = x) := hfin
   clear hfin hc
   go_wp2
   go_ret
   exact ⟨congrArg _ (v_int (by rw [HF2.out])), rfl⟩
theorem list_of {α : Type} : ∀ (len : Nat) (p : Nat -> α -> Prop), (∀ i, i < len -> ∃ k, p i k) -> ∃ L : List α, L.length = len /\ ∀ i k, L[i]? = some k -> p i k
 | 0, p, h => ⟨[], rfl, fun i k hk => by simp at hk⟩
 | len + 1, p, h => by
  obtain ⟨L, hl, hL⟩ := list_of len p (fun i hi => h i (by omega))
  obtain ⟨x, hx⟩ := h len (by omega)
  refine ⟨L ++ [x], by simp [hl], fun i k hk => ?_⟩
  rcases Nat.lt_or_ge i len with hi | hi
  ·rw [List.getElem?_append_left (by omega)] at hk
   exact hL i k hk
  ·have : i = len := by
    have := (List.getElem?_eq_some_iff.1 hk).1
    simp at this
    omega
   subst this
   rw [List.getElem?_append_right (by omega), hl] at hk
   simp at hk
   subst hk
   exact hx
def slotCells (s : Sl) (p : Value × Value) : List Value := [.int .u32 (s.gen : Int), .bool s.live, .int .i64 s.kind, .string s.name, p.1, .string s.text, .int .u64 (s.parent : Int), p.2]
def rowOf (S : List Sl) (L : List (Value × Value)) : List Value := (S.zip L).flatMap fun x => slotCells x.1 x.2
theorem flat8_get {α : Type} (f : α -> List Value) (hf : ∀ x, (f x).length = 8) : ∀ (l : List α) (i j : Nat), j < 8 -> (l.flatMap f)[i * 8 + j]? = (l[i]?).bind fun x => (f x)[j]?
 | [], i, j, _ => by simp
 | a :: r, 0, j, hj => by
  rw [List.flatMap_cons, List.getElem?_append_left (by rw [hf]; omega)]
  simp
 | a :: r, i + 1, j, hj => by
  rw [List.flatMap_cons, List.getElem?_append_right (by rw [hf]; omega), hf]
  rw [show (i + 1) * 8 + j - 8 = i * 8 + j from by omega, flat8_get f hf r i j hj]
  simp
theorem flat8_len {α : Type} (f : α -> List Value) (hf : ∀ x, (f x).length = 8) : ∀ (l : List α), (l.flatMap f).length = l.length * 8
 | [] => rfl
 | a :: r => by
  rw [List.flatMap_cons, List.length_append, hf, flat8_len f hf r, List.length_cons]
  omega
theorem zip_get {S : List Sl} {L : List (Value × Value)} {i : Nat} {s : Sl} {p : Value × Value} (h1 : S[i]? = some s) (h2 : L[i]? = some p) : (S.zip L)[i]? = some (s, p) := by
 rw [List.getElem?_zip_eq_some]
 exact ⟨h1, h2⟩
theorem rowOf_len {S : List Sl} {L : List (Value × Value)} (h : L.length = S.length) : (rowOf S L).length = S.length * 8 := by
 unfold rowOf
 rw [flat8_len _ (fun x => rfl), List.length_zip, h, Nat.min_self]
theorem rowOf_get {S : List Sl} {L : List (Value × Value)} {i j : Nat} {s : Sl} {p : Value × Value} (h1 : S[i]? = some s) (h2 : L[i]? = some p) (hj : j < 8) : (rowOf S L)[i * 8 + j]? = (slotCells s p)[j]? := by
 unfold rowOf
 rw [flat8_get _ (fun x => rfl) _ i j hj, zip_get h1 h2]
 rfl
theorem rowOf_set {S : List Sl} {L : List (Value × Value)} (h : L.length = S.length) {i j : Nat} {s s' : Sl} {p p' : Value × Value} (h1 : S[i]? = some s) (h2 : L[i]? = some p) (hj : j < 8) {u : Value} (hs : slotCells s' p' = (slotCells s p).set j u) :
  rowOf (S.set i s') (L.set i p') = (rowOf S L).set (i * 8 + j) u := by
 have hi := (List.getElem?_eq_some_iff.1 h1).1
 apply List.ext_getElem?
 intro m
 rcases Nat.lt_or_ge m (S.length * 8) with hm | hm
 ·have em : m = m / 8 * 8 + m % 8 := by omega
  have hm8 : m % 8 < 8 := Nat.mod_lt _ (by omega)
  obtain ⟨sm, hsm⟩ : ∃ x, (S.set i s')[m / 8]? = some x := ⟨_, List.getElem?_eq_getElem (by simp; omega)⟩
  obtain ⟨pm, hpm⟩ : ∃ x, (L.set i p')[m / 8]? = some x := ⟨_, List.getElem?_eq_getElem (by simp; omega)⟩
  rw [em, rowOf_get hsm hpm hm8]
  by_cases hq : m / 8 = i
  ·rw [hq, List.getElem?_set_self hi] at hsm
   rw [hq, List.getElem?_set_self (by omega)] at hpm
   cases hsm
   cases hpm
   rw [hs, hq]
   by_cases hr : m % 8 = j
   ·rw [hr, List.getElem?_set_self (by show j < 8; exact hj), List.getElem?_set_self (by rw [rowOf_len h]; omega)]
   ·rw [List.getElem?_set_ne (by omega), List.getElem?_set_ne (by omega), rowOf_get h1 h2 hm8]
  ·rw [List.getElem?_set_ne (by omega)] at hsm hpm
   rw [List.getElem?_set_ne (by omega), rowOf_get hsm hpm hm8]
 ·rw [List.getElem?_eq_none (by rw [rowOf_len (by simp [h])]; simp; omega), List.getElem?_eq_none (by simp; rw [rowOf_len h]; omega)]
def SlotVals (w : World) (R : Nat -> Prop) (s : Sl) (p : Value × Value) : Prop :=
 ∃ (aa : Option Addr) (ac : Nat) (ka : Option Addr) (kc : Nat), p = (.slice aa s.attrs.length ac, .slice ka s.kids.length kc) /\ s.attrs.length <= ac /\ s.kids.length <= kc /\ AttrsR w R aa s.attrs /\ HandsAt w R ka s.kids
theorem SlotVals.to {w w' : World} {R R' : Nat -> Prop} {s : Sl} {p : Value × Value} (h : SlotVals w R s p) (hR : ∀ b, R b -> R' b) (hc : ∀ b o, R b -> w'.cell? ⟨b, o, none⟩ = w.cell? ⟨b, o, none⟩) : SlotVals w' R' s p := by
 obtain ⟨aa, ac, ka, kc, h1, h2, h3, h4, h5⟩ := h
 exact ⟨aa, ac, ka, kc, h1, h2, h3, h4.to hR hc, h5.to hR hc⟩
theorem rowOf_one {S : List Sl} {L : List (Value × Value)} (hv : ∀ (i : Nat) (s : Sl) (p : Value × Value), S[i]? = some s -> L[i]? = some p -> ∃ a n c a' n' c', p = (.slice a n c, .slice a' n' c')) : ∀ u ∈ rowOf S L, u.oneCell' = true := by
 intro u hu
 obtain ⟨x, hx, hu⟩ := List.mem_flatMap.1 hu
 obtain ⟨i, hi⟩ := List.getElem?_of_mem hx
 rw [List.getElem?_zip_eq_some] at hi
 obtain ⟨a, n, c, a', n', c', hp⟩ := hv i x.1 x.2 hi.1 hi.2
 unfold slotCells at hu
 rw [hp] at hu
 simp only [List.mem_cons, List.not_mem_nil, or_false] at hu
 rcases hu with rfl | rfl | rfl | rfl | rfl | rfl | rfl | rfl <;> rfl
theorem SlotsAt.row {w : World} {R : Nat -> Prop} {a : Option Addr} {S : List Sl} (h : SlotsAt w R a S) : ∃ L : List (Value × Value), L.length = S.length /\ (∀ (i : Nat) (s : Sl) (p : Value × Value), S[i]? = some s -> L[i]? = some p -> SlotVals w R s p) /\ ∀ j u, (rowOf S L)[j]? = some u -> ∃ ad, a = some ad /\ w.cell? (ad.add j) = some u := by
 obtain ⟨L, hl, hL⟩ := list_of S.length (fun i (p : Value × Value) => ∃ s b o, S[i]? = some s /\ a = some ⟨b, o, none⟩ /\ SlotVals w R s p /\ ∀ j u, (slotCells s p)[j]? = some u -> w.cell? ⟨b, o + (i * 8 + j), none⟩ = some u) (fun i hi => by
  obtain ⟨s, hs⟩ : ∃ s, S[i]? = some s := ⟨_, List.getElem?_eq_getElem hi⟩
  obtain ⟨b, o, h1, h2, aa, ac, ka, kc, c0, c1, c2, c3, c4, c5, c6, c7, l1, l2, h3, h4⟩ := h i s hs
  refine ⟨(.slice aa s.attrs.length ac, .slice ka s.kids.length kc), s, b, o, hs, h1, ⟨aa, ac, ka, kc, rfl, l1, l2, h3, h4⟩, fun j u hu => ?_⟩
  have hj := (List.getElem?_eq_some_iff.1 hu).1
  have hj8 : j < 8 := hj
  rw [<- Nat.add_assoc]
  match j, hj8 with
  | 0, _ => simp [slotCells] at hu; rw [<- hu]; exact c0
  | 1, _ => simp [slotCells] at hu; rw [<- hu]; exact c1
  | 2, _ => simp [slotCells] at hu; rw [<- hu]; exact c2
  | 3, _ => simp [slotCells] at hu; rw [<- hu]; exact c3
  | 4, _ => simp [slotCells] at hu; rw [<- hu]; exact c4
  | 5, _ => simp [slotCells] at hu; rw [<- hu]; exact c5
  | 6, _ => simp [slotCells] at hu; rw [<- hu]; exact c6
  | 7, _ => simp [slotCells] at hu; rw [<- hu]; exact c7)
 refine ⟨L, hl, fun i s p hs hp => ?_, fun j u hu => ?_⟩
 ·obtain ⟨s', b, o, e1, _, e2, _⟩ := hL i p hp
  rw [hs] at e1
  cases e1
  exact e2
 ·have hj := (List.getElem?_eq_some_iff.1 hu).1
  rw [rowOf_len hl] at hj
  have em : j = j / 8 * 8 + j % 8 := by omega
  obtain ⟨p, hp⟩ : ∃ p, L[j / 8]? = some p := ⟨_, List.getElem?_eq_getElem (by omega)⟩
  obtain ⟨s, b, o, e1, e2, _, e3⟩ := hL _ p hp
  rw [em, rowOf_get e1 hp (Nat.mod_lt _ (by omega))] at hu
  refine ⟨_, e2, ?_⟩
  rw [addr_plus, em]
  exact e3 _ u hu
theorem slots_row {w : World} {R : Nat -> Prop} {base : Nat} {e : TypeId} {a : Option Addr} {n cap : Nat} {S : List Sl} {L : List (Value × Value)} (hl : L.length = S.length) (hown : w.ownsRow base e 8 (.slice a n cap) n (rowOf S L)) (hv : ∀ (i : Nat) (s : Sl) (p : Value × Value), S[i]? = some s -> L[i]? = some p -> SlotVals w R s p)
  (hR : ∀ g, a = some ⟨g, 0, none⟩ -> base <= g -> g < w.heap.size -> R g) : SlotsAt w R a S /\ n = S.length /\ n <= cap := by
 obtain ⟨h1, h2, h3⟩ := row_cell hown
 rw [rowOf_len hl] at h2
 refine ⟨fun i s hs => ?_, by omega, h1⟩
 have hi := (List.getElem?_eq_some_iff.1 hs).1
 obtain ⟨p, hp⟩ : ∃ p, L[i]? = some p := ⟨_, List.getElem?_eq_getElem (by omega)⟩
 have hc : ∀ j u, (slotCells s p)[j]? = some u -> ∃ g, a = some ⟨g, 0, none⟩ /\ base <= g /\ g < w.heap.size /\ w.cell? ⟨g, i * 8 + j, none⟩ = some u := fun j u hu => by
  have hj8 : j < 8 := (List.getElem?_eq_some_iff.1 hu).1
  exact h3 _ u (by rw [rowOf_get hs hp hj8]; exact hu)
 obtain ⟨g, rfl, hb, hlt, c0⟩ := hc 0 _ rfl
 have hg : ∀ j u, (slotCells s p)[j]? = some u -> w.cell? ⟨g, i * 8 + j, none⟩ = some u := fun j u hu => by
  obtain ⟨g', e1, _, _, e2⟩ := hc j u hu
  cases e1
  exact e2
 obtain ⟨aa, ac, ka, kc, rfl, l1, l2, v1, v2⟩ := hv i s p hs hp
 refine ⟨g, 0, rfl, hR g rfl hb hlt, aa, ac, ka, kc, ?_⟩
 rw [Nat.zero_add]
 exact ⟨hg 0 _ rfl, hg 1 _ rfl, hg 2 _ rfl, hg 3 _ rfl, hg 4 _ rfl, hg 5 _ rfl, hg 6 _ rfl, hg 7 _ rfl, l1, l2, v1, v2⟩
theorem own_set {w : World} {base : Nat} {e : TypeId} {size : Nat} {g n cap : Nat} {xs : List Value} (h : w.ownsRow base e size (.slice (some ⟨g, 0, none⟩) n cap) n xs) (j : Nat) (u : Value) : (w.setCell ⟨g, j, none⟩ u).ownsRow base e size (.slice (some ⟨g, 0, none⟩) n cap) n (xs.set j u) := by
 refine ⟨by rw [List.length_set]; exact h.1, ?_⟩
 rcases h.2 with ⟨e1, _⟩ | ⟨g', cap', cur, e1, hb, hh, h1, h2, h3, h4⟩
 ·cases e1
 ·simp only [Value.slice.injEq, Option.some.injEq, Addr.mk.injEq, and_true, true_and] at e1
  obtain ⟨rfl, rfl⟩ := e1
  refine .inr ⟨g, cap, cur.setIfInBounds j u, rfl, hb, ?_, h1, h2, by simpa using h3, ?_⟩
  ·simp [World.setCell, Array.getElem?_modify, hh]
  ·rw [Array.toList_setIfInBounds, List.take_set, h4]
theorem own_frozen {w : World} {base : Nat} {e : TypeId} {size : Nat} {g n cap : Nat} {xs : List Value} (h : w.ownsRow base e size (.slice (some ⟨g, 0, none⟩) n cap) n xs) (j : Nat) : w.frozen? ⟨g, j, none⟩ = false := by
 rcases h.2 with ⟨e1, _⟩ | ⟨g', cap', cur, e1, hb, hh, h1, h2, h3, h4⟩
 ·cases e1
 ·simp only [Value.slice.injEq, Option.some.injEq, Addr.mk.injEq, and_true, true_and] at e1
  obtain ⟨rfl, rfl⟩ := e1
  simp [World.frozen?, hh]
theorem info75 : InfoOf Tryz.prog 90 (.agg #[.int .u32 0, .bool false, .int .i64 0, .string ⟨#[]⟩, .slice none 0 0, .string ⟨#[]⟩, .int .u64 0, .slice none 0 0]) 8 104 := by unfold InfoOf; kernel_rfl
structure RDoc (w : World) (Q : Nat -> Prop) (rb : Nat) (D : Dc) : Prop where
 lt : ∀ b, Q b -> b < w.heap.size
 nrb : ¬ Q rb
 head : ∃ sa scap ra rcap, IsCells w rb #[.slice sa D.S.length scap, .slice ra D.roots.length rcap] /\ D.S.length <= scap /\ D.roots.length <= rcap /\ SlotsAt w Q sa D.S /\ HandsAt w Q ra D.roots
theorem RDoc.rbl {w : World} {Q : Nat -> Prop} {rb : Nat} {D : Dc} (h : RDoc w Q rb D) : rb < w.heap.size := by
 obtain ⟨_, _, _, _, h1, _⟩ := h.head
 exact h1.lt
theorem RDoc.view {w : World} {Q : Nat -> Prop} {rb : Nat} {D : Dc} (h : RDoc w Q rb D) : View w (fun b => Q b \/ b = rb) rb D := by
 obtain ⟨sa, scap, ra, rcap, h1, h2, h3, h4, h5⟩ := h.head
 refine ⟨.inr rfl, fun b hb => ?_, ⟨sa, scap, by rw [h1.cell]; rfl, h2, h4.to (fun _ h => .inl h) (fun _ _ _ => rfl)⟩, ⟨ra, rcap, by rw [h1.cell]; rfl, h3, h5.to (fun _ h => .inl h) (fun _ _ _ => rfl)⟩⟩
 rcases hb with hb | rfl
 ·exact h.lt b hb
 ·exact h1.lt
theorem RDoc.turn {w w' : World} {Q A : Nat -> Prop} {rb : Nat} {D : Dc} (h : RDoc w Q rb D) (ht : Turn A w w') (hA : ∀ b, Q b -> ¬ A b) (hr : ¬ A rb) : RDoc w' Q rb D := by
 obtain ⟨sa, scap, ra, rcap, h1, h2, h3, h4, h5⟩ := h.head
 have hc : ∀ b o, Q b -> w'.cell? ⟨b, o, none⟩ = w.cell? ⟨b, o, none⟩ := fun b o hb => World.cell?_of_block (w := w) (a := ⟨b, o, none⟩) (ht.block b (h.lt b hb) (hA b hb))
 exact ⟨fun b hb => Nat.lt_of_lt_of_le (h.lt b hb) ht.size, h.nrb, sa, scap, ra, rcap, h1.of_block (ht.block rb h1.lt hr), h2, h3, h4.to (fun _ h => h) hc, h5.to (fun _ h => h) hc⟩
theorem below_turn {w w' : World} (h : Below w.heap.size w w') : Turn (fun _ => False) w w' := ⟨h.os, h.tape, h.output, h.size, fun k hk _ => h.block k hk⟩
theorem RDoc.below {w w' : World} {Q : Nat -> Prop} {rb : Nat} {D : Dc} (h : RDoc w Q rb D) (hb : Below w.heap.size w w') : RDoc w' Q rb D := h.turn (below_turn hb) (fun _ _ h => h) (fun h => h)
structure RdS (w : World) (base : Nat) (Q : Nat -> Prop) (rb : Nat) (D : Dc) (g cap : Nat) (ra : Option Addr) (rcap : Nat) (L : List (Value × Value)) : Prop where
 head : IsCells w rb #[.slice (some ⟨g, 0, none⟩) D.S.length cap, .slice ra D.roots.length rcap]
 own : w.ownsRow base 90 8 (.slice (some ⟨g, 0, none⟩) D.S.length cap) D.S.length (rowOf D.S L)
 len : L.length = D.S.length
 vals : ∀ (i : Nat) (s : Sl) (p : Value × Value), D.S[i]? = some s -> L[i]? = some p -> SlotVals w Q s p
 roots : HandsAt w Q ra D.roots
 rlen : D.roots.length <= rcap
 qne : ∀ b, Q b -> b ≠ g /\ b < w.heap.size
 nrb : ¬ Q rb
 rbl : rb < base
theorem RdS.gb {w : World} {base : Nat} {Q : Nat -> Prop} {rb : Nat} {D : Dc} {g cap : Nat} {ra : Option Addr} {rcap : Nat} {L : List (Value × Value)} (h : RdS w base Q rb D g cap ra rcap L) : base <= g /\ g < w.heap.size := own_block_lt h.own g rfl
theorem RdS.bs {w : World} {base : Nat} {Q : Nat -> Prop} {rb : Nat} {D : Dc} {g cap : Nat} {ra : Option Addr} {rcap : Nat} {L : List (Value × Value)} (h : RdS w base Q rb D g cap ra rcap L) : base <= w.heap.size := by
 have := h.gb
 omega
theorem RdS.done {w : World} {base : Nat} {Q : Nat -> Prop} {rb : Nat} {D : Dc} {g cap : Nat} {ra : Option Addr} {rcap : Nat} {L : List (Value × Value)} (h : RdS w base Q rb D g cap ra rcap L) : RDoc w (fun b => Q b \/ (base <= b /\ b < w.heap.size)) rb D := by
 have hbs := h.bs
 have hrb := h.rbl
 obtain ⟨h1, _, h3⟩ := slots_row (R := fun b => Q b \/ (base <= b /\ b < w.heap.size)) h.len h.own (fun i s p hs hp => (h.vals i s p hs hp).to (fun _ h => .inl h) (fun _ _ _ => rfl)) (fun g' e hb hlt => .inr ⟨hb, hlt⟩)
 refine ⟨fun b hb => ?_, fun hb => ?_, _, _, _, _, h.head, h3, h.rlen, h1, h.roots.to (fun _ h => .inl h) (fun _ _ _ => rfl)⟩
 ·rcases hb with hb | hb
  ·exact (h.qne b hb).2
  ·exact hb.2
 ·rcases hb with hb | hb
  ·exact h.nrb hb
  ·omega
theorem RdS.turn {w w' : World} {base : Nat} {Q A : Nat -> Prop} {rb : Nat} {D : Dc} {g cap : Nat} {ra : Option Addr} {rcap : Nat} {L : List (Value × Value)} (h : RdS w base Q rb D g cap ra rcap L) (ht : Turn A w w') (hA : ∀ b, Q b -> ¬ A b) (hr : ¬ A rb) (hg : ¬ A g) : RdS w' base Q rb D g cap ra rcap L := by
 have hbs := h.bs
 have hc : ∀ b o, Q b -> w'.cell? ⟨b, o, none⟩ = w.cell? ⟨b, o, none⟩ := fun b o hb => World.cell?_of_block (w := w) (a := ⟨b, o, none⟩) (ht.block b (h.qne b hb).2 (hA b hb))
 exact ⟨h.head.of_block (ht.block rb h.head.lt hr), own_of_block h.own (fun k hk => by cases hk; exact ht.block g h.gb.2 hg), h.len, fun i s p hs hp => (h.vals i s p hs hp).to (fun _ h => h) hc, h.roots.to (fun _ h => h) hc, h.rlen, fun b hb => ⟨(h.qne b hb).1, Nat.lt_of_lt_of_le (h.qne b hb).2 ht.size⟩, h.nrb, h.rbl⟩
theorem RdS.below {w w' : World} {base : Nat} {Q : Nat -> Prop} {rb : Nat} {D : Dc} {g cap : Nat} {ra : Option Addr} {rcap : Nat} {L : List (Value × Value)} (h : RdS w base Q rb D g cap ra rcap L) (hb : Below w.heap.size w w') : RdS w' base Q rb D g cap ra rcap L := h.turn (below_turn hb) (fun _ _ h => h) (fun h => h) (fun h => h)
theorem RdS.store {w : World} {base : Nat} {Q : Nat -> Prop} {rb : Nat} {D : Dc} {g cap : Nat} {ra : Option Addr} {rcap : Nat} {L : List (Value × Value)} (h : RdS w base Q rb D g cap ra rcap L) {i j : Nat} {s s' : Sl} {p p' : Value × Value} {u : Value} (hs : D.S[i]? = some s) (hp : L[i]? = some p) (hj : j < 8) (hc : slotCells s' p' = (slotCells s p).set j u)
  (hv : SlotVals w Q s' p') : RdS (w.setCell ⟨g, i * 8 + j, none⟩ u) base Q rb { D with S := D.S.set i s' } g cap ra rcap (L.set i p') := by
 have hgb := h.gb
 have hrb := h.rbl
 have hne : ∀ b, Q b -> b ≠ g := fun b hb => (h.qne b hb).1
 have hcell : ∀ b o, Q b -> (w.setCell ⟨g, i * 8 + j, none⟩ u).cell? ⟨b, o, none⟩ = w.cell? ⟨b, o, none⟩ := fun b o hb => World.cell?_of_block (w := w) (a := ⟨b, o, none⟩) (Below.heap_setCell _ _ _ _ (hne b hb))
 have hi := (List.getElem?_eq_some_iff.1 hs).1
 refine ⟨?_, ?_, by simp [h.len], fun k x y hx hy => ?_, h.roots.to (fun _ h => h) hcell, h.rlen, fun b hb => ⟨(h.qne b hb).1, by simpa [World.setCell] using (h.qne b hb).2⟩, h.nrb, h.rbl⟩
 ·have := h.head.other (a := ⟨g, i * 8 + j, none⟩) (by show rb ≠ g; omega) u
  simpa using this
 ·have := own_set h.own (i * 8 + j) u
  rw [<- rowOf_set h.len hs hp hj hc] at this
  simpa using this
 ·by_cases hk : k = i
  ·subst hk
   rw [List.getElem?_set_self hi] at hx
   rw [List.getElem?_set_self (by rw [h.len]; exact hi)] at hy
   cases hx
   cases hy
   exact hv.to (fun _ h => h) hcell
  ·rw [List.getElem?_set_ne (by omega)] at hx hy
   exact (h.vals k x y hx hy).to (fun _ h => h) hcell
theorem RDoc.copied {w w' : World} {Q : Nat -> Prop} {rb : Nat} {D : Dc} {sa : Option Addr} {scap : Nat} {ra : Option Addr} {rcap : Nat} {L : List (Value × Value)} {v' : Value} (h : RDoc w Q rb D) (hh : IsCells w rb #[.slice sa D.S.length scap, .slice ra D.roots.length rcap]) (hrl : D.roots.length <= rcap) (hra : HandsAt w Q ra D.roots) (hL : L.length = D.S.length)
  (hv : ∀ (i : Nat) (s : Sl) (p : Value × Value), D.S[i]? = some s -> L[i]? = some p -> SlotVals w Q s p) {v : Value} {W : World} (hW : Below w.heap.size w W) (hvb : ∀ k, v.ownBlock = some k -> w.heap.size <= k) (hvn : v ≠ .slice none 0 0) (hown : w'.ownsRow w.heap.size 90 8 v' D.S.length (rowOf D.S L)) (hg : W.grownBy w' v.ownBlock) (hnil : v' = .slice none 0 0 ↔ v = .slice none 0 0 /\ D.S.length = 0) :
  ∃ g cap, v' = .slice (some ⟨g, 0, none⟩) D.S.length cap /\ RdS (w'.setCell ⟨rb, 0, none⟩ (.slice (some ⟨g, 0, none⟩) D.S.length cap)) w.heap.size Q rb D g cap ra rcap L /\ Turn (fun b => b = rb) w (w'.setCell ⟨rb, 0, none⟩ (.slice (some ⟨g, 0, none⟩) D.S.length cap)) /\ IsCells w' rb #[.slice sa D.S.length scap, .slice ra D.roots.length rcap] := by
 have hbel : Below w.heap.size w w' := hW.grown hg hW.size hvb
 have hrb := h.rbl
 rcases hown.2 with ⟨e1, _⟩ | ⟨g, cap, cur, rfl, hb, hcells⟩
 ·rw [hnil] at e1
  exact absurd e1.1 hvn
 ·refine ⟨g, cap, rfl, ?_, ?_, hh.of_block (hbel.block rb hrb)⟩
  ·have hne : ∀ b, Q b -> b ≠ rb := fun b hb e => h.nrb (e ▸ hb)
   have hcell : ∀ b o, Q b -> (w'.setCell ⟨rb, 0, none⟩ (.slice (some ⟨g, 0, none⟩) D.S.length cap)).cell? ⟨b, o, none⟩ = w.cell? ⟨b, o, none⟩ := fun b o hb => World.cell?_of_block (w := w) (a := ⟨b, o, none⟩) ((Below.heap_setCell _ _ _ _ (hne b hb)).trans (hbel.block b (h.lt b hb)))
   refine ⟨?_, own_of_block hown (fun k hk => ?_), hL, fun i s p hs hp => (hv i s p hs hp).to (fun _ h => h) hcell, hra.to (fun _ h => h) hcell, hrl, fun b hb' => ⟨by have := h.lt b hb'; omega, by have := h.lt b hb'; have := hbel.size; simp [World.setCell]; omega⟩, h.nrb, hrb⟩
   ·have := (hh.of_block (hbel.block rb hrb)).set 0 (.slice (some ⟨g, 0, none⟩) D.S.length cap)
    simpa using this
   ·cases hk
    exact Below.heap_setCell _ _ _ _ (by show g ≠ rb; omega)
  ·exact Turn.setCell (A := fun b => b = rb) ((below_turn hbel).mono (fun _ _ h => h.elim)) (p := ⟨rb, 0, none⟩) rfl _
theorem rows_vals {w : World} {Q : Nat -> Prop} {S : List Sl} {L : List (Value × Value)} (hv : ∀ (i : Nat) (s : Sl) (p : Value × Value), S[i]? = some s -> L[i]? = some p -> SlotVals w Q s p) : ∀ u ∈ rowOf S L, u.oneCell' = true :=
 rowOf_one (fun i s p hs hp => by
  obtain ⟨aa, ac, ka, kc, rfl, _⟩ := hv i s p hs hp
  exact ⟨_, _, _, _, _, _, rfl⟩)
theorem change_none (w : World) (Q : Nat -> Prop) (rb : Nat) (D : Dc) (h : Nat) (k : Int) (hd : RDoc w Q rb D) (hf : Fits D) (hh : h < 18446744073709551616) (ha : atI D.S h = none) :
  Calls Tryz.prog 73 #[.pointer (some ⟨rb, 0, none⟩), .int .u64 (h : Int), .int .i64 k] w fun e w' => e = .returned (.tuple #[.int .i64 0, .int .i64 8]) /\ w' = w := by
 have hat := rat_any w _ rb D h hd.view hf hh
 have e1 : atR D.S h = -1 := by simp [atR, ha]
 rw [e1] at hat
 clear hd ha e1
 go_enter Tryz.func73, Tryz.ntmps73
 go_wp2_with fail
 refine hat.mono ?_
 rintro e w1 ⟨rfl, rfl⟩
 go_wp2
 go_ret2
 exact ⟨rfl, rfl⟩
theorem change_kind (w : World) (Q : Nat -> Prop) (rb : Nat) (D : Dc) (h i : Nat) (s : Sl) (k : Int) (hd : RDoc w Q rb D) (hf : Fits D) (hh : h < 18446744073709551616) (ha : atI D.S h = some i) (hs : D.S[i]? = some s) (hk : s.kind ≠ k) :
  Calls Tryz.prog 73 #[.pointer (some ⟨rb, 0, none⟩), .int .u64 (h : Int), .int .i64 k] w fun e w' => e = .returned (.tuple #[.int .i64 0, .int .i64 30]) /\ w' = w := by
 have hat := rat_any w _ rb D h hd.view hf hh
 rw [atR_some ha] at hat
 obtain ⟨b, o, cap, aa, ac, ka, kc, h1, hcl, hbR, c0, c1, c2, -⟩ := hd.view.slot hs
 have hi1 : (i : Int) < ((D.S.length : Nat) : Int) := by have := (List.getElem?_eq_some_iff.1 hs).1; omega
 have hl4 := hf.len
 have hb : (s.kind == k) = false := beq_eq_false_iff_ne.2 hk
 clear hd ha hs hk
 go_enter Tryz.func73, Tryz.ntmps73
 go_wp2_with fail
 refine hat.mono ?_
 rintro e w1 ⟨rfl, rfl⟩
 go_wp2
 go_ret2
 exact ⟨rfl, rfl⟩
def ChgP (w : World) (Q : Nat -> Prop) (rb : Nat) (D : Dc) (i : Nat) (e : Ending) (w' : World) : Prop :=
 e = .returned (.tuple #[.int .i64 (i : Int), .int .i64 0]) /\ (∃ g cap ra rcap L, RdS w' w.heap.size Q rb D g cap ra rcap L) /\ Turn (fun b => b = rb) w w'
theorem change_some (w : World) (Q : Nat -> Prop) (rb : Nat) (D : Dc) (h i : Nat) (s : Sl) (hd : RDoc w Q rb D) (hf : Fits D) (hh : h < 18446744073709551616) (ha : atI D.S h = some i) (hs : D.S[i]? = some s) :
  Calls Tryz.prog 73 #[.pointer (some ⟨rb, 0, none⟩), .int .u64 (h : Int), .int .i64 s.kind] w (ChgP w Q rb D i) := by
 have hat := rat_any w _ rb D h hd.view hf hh
 rw [atR_some ha] at hat
 obtain ⟨sa, scap, ra, rcap, hh1, hsc, hrc, hsl, hra⟩ := hd.head
 obtain ⟨L, hL, hv, hnews⟩ := hsl.row
 obtain ⟨b, o, cap, aa, ac, ka, kc, h1, hcl, hbR, c0, c1, c2, -⟩ := hd.view.slot hs
 have hz0 : w.cell? ⟨rb, 0, none⟩ = some (.slice sa D.S.length scap) := by rw [hh1.cell]; rfl
 rw [hz0] at h1
 simp only [Option.some.injEq, Value.slice.injEq, true_and] at h1
 obtain ⟨rfl, rfl⟩ := h1
 have hi1 : (i : Int) < ((D.S.length : Nat) : Int) := by have := (List.getElem?_eq_some_iff.1 hs).1; omega
 have hl4 := hf.len
 have hrb := hd.rbl
 have HD : Hid (RDoc w Q rb D) := hd
 have HH : Hid (IsCells w rb #[.slice (some ⟨b, o, none⟩) D.S.length scap, .slice ra D.roots.length rcap]) := hh1
 have HRA : Hid (HandsAt w Q ra D.roots) := hra
 have HV : Hid (∀ (i : Nat) (s : Sl) (p : Value × Value), D.S[i]? = some s -> L[i]? = some p -> SlotVals w Q s p) := hv
 have HL : Hid (L.length = D.S.length) := hL
 have HN : Hid (∀ j u, (rowOf D.S L)[j]? = some u -> ∃ ad, some (⟨b, o, none⟩ : Addr) = some ad /\ (w.alloc (.cells #[] 90)).cell? (ad.add j) = some u) := fun j u hu => by
  obtain ⟨ad, e1, e2⟩ := hnews j u hu
  cases e1
  refine ⟨_, rfl, ?_⟩
  rw [addr_plus] at e2 ⊢
  rw [World.cell?_of_block (w := w) (Below.heap_alloc _ _ _ (World.block_lt_of_cell? w _ e2))]
  exact e2
 have hbl : b < w.heap.size := hd.view.lt b hbR
 clear hd ha hs hh1 hra hv hL hnews hsl
 have tok : True := trivial
 go_enter Tryz.func73, Tryz.ntmps73
 go_wp2_with fail
 refine hat.mono ?_
 rintro e w1 ⟨rfl, rfl⟩
 go_wp2_with (at_builtin; have _t := tok; refine wpList_app rfl _ _ rfl Tryz.underlying55 info75 rfl (by decide) w1.heap.size (.slice (some ⟨w1.heap.size, 0, none⟩) 0 0) 0 [] rfl (own_new w1 90 8) (some ⟨b, o, none⟩) D.S.length scap (rowOf D.S L) rfl (rowOf_len HL.out) HN.out (rows_vals HV.out) (by unfold maxLen; omega) (by omega) (by simp) ?_; intro v1 w2 hown1 hg1 hnil1 hat1; clear tok _t; rw [Nat.zero_add, List.nil_append] at hown1; obtain ⟨g, cap2, hv1, hrds, htn, hhd⟩ := HD.out.copied HH.out hrc HRA.out HL.out HV.out (below_new' w1 _) (fun k hk => by simp only [Value.ownBlock, Option.some.injEq] at hk; omega) (by simp) hown1 hg1 hnil1; subst hv1; have hc0 := hhd.cell; have hf0 := hhd.frozen; have HR := hrds; have HTN := htn; have HRS : Hid (RdS (w2.setCell ⟨rb, 0, none⟩ (.slice (some ⟨g, 0, none⟩) D.S.length cap2)) w1.heap.size Q rb D g cap2 ra rcap L) := hrds; have HT : Hid (Turn (fun b => b = rb) w1 (w2.setCell ⟨rb, 0, none⟩ (.slice (some ⟨g, 0, none⟩) D.S.length cap2))) := htn; clear HR HTN hrds htn hown1 hg1 hnil1 hat1 hhd)
 go_ret2
 exact ⟨rfl, ⟨_, _, _, _, _, HRS.out⟩, HT.out⟩
theorem RDoc.widen {w : World} {Q Q' : Nat -> Prop} {rb : Nat} {D : Dc} (h : RDoc w Q rb D) (h1 : ∀ b, Q b -> Q' b) (h2 : ∀ b, Q' b -> b < w.heap.size) (h3 : ¬ Q' rb) : RDoc w Q' rb D := by
 obtain ⟨sa, scap, ra, rcap, g1, g2, g3, g4, g5⟩ := h.head
 exact ⟨h2, h3, sa, scap, ra, rcap, g1, g2, g3, g4.to h1 (fun _ _ _ => rfl), g5.to h1 (fun _ _ _ => rfl)⟩
def RPost (w : World) (Q : Nat -> Prop) (rb : Nat) (D' : Dc) (z : Int) (e : Ending) (w' : World) : Prop :=
 e = .returned (.int .i64 z) /\ Turn (fun b => b = rb) w w' /\ RDoc w' (fun b => Q b \/ (w.heap.size <= b /\ b < w'.heap.size)) rb D'
theorem rpost_same {w w' : World} {Q : Nat -> Prop} {rb : Nat} {D : Dc} {z : Int} (h : RDoc w Q rb D) (hb : Below w.heap.size w w') : RPost w Q rb D z (.returned (.int .i64 z)) w' := by
 have hrb := h.rbl
 refine ⟨rfl, (below_turn hb).mono (fun _ _ h => h.elim), (h.below hb).widen (fun _ h => .inl h) (fun b hb' => ?_) (fun hb' => ?_)⟩
 ·rcases hb' with hb' | hb'
  ·exact Nat.lt_of_lt_of_le (h.lt b hb') hb.size
  ·exact hb'.2
 ·rcases hb' with hb' | hb'
  ·exact h.nrb hb'
  ·omega
theorem rds_post {w w' : World} {Q : Nat -> Prop} {rb : Nat} {D : Dc} {z : Int} {g cap : Nat} {ra : Option Addr} {rcap : Nat} {L : List (Value × Value)} (h : RdS w' w.heap.size Q rb D g cap ra rcap L) (ht : Turn (fun b => b = rb) w w') : RPost w Q rb D z (.returned (.int .i64 z)) w' := ⟨rfl, ht, h.done⟩
theorem RdS.slot {w : World} {base : Nat} {Q : Nat -> Prop} {rb : Nat} {D : Dc} {g cap : Nat} {ra : Option Addr} {rcap : Nat} {L : List (Value × Value)} (h : RdS w base Q rb D g cap ra rcap L) {i : Nat} {s : Sl} (hs : D.S[i]? = some s) :
  ∃ p, L[i]? = some p /\ SlotVals w Q s p /\ D.S.length <= cap /\ w.cell? ⟨rb, 0, none⟩ = some (.slice (some ⟨g, 0, none⟩) D.S.length cap) /\ ∀ j u, (slotCells s p)[j]? = some u -> w.cell? ⟨g, i * 8 + j, none⟩ = some u /\ w.frozen? ⟨g, i * 8 + j, none⟩ = false := by
 have hi := (List.getElem?_eq_some_iff.1 hs).1
 obtain ⟨p, hp⟩ : ∃ p, L[i]? = some p := ⟨_, List.getElem?_eq_getElem (by rw [h.len]; exact hi)⟩
 obtain ⟨h1, h2, h3⟩ := row_cell h.own
 refine ⟨p, hp, h.vals i s p hs hp, h1, by rw [h.head.cell]; rfl, fun j u hu => ?_⟩
 have hj8 : j < 8 := (List.getElem?_eq_some_iff.1 hu).1
 obtain ⟨g', e1, _, _, e2⟩ := h3 (i * 8 + j) u (by rw [rowOf_get hs hp hj8]; exact hu)
 cases e1
 exact ⟨e2, own_frozen h.own _⟩
def setNameD (D : Dc) (h : Nat) (nm : ByteArray) : Dc × Int :=
 match atI D.S h with
 | none => (D, 8)
 | some i => match D.S[i]? with
  | none => (D, 8)
  | some s => if s.kind = 1 then (if nameL nm.data.toList then ({ D with S := D.S.set i { s with name := nm } }, 0) else (D, 6)) else (D, 30)
theorem rsetName_any (w : World) (Q : Nat -> Prop) (rb : Nat) (D : Dc) (h : Nat) (nm : ByteArray) (hd : RDoc w Q rb D) (hf : Fits D) (hh : h < 18446744073709551616) :
  Calls Tryz.prog 34 #[.pointer (some ⟨rb, 0, none⟩), .int .u64 (h : Int), .string nm] w (RPost w Q rb (setNameD D h nm).1 (setNameD D h nm).2) := by
 cases ha : atI D.S h with
 | none =>
  have e1 : setNameD D h nm = (D, 8) := by simp only [setNameD, ha]
  rw [e1]
  have hc := change_none w Q rb D h 1 hd hf hh ha
  have HD : Hid (RDoc w Q rb D) := hd
  clear hd ha e1
  go_enter Tryz.func34, Tryz.ntmps34
  go_wp2_with fail
  refine hc.mono ?_
  rintro e w1 ⟨rfl, rfl⟩
  go_wp2
  go_ret
  exact rpost_same HD.out (Below.refl _ _)
 | some i =>
  obtain ⟨s, hs, -⟩ := atI_some ha
  by_cases hk : s.kind = 1
  ·have hc := change_some w Q rb D h i s hd hf hh ha hs
   rw [hk] at hc
   have hnw := fun W => rname_any W nm
   have hl4 := hf.len
   have hi1 : (i : Int) < ((D.S.length : Nat) : Int) := by have := (List.getElem?_eq_some_iff.1 hs).1; omega
   have HS : Hid (D.S[i]? = some s) := hs
   cases hnm : nameL nm.data.toList
   ·have e1 : setNameD D h nm = (D, 6) := by simp [setNameD, ha, hs, hk, hnm]
    rw [e1]
    rw [hnm] at hnw
    clear hd ha e1 hs hk hnm
    go_enter Tryz.func34, Tryz.ntmps34
    go_wp2_with fail
    refine hc.mono ?_
    rintro e w1 ⟨rfl, ⟨g, cap, ra, rcap, L, hr⟩, ht⟩
    have HR : Hid (RdS w1 w.heap.size Q rb D g cap ra rcap L) := hr
    have HT : Hid (Turn (fun b => b = rb) w w1) := ht
    clear hr ht hc
    go_wp2_with fail
    refine (hnw _).mono ?_
    rintro e w2 ⟨rfl, rfl⟩
    go_wp2
    go_ret
    exact rds_post HR.out HT.out
   ·have e1 : setNameD D h nm = ({ D with S := D.S.set i { s with name := nm } }, 0) := by simp [setNameD, ha, hs, hk, hnm]
    rw [e1]
    rw [hnm] at hnw
    clear hd ha e1 hs hk hnm
    go_enter Tryz.func34, Tryz.ntmps34
    go_wp2_with fail
    refine hc.mono ?_
    rintro e w1 ⟨rfl, ⟨g, cap, ra, rcap, L, hr⟩, ht⟩
    obtain ⟨p, hp, hv, hcap, hhd, hcl⟩ := hr.slot HS.out
    have hc3 := (hcl 3 _ rfl).1
    have hf3 := (hcl 3 _ rfl).2
    have hgs := hr.gb
    have HR : Hid (RdS (w1.setCell ⟨g, i * 8 + 3, none⟩ (.string nm)) w.heap.size Q rb { D with S := D.S.set i { s with name := nm } } g cap ra rcap (L.set i p)) := hr.store HS.out hp (by omega) rfl hv
    have HT : Hid (Turn (fun b => b = rb) w (w1.setCell ⟨g, i * 8 + 3, none⟩ (.string nm))) := Turn.setNew ht (p := ⟨g, i * 8 + 3, none⟩) hgs.1 _
    clear hr ht hc hp hv hcl hgs
    go_wp2_with fail
    refine (hnw _).mono ?_
    rintro e w2 ⟨rfl, rfl⟩
    go_wp2
    go_ret
    exact rds_post HR.out HT.out
  ·have e1 : setNameD D h nm = (D, 30) := by simp [setNameD, ha, hs, hk]
   rw [e1]
   have hc := change_kind w Q rb D h i s 1 hd hf hh ha hs hk
   have HD : Hid (RDoc w Q rb D) := hd
   clear hd ha e1 hs hk
   go_enter Tryz.func34, Tryz.ntmps34
   go_wp2_with fail
   refine hc.mono ?_
   rintro e w1 ⟨rfl, rfl⟩
   go_wp2
   go_ret
   exact rpost_same HD.out (Below.refl _ _)
def setTextD (D : Dc) (h : Nat) (tx : ByteArray) : Dc × Int :=
 match atI D.S h with
 | none => (D, 8)
 | some i => match D.S[i]? with
  | none => (D, 8)
  | some s => if s.kind = 2 then (if (tans tx.data.toList).2 = 0 then ({ D with S := D.S.set i { s with text := tx } }, 0) else (D, (tans tx.data.toList).2)) else (D, 30)
theorem rsetText_any (w : World) (Q : Nat -> Prop) (rb : Nat) (D : Dc) (h : Nat) (tx : ByteArray) (hd : RDoc w Q rb D) (hf : Fits D) (hh : h < 18446744073709551616) :
  Calls Tryz.prog 35 #[.pointer (some ⟨rb, 0, none⟩), .int .u64 (h : Int), .string tx] w (RPost w Q rb (setTextD D h tx).1 (setTextD D h tx).2) := by
 cases ha : atI D.S h with
 | none =>
  have e1 : setTextD D h tx = (D, 8) := by simp only [setTextD, ha]
  rw [e1]
  have hc := change_none w Q rb D h 2 hd hf hh ha
  have HD : Hid (RDoc w Q rb D) := hd
  clear hd ha e1
  go_enter Tryz.func35, Tryz.ntmps35
  go_wp2_with fail
  refine hc.mono ?_
  rintro e w1 ⟨rfl, rfl⟩
  go_wp2
  go_ret
  exact rpost_same HD.out (Below.refl _ _)
 | some i =>
  obtain ⟨s, hs, -⟩ := atI_some ha
  by_cases hk : s.kind = 2
  ·have hc := change_some w Q rb D h i s hd hf hh ha hs
   rw [hk] at hc
   have hnw := fun W => rtext_any W tx
   have hl4 := hf.len
   have hi1 : (i : Int) < ((D.S.length : Nat) : Int) := by have := (List.getElem?_eq_some_iff.1 hs).1; omega
   have HS : Hid (D.S[i]? = some s) := hs
   by_cases hnm : (tans tx.data.toList).2 = 0
   ·have e1 : setTextD D h tx = ({ D with S := D.S.set i { s with text := tx } }, 0) := by simp [setTextD, ha, hs, hk, hnm]
    rw [e1]
    rw [hnm] at hnw
    generalize (tans tx.data.toList).1 = y1 at *
    clear hd ha e1 hs hk hnm
    go_enter Tryz.func35, Tryz.ntmps35
    go_wp2_with fail
    refine hc.mono ?_
    rintro e w1 ⟨rfl, ⟨g, cap, ra, rcap, L, hr⟩, ht⟩
    have hgs := hr.gb
    have HR0 : Hid (RdS w1 w.heap.size Q rb D g cap ra rcap L) := hr
    have HT0 : Hid (Turn (fun b => b = rb) w w1) := ht
    clear hr ht hc
    go_wp2_with fail
    refine (hnw _).mono ?_
    rintro e w2 ⟨rfl, hb2⟩
    have hr := HR0.out.below hb2
    have ht : Turn (fun b => b = rb) w w2 := HT0.out.then hb2 HT0.out.size
    obtain ⟨p, hp, hv, hcap, hhd, hcl⟩ := hr.slot HS.out
    have hc3 := (hcl 5 _ rfl).1
    have hf3 := (hcl 5 _ rfl).2
    have HR : Hid (RdS (w2.setCell ⟨g, i * 8 + 5, none⟩ (.string tx)) w.heap.size Q rb { D with S := D.S.set i { s with text := tx } } g cap ra rcap (L.set i p)) := hr.store HS.out hp (by omega) rfl hv
    have HT : Hid (Turn (fun b => b = rb) w (w2.setCell ⟨g, i * 8 + 5, none⟩ (.string tx))) := Turn.setNew ht (p := ⟨g, i * 8 + 5, none⟩) hgs.1 _
    clear hr ht hp hv hcl hgs hb2 hnw HR0 HT0
    go_wp2
    go_ret
    exact rds_post HR.out HT.out
   ·have e1 : setTextD D h tx = (D, (tans tx.data.toList).2) := by simp [setTextD, ha, hs, hk, hnm]
    rw [e1]
    have hbn : ((tans tx.data.toList).2 == 0) = false := beq_eq_false_iff_ne.2 hnm
    generalize (tans tx.data.toList).1 = y1 at *
    generalize (tans tx.data.toList).2 = y2 at *
    clear hd ha e1 hs hk hnm
    go_enter Tryz.func35, Tryz.ntmps35
    go_wp2_with fail
    refine hc.mono ?_
    rintro e w1 ⟨rfl, ⟨g, cap, ra, rcap, L, hr⟩, ht⟩
    have HR0 : Hid (RdS w1 w.heap.size Q rb D g cap ra rcap L) := hr
    have HT0 : Hid (Turn (fun b => b = rb) w w1) := ht
    clear hr ht hc
    go_wp2_with fail
    refine (hnw _).mono ?_
    rintro e w2 ⟨rfl, hb2⟩
    have HR : Hid (RdS w2 w.heap.size Q rb D g cap ra rcap L) := HR0.out.below hb2
    have HT : Hid (Turn (fun b => b = rb) w w2) := HT0.out.then hb2 HT0.out.size
    clear hb2 hnw HR0 HT0
    go_wp2
    go_ret
    exact rds_post HR.out HT.out
  ·have e1 : setTextD D h tx = (D, 30) := by simp [setTextD, ha, hs, hk]
   rw [e1]
   have hc := change_kind w Q rb D h i s 2 hd hf hh ha hs hk
   have HD : Hid (RDoc w Q rb D) := hd
   clear hd ha e1 hs hk
   go_enter Tryz.func35, Tryz.ntmps35
   go_wp2_with fail
   refine hc.mono ?_
   rintro e w1 ⟨rfl, rfl⟩
   go_wp2
   go_ret
   exact rpost_same HD.out (Below.refl _ _)
end Go.Proofs.YtmapmkogjhinmaaGreat
