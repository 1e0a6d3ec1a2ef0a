/- The program: is a node live, what lies around it. -/
import Derived.Test.YtjkgjckkglfokaaGreatU01
import Derived.Test.YtjkgjckkglfokaaGreatU03
import Derived.Laws.Bits64b
namespace Go.Proofs.YtjkgjckkglfokaaGreat.Gr
open Go.RowKit
set_option linter.unusedVariables false
set_option linter.unusedSimpArgs false
set_option maxRecDepth 100000
set_option maxHeartbeats 400000
def liveB (D : Dc) (h : Nat) : Bool := decide (h = 0) || (atI D.S h).isSome
theorem isLive_any (w : World) (R : Nat -> Prop) (db : Nat) (D : Dc) (h : Nat) (hv : View w R db D) (hf : Fits D) (hh : h < 18446744073709551616) :
  Calls Tryz.prog 85 #[.pointer (some ⟨db, 0, none⟩), .int .u64 (h : Int)] w fun e w' => e = .returned (.bool (liveB D h)) /\ Below w.heap.size w w' := by
 by_cases h0 : h = 0
 ·have hb : ((h : Int) == 0) = true := by simp [h0]
  have e1 : liveB D h = true := by simp [liveB, h0]
  rw [e1]
  clear e1 h0 hv
  go_enter Tryz.func85, Tryz.ntmps85
  go_wp2
  go_ret
  exact ⟨rfl, Below.refl _ _⟩
 ·have hb : ((h : Int) == 0) = false := by simp; omega
  cases ha : atI D.S h with
  | none =>
   have hfi := find_none w R db D h hv hf hh ha
   have e1 : liveB D h = false := by simp [liveB, h0, ha]
   rw [e1]
   clear e1 h0 hv ha
   go_enter Tryz.func85, Tryz.ntmps85
   go_wp2_with fail
   refine hfi.mono ?_
   rintro e w' ⟨rfl, hb'⟩
   go_wp2
   go_ret
   exact ⟨rfl, hb'⟩
  | some i =>
   obtain ⟨s, hs, -⟩ := atI_some ha
   obtain ⟨b, o, cap, aa, ac, ka, kc, h1, -⟩ := hv.slot hs
   have hfi := find_some w R db D h i hv hf hh ha b o cap h1
   have e1 : liveB D h = true := by simp [liveB, ha]
   rw [e1]
   clear e1 h0 hv ha
   go_enter Tryz.func85, Tryz.ntmps85
   go_wp2_with fail
   refine hfi.mono ?_
   rintro e w' ⟨rfl, hb'⟩
   go_wp2
   go_ret
   exact ⟨rfl, hb'⟩
def arD (D : Dc) (wh : Int) (a : Nat) : Nat := if wh = 3 \/ wh = 4 then par D a else a
theorem around_any (w : World) (R : Nat -> Prop) (db : Nat) (D : Dc) (wh : Int) (a : Nat) (hv : View w R db D) (hf : Fits D) (hh : a < 18446744073709551616) (hl : wh = 3 \/ wh = 4 -> ∃ s, sl D a = some s) :
  Calls Tryz.prog 86 #[.pointer (some ⟨db, 0, none⟩), .int .i64 wh, .int .u64 (a : Int)] w fun e w' => e = .returned (.int .u64 (arD D wh a : Int)) /\ Below w.heap.size w w' := by
 by_cases h3 : wh = 3 \/ wh = 4
 ·obtain ⟨s, hs⟩ := hl h3
  obtain ⟨i, ha, hsi, -⟩ := sl_live hs
  obtain ⟨b, o, cap, aa, ac, ka, kc, h1, hcl, hb, c0, c1, c2, c3, c4, c5, c6, c7, -⟩ := hv.slot hsi
  have hfi := find_some w R db D a i hv hf hh ha b o cap h1
  have e1 : arD D wh a = s.parent := by simp [arD, h3, par, hs]
  have hbl := hv.lt b hb
  rw [e1]
  clear e1 hl hv ha hs hsi
  rcases h3 with rfl | rfl
  ·go_enter Tryz.func86, Tryz.ntmps86
   go_wp2_with fail
   refine hfi.mono ?_
   rintro e w' ⟨rfl, hb'⟩
   obtain ⟨hcc, -⟩ := bcell hb'
   have HB := hid hb'
   clear hb'
   go_wp2
   go_ret
   exact ⟨rfl, HB.out⟩
  ·go_enter Tryz.func86, Tryz.ntmps86
   go_wp2_with fail
   refine hfi.mono ?_
   rintro e w' ⟨rfl, hb'⟩
   obtain ⟨hcc, -⟩ := bcell hb'
   have HB := hid hb'
   clear hb'
   go_wp2
   go_ret
   exact ⟨rfl, HB.out⟩
 ·have e1 : arD D wh a = a := by simp [arD, h3]
  rw [e1]
  have hb1 : (wh == 3) = false := beq_eq_false_iff_ne.2 (fun h => h3 (.inl h))
  have hb2 : (wh == 4) = false := beq_eq_false_iff_ne.2 (fun h => h3 (.inr h))
  clear e1 hl hv h3
  go_enter Tryz.func86, Tryz.ntmps86
  go_wp2
  go_ret
  exact ⟨rfl, Below.refl _ _⟩
theorem depth_any (w : World) (R : Nat -> Prop) (db : Nat) (D : Dc) (h : Nat) (hv : View w R db D) (hw : WF D) (hh : h = 0 \/ ∃ s, sl D h = some s) :
  Calls Tryz.prog 116 #[.pointer (some ⟨db, 0, none⟩), .int .u64 (h : Int)] w fun e w' => e = .returned (.int .i64 ((ups D h).length : Int)) /\ Below w.heap.size w w' := by
 obtain ⟨lv, hlv⟩ := hw.lev
 rw [ups_length hlv hh]
 have hd64 := dep_le hlv hh
 have HV := hid hv
 have HW := hid hw
 have HL := hid hlv
 clear hv hw hlv
 go_enter Tryz.func116, Tryz.ntmps116
 go_wp2
 go_loopw [1, 5] (fun v c wr => ∃ (x k : Nat), v = .int .u64 (x : Int) /\ c = .int .i64 (k : Int) /\ Hid (x = 0 \/ ∃ s, sl D x = some s) /\ Hid (k + dep lv x = dep lv h) /\ k <= 64 /\ Hid (Below w.heap.size w wr)) (fun v c _ => 64 - (intOf c).toNat)
 case atStart => exact ⟨h, 0, rfl, rfl, hh, Nat.zero_add _, by omega, Below.refl _ _⟩
 case round =>
  obtain ⟨x, k, rfl, rfl, hx, hk, hk64, hbw⟩ := hrel
  by_cases h0 : x = 0
  ·have hb : ((x : Int) == 0) = true := by simp [h0]
   have hkk : k = dep lv h := by have := hk.out; rw [h0] at this; simpa [dep] using this
   clear h0 hk
   go_wp2
   go_ret
   exact ⟨congrArg _ (v_int (by omega)), hbw.out⟩
  ·have hb : ((x : Int) == 0) = false := by simp; omega
   obtain ⟨s, hs⟩ : ∃ s, sl D x = some s := by
    rcases hx.out with h | h
    ·exact absurd h h0
    ·exact h
   obtain ⟨hdp, hpp⟩ := dep_par HL.out hs
   have hkk := hk.out
   have hdx := dep_le HL.out (.inr ⟨s, hs⟩)
   obtain ⟨hxl, -, i, ha, hsi, -⟩ := HW.out.lt hs
   have hv' := HV.out.below hbw.out
   obtain ⟨b, o, cap, aa, ac, ka, kc, h1, hcl, hbR, c0, c1, c2, c3, c4, c5, c6, c7, -⟩ := hv'.slot hsi
   have hfi := find_some wr R db D x i hv' HW.out.fits hxl ha b o cap h1
   have hbl := hv'.lt b hbR
   have HK : Hid (k + 1 + dep lv s.parent = dep lv h) := by show _ = _; omega
   have HP := hid hpp
   have hk63 : k + 1 <= 64 := by omega
   clear hdp hpp hkk hdx hv' ha hsi hs h0 hk hx c0 c1 c2 c3 c4 c5 c7 hcl
   go_wp2_with fail
   refine hfi.mono ?_
   rintro e w2 ⟨rfl, hb2⟩
   obtain ⟨hcc, -⟩ := bcell hb2
   have HB2 := hid (hbw.out.trans (hb2.mono hbw.out.size))
   clear hb2
   go_wp2
   go_roundw
   case rel => exact ⟨s.parent, k + 1, rfl, by go_num, HP, HK, hk63, HB2⟩
   case measure => simp [intOf]; omega
theorem lies_any (w : World) (R : Nat -> Prop) (db : Nat) (D : Dc) (h n : Nat) (hv : View w R db D) (hw : WF D) (hh : h = 0 \/ ∃ s, sl D h = some s) (z : Bool) (hz : (ups D h).contains n = z) :
  Calls Tryz.prog 167 #[.pointer (some ⟨db, 0, none⟩), .int .u64 (h : Int), .int .u64 (n : Int)] w fun e w' => e = .returned (.bool z) /\ Below w.heap.size w w' := by
 obtain ⟨lv, hlv⟩ := hw.lev
 have hd64 := dep_le hlv hh
 have HV := hid hv
 have HW := hid hw
 have HL := hid hlv
 have HZ := hid hz
 clear hv hw hlv hz
 go_enter Tryz.func167, Tryz.ntmps167
 go_wp2
 go_loopw [1] (fun v wr => ∃ (x k : Nat), v = .int .u64 (x : Int) /\ Hid (x = 0 \/ ∃ s, sl D x = some s) /\ Hid ((ups D x).contains n = z) /\ Hid (Below w.heap.size w wr)) (fun v _ => dep lv (intOf v).toNat)
 case atStart => exact ⟨h, 0, rfl, hh, HZ, Below.refl _ _⟩
 case round =>
  obtain ⟨x, k, rfl, hx, hk, hbw⟩ := hrel
  by_cases h0 : x = 0
  ·have hb : ((x : Int) == 0) = true := by simp [h0]
   have hzz : z = false := by have := hk.out; rw [h0, ups_zero] at this; simpa using this.symm
   clear h0 hk HZ
   go_wp2
   go_ret
   exact ⟨congrArg _ (v_bool hzz.symm), hbw.out⟩
  ·have hb : ((x : Int) == 0) = false := by simp; omega
   obtain ⟨s, hs⟩ : ∃ s, sl D x = some s := by
    rcases hx.out with h | h
    ·exact absurd h h0
    ·exact h
   have hst := hk.out
   rw [ups_step HL.out hs] at hst
   by_cases hn : x = n
   ·have hb2 : ((x : Int) == (n : Int)) = true := by simp [hn]
    have hzz : z = true := by rw [<- hst, hn]; simp
    clear h0 hk HZ hst hn hs
    go_wp2
    go_ret
    exact ⟨congrArg _ (v_bool hzz.symm), hbw.out⟩
   ·have hb2 : ((x : Int) == (n : Int)) = false := by simp; omega
    have HK : Hid ((ups D s.parent).contains n = z) := by
     show _ = _
     rw [<- hst, List.contains_cons]
     have : (n == x) = false := by simp; omega
     rw [this, Bool.false_or]
    obtain ⟨hdp, hpp⟩ := dep_par HL.out hs
    obtain ⟨hxl, -, i, ha, hsi, -⟩ := HW.out.lt hs
    have hv' := HV.out.below hbw.out
    obtain ⟨b, o, cap, aa, ac, ka, kc, h1, hcl, hbR, c0, c1, c2, c3, c4, c5, c6, c7, -⟩ := hv'.slot hsi
    have hfi := find_some wr R db D x i hv' HW.out.fits hxl ha b o cap h1
    have hbl := hv'.lt b hbR
    have HD : Hid (dep lv s.parent < dep lv x) := by show _ < _; omega
    have HP := hid hpp
    clear hdp hpp hv' ha hsi hs h0 hk hx c0 c1 c2 c3 c4 c5 c7 hcl hst hn
    go_wp2_with fail
    refine hfi.mono ?_
    rintro e w2 ⟨rfl, hb2⟩
    obtain ⟨hcc, -⟩ := bcell hb2
    have HB2 := hid (hbw.out.trans (hb2.mono hbw.out.size))
    clear hb2
    go_wp2
    go_roundw
    case rel => exact ⟨s.parent, k, rfl, HP, HK, HB2⟩
    case measure => simpa [intOf] using HD.out
end Go.Proofs.YtjkgjckkglfokaaGreat.Gr
/- The document: a handle's slot, its children, what lies around it. -/
namespace Go.Proofs.YtjkgjckkglfokaaGreat.Gr
open Go.RowKit
set_option linter.unusedVariables false
set_option linter.unusedSimpArgs false
set_option maxRecDepth 100000
set_option maxHeartbeats 1000000
attribute [local go_sem] Bel.cell Bel.fz
theorem bits_hnd (g i : Nat) (hg : g < 4294967296) (hi : i < 4294967295) : bits .or .u64 ((g : Int) * 4294967296) ((i : Int) + 1) = (hnd i g : Int) := by
 have h := bits_or_u64_nat (g * 4294967296) (i + 1) (by omega) (by omega)
 have e1 : ((g * 4294967296 : Nat) : Int) = (g : Int) * 4294967296 := by omega
 have e2 : ((i + 1 : Nat) : Int) = (i : Int) + 1 := by omega
 rw [e1, e2] at h
 rw [h]
 have := Nat.shiftLeft_add_eq_or_of_lt (b := i + 1) (i := 32) (by omega) g
 rw [Nat.shiftLeft_eq] at this
 unfold hnd
 rw [<- this]
theorem rhandle_any (w : World) (R : Nat -> Prop) (db : Nat) (D : Dc) (i : Nat) (s : Sl) (hv : View w R db D) (hf : Fits D) (hs : D.S[i]? = some s) :
  Calls Tryz.prog 69 #[.pointer (some ⟨db, 0, none⟩), .int .i64 (i : Int)] w fun e w' => e = .returned (.int .u64 (hnd i s.gen : Int)) /\ w' = w := by
 obtain ⟨b, o, cap, aa, ac, ka, kc, h1, hcl, hbR, c0, -⟩ := hv.slot hs
 have hg := hf.gen i s hs
 have hl := hf.len
 have hi := (List.getElem?_eq_some_iff.1 hs).1
 clear hv hf hs
 go_enter Tryz.func69, Tryz.ntmps69
 go_wp2
 go_ret
 exact ⟨congrArg _ (v_int (bits_hnd s.gen i hg (by omega))), rfl⟩
def atR (S : List Sl) (h : Nat) : Int := match atI S h with | some i => i | none => -1
theorem rat_any (w : World) (R : Nat -> Prop) (db : Nat) (D : Dc) (h : Nat) (hv : View w R db D) (hf : Fits D) (hh : h < 18446744073709551616) :
  Calls Tryz.prog 28 #[.pointer (some ⟨db, 0, none⟩), .int .u64 (h : Int)] w fun e w' => e = .returned (.int .i64 (atR D.S h)) /\ w' = w := by
 have hl := hf.len
 obtain ⟨a, cap, h1, hcl, -⟩ := hv.head
 by_cases h0 : h % 4294967296 = 0
 ·have e1 : atR D.S h = -1 := by simp [atR, atI, h0]
  rw [e1]
  have hz : (h : Int) % 4294967296 - 1 < 0 := by omega
  clear e1 hv hf h0
  go_enter Tryz.func28, Tryz.ntmps28
  go_wp2
  go_ret
  exact ⟨rfl, rfl⟩
 ·by_cases hlen : D.S.length <= h % 4294967296 - 1
  ·have e1 : atR D.S h = -1 := by simp [atR, atI, h0, List.getElem?_eq_none hlen]
   rw [e1]
   have hz : decide ((h : Int) % 4294967296 - 1 < 0) = false := by simp; omega
   have hz2 : ((D.S.length : Nat) : Int) <= (h : Int) % 4294967296 - 1 := by omega
   clear e1 hv hf h0
   go_enter Tryz.func28, Tryz.ntmps28
   go_wp2
   go_ret
   exact ⟨rfl, rfl⟩
  ·obtain ⟨i, hi⟩ : ∃ i, h % 4294967296 = i + 1 := ⟨h % 4294967296 - 1, by omega⟩
   obtain ⟨s, hs⟩ : ∃ s, D.S[i]? = some s := ⟨_, List.getElem?_eq_getElem (by omega)⟩
   have hlt := (List.getElem?_eq_some_iff.1 hs).1
   obtain ⟨b, o, cap', aa, ac, ka, kc, h1', hcl', hbR, c0, c1, -⟩ := hv.slot hs
   have hhd := rhandle_any w R db D i s hv hf hs
   rw [h1] at h1'
   simp only [Option.some.injEq, Value.slice.injEq, true_and] at h1'
   obtain ⟨rfl, rfl⟩ := h1'
   have hi1 : (h : Int) % 4294967296 - 1 = (i : Int) := by omega
   have hz : decide ((i : Int) < 0) = false := by simp
   have hz2 : decide (D.S.length <= i) = false := by simp; omega
   have hg := hf.gen i s hs
   cases hlv : s.live
   ·have e1 : atR D.S h = -1 := by simp [atR, atI, hi, hs, hlv]
    rw [e1]
    rw [hlv] at c1
    clear e1 hv hf h0 hhd hs hlv
    go_enter Tryz.func28, Tryz.ntmps28
    go_wp2
    go_ret
    exact ⟨rfl, rfl⟩
   ·rw [hlv] at c1
    by_cases he : hnd i s.gen = h
    ·have e1 : atR D.S h = (i : Int) := by
      have hq : h / 4294967296 = s.gen := by rw [<- he]; unfold hnd; omega
      simp [atR, atI, hi, hs, hlv, hq]
     rw [e1]
     have hb : ((hnd i s.gen : Int) == (h : Int)) = true := by simp [he]
     clear e1 hv hf h0 hs hlv he
     generalize hnd i s.gen = y at *
     go_enter Tryz.func28, Tryz.ntmps28
     go_wp2_with fail
     refine hhd.mono ?_
     rintro e w' ⟨rfl, rfl⟩
     go_wp2
     go_ret
     exact ⟨rfl, rfl⟩
    ·have e1 : atR D.S h = -1 := by
      have hq : ¬ s.gen = h / 4294967296 := by
       intro hq
       apply he
       unfold hnd
       omega
      simp [atR, atI, hi, hs, hlv, hq]
     rw [e1]
     have hb : ((hnd i s.gen : Int) == (h : Int)) = false := by simp; omega
     clear e1 hv hf h0 hs hlv he
     generalize hnd i s.gen = y at *
     go_enter Tryz.func28, Tryz.ntmps28
     go_wp2_with fail
     refine hhd.mono ?_
     rintro e w' ⟨rfl, rfl⟩
     go_wp2
     go_ret
     exact ⟨rfl, rfl⟩
theorem rlive_any (w : World) (R : Nat -> Prop) (db : Nat) (D : Dc) (h : Nat) (hv : View w R db D) (hf : Fits D) (hh : h < 18446744073709551616) :
  Calls Tryz.prog 9 #[.pointer (some ⟨db, 0, none⟩), .int .u64 (h : Int)] w fun e w' => e = .returned (.bool (atI D.S h).isSome) /\ w' = w := by
 have hat := rat_any w R db D h hv hf hh
 cases ha : atI D.S h with
 | none =>
  have e1 : atR D.S h = -1 := by simp [atR, ha]
  rw [e1] at hat
  clear e1 hv ha
  go_enter Tryz.func9, Tryz.ntmps9
  go_wp2_with fail
  refine hat.mono ?_
  rintro e w' ⟨rfl, rfl⟩
  go_wp2
  go_ret
  exact ⟨rfl, rfl⟩
 | some i =>
  have e1 : atR D.S h = (i : Int) := by simp [atR, ha]
  rw [e1] at hat
  clear e1 hv ha
  go_enter Tryz.func9, Tryz.ntmps9
  go_wp2_with fail
  refine hat.mono ?_
  rintro e w' ⟨rfl, rfl⟩
  go_wp2
  go_ret
  exact ⟨congrArg _ (v_bool (by simp)), rfl⟩
theorem View.lst {w : World} {R : Nat -> Prop} {db : Nat} {D : Dc} (hv : View w R db D) {p : Nat} (hp : p = 0 \/ ∃ s, sl D p = some s) : ∃ a cap, (lst D p).length <= cap /\ HandsAt w R a (lst D p) /\
  ((p = 0 /\ w.cell? ⟨db, 1, none⟩ = some (.slice a (lst D p).length cap)) \/ (p ≠ 0 /\ ∃ i b o cap', atI D.S p = some i /\ i < D.S.length /\ w.cell? ⟨db, 0, none⟩ = some (.slice (some ⟨b, o, none⟩) D.S.length cap') /\ D.S.length <= cap' /\ R b /\ w.cell? ⟨b, o + i * 8 + 7, none⟩ = some (.slice a (lst D p).length cap))) := by
 rcases hp with rfl | ⟨s, hs⟩
 ·obtain ⟨a, cap, h1, h2, h3⟩ := hv.roots
  exact ⟨a, cap, h2, h3, .inl ⟨rfl, h1⟩⟩
 ·have h0 : p ≠ 0 := by rintro rfl; rw [sl_zero] at hs; cases hs
  obtain ⟨i, ha, hsi, _⟩ := sl_live hs
  obtain ⟨b, o, cap, aa, ac, ka, kc, h1, hcl, hbR, c0, c1, c2, c3, c4, c5, c6, c7, l1, l2, h3, h4⟩ := hv.slot hsi
  have e : Go.Proofs.YtjkgjckkglfokaaGreat.Gr.lst D p = s.kids := by simp [Go.Proofs.YtjkgjckkglfokaaGreat.Gr.lst, h0, hs]
  rw [e]
  exact ⟨ka, kc, l2, h4, .inr ⟨h0, i, b, o, cap, ha, (List.getElem?_eq_some_iff.1 hsi).1, h1, hcl, hbR, c7⟩⟩
end Go.Proofs.YtjkgjckkglfokaaGreat.Gr
/- The document: lists, levels, what lies within. -/
namespace Go.Proofs.YtjkgjckkglfokaaGreat.Gr
open Go.RowKit
set_option linter.unusedVariables false
set_option linter.unusedSimpArgs false
set_option maxRecDepth 100000
set_option maxHeartbeats 400000
attribute [local go_sem] Bel.cell Bel.fz
theorem atR_some {S : List Sl} {h i : Nat} (e : atI S h = some i) : atR S h = (i : Int) := by simp [atR, e]
theorem rlist_any (w : World) (R : Nat -> Prop) (db : Nat) (D : Dc) (p : Nat) (hv : View w R db D) (hf : Fits D) (hh : p < 18446744073709551616) (hp : p = 0 \/ ∃ s, sl D p = some s) :
  ∃ a cap, (lst D p).length <= cap /\ HandsAt w R a (lst D p) /\ Calls Tryz.prog 32 #[.pointer (some ⟨db, 0, none⟩), .int .u64 (p : Int)] w fun e w' => e = .returned (.slice a (lst D p).length cap) /\ Below w.heap.size w w' := by
 obtain ⟨a, cap, h1, h2, h3⟩ := hv.lst hp
 refine ⟨a, cap, h1, h2, ?_⟩
 have hdl := hv.lt db hv.docs
 rcases h3 with ⟨h0, hc⟩ | ⟨h0, i, b, o, cap', ha, hil, hc, hcl, hbR, hk⟩
 ·have hb : ((p : Int) == 0) = true := by simp [h0]
  generalize (lst D p).length = n at *
  clear hv hp h2 h0
  go_enter Tryz.func32, Tryz.ntmps32
  go_wp2
  go_ret
  exact ⟨rfl, Below.refl _ _⟩
 ·have hb : ((p : Int) == 0) = false := by simp; omega
  have hat := fun W (hb : Below w.heap.size w W) => rat_any W R db D p (hv.below hb) hf hh
  rw [atR_some ha] at hat
  have hbl := hv.lt b hbR
  have hi1 : (i : Int) < ((D.S.length : Nat) : Int) := by omega
  have hl4 := hf.len
  generalize (lst D p).length = n at *
  clear hv hp h2 h0 ha
  go_enter Tryz.func32, Tryz.ntmps32
  go_wp2
  refine wp_region_bel (by kernel_rfl) (by kernel_rfl) ?_
  intro hne
  repeat go_big_quiet_step ((go_at_call 28; exact Calls.bel_of_same (hat _ (Bel.h _))))
  refine wpQuiet_nil ?_
  rintro _ ⟨u, rfl⟩
  go_wp2
  go_ret
  exact ⟨rfl, u.h⟩
theorem rlevel_any (w : World) (R : Nat -> Prop) (db : Nat) (D : Dc) (h : Nat) (hv : View w R db D) (hw : WF D) (hh : h = 0 \/ ∃ s, sl D h = some s) :
  Calls Tryz.prog 73 #[.pointer (some ⟨db, 0, none⟩), .int .u64 (h : Int)] w fun e w' => e = .returned (.int .i64 (((ups D h).length : Int) - 1)) /\ Below w.heap.size w w' := by
 obtain ⟨lv, hlv⟩ := hw.lev
 rw [ups_length hlv hh]
 have hd64 := dep_le hlv hh
 have HV := hid hv
 have HW := hid hw
 have HL := hid hlv
 clear hv hw hlv
 go_enter Tryz.func73, Tryz.ntmps73
 go_wp2
 go_loopw [1, 5] (fun v c wr => ∃ (x k : Nat), v = .int .u64 (x : Int) /\ c = .int .i64 ((k : Int) - 1) /\ Hid (x = 0 \/ ∃ s, sl D x = some s) /\ Hid (k + dep lv x = dep lv h) /\ k <= 64 /\ Hid (Below w.heap.size w wr)) (fun v c _ => 64 - (intOf c + 1).toNat)
 case atStart => exact ⟨h, 0, rfl, rfl, hh, Nat.zero_add _, by omega, Below.refl _ _⟩
 case round =>
  obtain ⟨x, k, rfl, rfl, hx, hk, hk64, hbw⟩ := hrel
  by_cases h0 : x = 0
  ·have hb : ((x : Int) == 0) = true := by simp [h0]
   have hkk : k = dep lv h := by have := hk.out; rw [h0] at this; simpa [dep] using this
   clear h0 hk
   go_wp2
   go_ret
   exact ⟨congrArg _ (v_int (by omega)), hbw.out⟩
  ·have hb : ((x : Int) == 0) = false := by simp; omega
   obtain ⟨s, hs⟩ : ∃ s, sl D x = some s := by
    rcases hx.out with h | h
    ·exact absurd h h0
    ·exact h
   obtain ⟨hdp, hpp⟩ := dep_par HL.out hs
   have hkk := hk.out
   have hdx := dep_le HL.out (.inr ⟨s, hs⟩)
   obtain ⟨hxl, -, i, ha, hsi, -⟩ := HW.out.lt hs
   have hv' := HV.out.below hbw.out
   obtain ⟨b, o, cap, aa, ac, ka, kc, h1, hcl, hbR, c0, c1, c2, c3, c4, c5, c6, c7, -⟩ := hv'.slot hsi
   have hat : ∀ W, Below wr.heap.size wr W -> _ := fun W (hb : Below wr.heap.size wr W) => rat_any W R db D x (hv'.below hb) HW.out.fits hxl
   rw [atR_some ha] at hat
   have hbl := hv'.lt b hbR
   have hdl := hv'.lt db hv'.docs
   have hi1 : (i : Int) < ((D.S.length : Nat) : Int) := by have := (List.getElem?_eq_some_iff.1 hsi).1; omega
   have hl4 := HW.out.fits.len
   have HK : Hid (k + 1 + dep lv s.parent = dep lv h) := by show _ = _; omega
   have HP := hid hpp
   have hk63 : k + 1 <= 64 := by omega
   clear hdp hpp hkk hdx hv' ha hsi hs h0 hk hx c0 c1 c2 c3 c4 c5 c7
   go_wp2
   refine wp_region_bel (by kernel_rfl) (by kernel_rfl) ?_
   intro hne
   repeat go_big_quiet_step ((go_at_call 28; exact Calls.bel_of_same (hat _ (Bel.h _))))
   refine wpQuiet_nil ?_
   rintro _ ⟨u, rfl⟩
   have HB2 := hid (hbw.out.trans (u.h.mono hbw.out.size))
   go_wp2
   go_roundw
   case rel => exact ⟨s.parent, k + 1, rfl, congrArg _ (by omega), HP, HK, hk63, HB2⟩
   case measure => simp [intOf]; omega
theorem rwithin_any (w : World) (R : Nat -> Prop) (db : Nat) (D : Dc) (h n : Nat) (hv : View w R db D) (hw : WF D) (hh : h = 0 \/ ∃ s, sl D h = some s) (hn0 : n ≠ 0) (z : Bool) (hz : (ups D h).contains n = z) :
  Calls Tryz.prog 77 #[.pointer (some ⟨db, 0, none⟩), .int .u64 (h : Int), .int .u64 (n : Int)] w fun e w' => e = .returned (.bool z) /\ Below w.heap.size w w' := by
 obtain ⟨lv, hlv⟩ := hw.lev
 have HV := hid hv
 have HW := hid hw
 have HL := hid hlv
 have HZ := hid hz
 clear hv hw hlv hz
 go_enter Tryz.func77, Tryz.ntmps77
 go_wp2
 go_loopw [1] (fun v wr => ∃ (x : Nat), v = .int .u64 (x : Int) /\ Hid (x = 0 \/ ∃ s, sl D x = some s) /\ Hid ((ups D x).contains n = z) /\ Hid (Below w.heap.size w wr)) (fun v _ => dep lv (intOf v).toNat)
 case atStart => exact ⟨h, rfl, hh, HZ, Below.refl _ _⟩
 case round =>
  obtain ⟨x, rfl, hx, hk, hbw⟩ := hrel
  by_cases h0 : x = 0
  ·have hb : ((x : Int) != 0) = false := by simp [h0]
   have hzz : z = false := by have := hk.out; rw [h0, ups_zero] at this; simpa using this.symm
   have hb2 : ((x : Int) == (n : Int)) = false := by simp; omega
   clear h0 hk HZ
   go_wp2
   go_ret
   exact ⟨congrArg _ (v_bool hzz.symm), hbw.out⟩
  ·have hb : ((x : Int) != 0) = true := by simp; omega
   obtain ⟨s, hs⟩ : ∃ s, sl D x = some s := by
    rcases hx.out with h | h
    ·exact absurd h h0
    ·exact h
   have hst := hk.out
   rw [ups_step HL.out hs] at hst
   by_cases hn : x = n
   ·have hb2 : ((x : Int) != (n : Int)) = false := by simp [hn]
    have hb4 : ((x : Int) == (n : Int)) = true := by simp [hn]
    have hzz : z = true := by rw [<- hst, hn]; simp
    clear h0 hk HZ hst hn hs
    go_wp2
    go_ret
    exact ⟨congrArg _ (v_bool hzz.symm), hbw.out⟩
   ·have hb2 : ((x : Int) != (n : Int)) = true := by simp; omega
    have HK : Hid ((ups D s.parent).contains n = z) := by
     show _ = _
     rw [<- hst, List.contains_cons]
     have : (n == x) = false := by simp; omega
     rw [this, Bool.false_or]
    obtain ⟨hdp, hpp⟩ := dep_par HL.out hs
    obtain ⟨hxl, -, i, ha, hsi, -⟩ := HW.out.lt hs
    have hv' := HV.out.below hbw.out
    obtain ⟨b, o, cap, aa, ac, ka, kc, h1, hcl, hbR, c0, c1, c2, c3, c4, c5, c6, c7, -⟩ := hv'.slot hsi
    have hat : ∀ W, Below wr.heap.size wr W -> _ := fun W (hb : Below wr.heap.size wr W) => rat_any W R db D x (hv'.below hb) HW.out.fits hxl
    rw [atR_some ha] at hat
    have hbl := hv'.lt b hbR
    have hdl := hv'.lt db hv'.docs
    have hi1 : (i : Int) < ((D.S.length : Nat) : Int) := by have := (List.getElem?_eq_some_iff.1 hsi).1; omega
    have hl4 := HW.out.fits.len
    have HD : Hid (dep lv s.parent < dep lv x) := by show _ < _; omega
    have HP := hid hpp
    clear hdp hpp hv' ha hsi hs h0 hk hx c0 c1 c2 c3 c4 c5 c7 hst hn
    go_wp2
    refine wp_region_bel (by kernel_rfl) (by kernel_rfl) ?_
    intro hne
    repeat go_big_quiet_step ((go_at_call 28; exact Calls.bel_of_same (hat _ (Bel.h _))))
    refine wpQuiet_nil ?_
    rintro _ ⟨u, rfl⟩
    have HB2 := hid (hbw.out.trans (u.h.mono hbw.out.size))
    go_wp2
    go_roundw
    case rel => exact ⟨s.parent, rfl, HP, HK, HB2⟩
    case measure => simpa [intOf] using HD.out
end Go.Proofs.YtjkgjckkglfokaaGreat.Gr
/- A node and all within it, in plain. -/
namespace Go.Proofs.YtjkgjckkglfokaaGreat.Gr
open Go.RowKit
set_option linter.unusedVariables false
set_option linter.unusedSimpArgs false
def alls (D : Dc) : Nat -> Nat -> List Nat
 | 0, _ => []
 | k + 1, h => h :: (lst D h).flatMap (alls D k)
def allH (D : Dc) (h : Nat) : List Nat := alls D 64 h
theorem flatMap_congr' {α β : Type} {l : List α} {f g : α -> List β} (h : ∀ x ∈ l, f x = g x) : l.flatMap f = l.flatMap g := by
 induction l with
 | nil => rfl
 | cons a r ih => rw [List.flatMap_cons, List.flatMap_cons, h a (by simp), ih (fun x hx => h x (by simp [hx]))]
theorem WF.kid {D : Dc} (hw : WF D) {lv : Nat -> Nat} (hl : Lev D lv) {p : Nat} {q : Sl} (hp : sl D p = some q) {c : Nat} (hc : c ∈ lst D p) : ∃ s, sl D c = some s /\ s.parent = p /\ lv c = lv p + 1 := by
 obtain ⟨s, h1, h2⟩ := hw.down p (.inr ⟨q, hp⟩) c hc
 refine ⟨s, h1, h2, ?_⟩
 have h0 : p ≠ 0 := by rintro rfl; rw [sl_zero] at hp; cases hp
 rcases hl.par h1 with ⟨h3, _⟩ | ⟨_, _, h4⟩
 ·rw [h2] at h3; exact absurd h3 h0
 ·rw [h4, h2]
theorem WF.root {D : Dc} (hw : WF D) {lv : Nat -> Nat} (hl : Lev D lv) {c : Nat} (hc : c ∈ D.roots) : ∃ s, sl D c = some s /\ s.parent = 0 /\ lv c = 0 := by
 obtain ⟨s, h1, h2⟩ := hw.down 0 (.inl rfl) c (by simpa [lst] using hc)
 refine ⟨s, h1, h2, ?_⟩
 rcases hl.par h1 with ⟨_, h4⟩ | ⟨q, h3, _⟩
 ·exact h4
 ·rw [h2, sl_zero] at h3; cases h3
theorem alls_eq {D : Dc} (hw : WF D) {lv : Nat -> Nat} (hl : Lev D lv) : ∀ (k : Nat) (h : Nat) (s : Sl), sl D h = some s -> 64 - lv h <= k -> ∀ j, 64 - lv h <= j -> alls D k h = alls D j h
 | 0, h, s, e, hk => by have := (hl h s e).1; omega
 | k + 1, h, s, e, hk => by
  intro j hj
  cases j with
  | zero => have := (hl h s e).1; omega
  | succ j =>
   rw [alls, alls]
   refine congrArg _ (flatMap_congr' fun c hc => ?_)
   obtain ⟨s', h1, _, h2⟩ := hw.kid hl e hc
   exact alls_eq hw hl k c s' h1 (by omega) j (by omega)
theorem allH_step {D : Dc} (hw : WF D) {h : Nat} {s : Sl} (e : sl D h = some s) : allH D h = h :: (lst D h).flatMap (allH D) := by
 obtain ⟨lv, hl⟩ := hw.lev
 unfold allH
 rw [alls]
 refine congrArg _ (flatMap_congr' fun c hc => ?_)
 obtain ⟨s', h1, _, h2⟩ := hw.kid hl e hc
 exact alls_eq hw hl 63 c s' h1 (by omega) 64 (by omega)
theorem alls_ups {D : Dc} (hw : WF D) {lv : Nat -> Nat} (hl : Lev D lv) : ∀ (k : Nat) (h : Nat) (s : Sl), sl D h = some s -> ∀ x ∈ alls D k h, (∃ s', sl D x = some s') /\ h ∈ ups D x
 | 0, h, s, e, x, hx => by simp [alls] at hx
 | k + 1, h, s, e, x, hx => by
  rw [alls, List.mem_cons, List.mem_flatMap] at hx
  rcases hx with rfl | ⟨c, hc, hx⟩
  ·exact ⟨⟨s, e⟩, by rw [ups_step hl e]; simp⟩
  ·obtain ⟨s', h1, hp, _⟩ := hw.kid hl e hc
   obtain ⟨h2, h3⟩ := alls_ups hw hl k c s' h1 x hx
   refine ⟨h2, ?_⟩
   clear hx
   obtain ⟨sx, hsx⟩ := h2
   have key : ∀ (m : Nat) (y : Nat) (sy : Sl), sl D y = some sy -> lv y <= m -> c ∈ ups D y -> h ∈ ups D y := by
    intro m
    induction m with
    | zero =>
     intro y sy hy hm hcy
     rw [ups_step hl hy, List.mem_cons] at hcy
     rcases hcy with rfl | hcy
     ·rw [hy] at h1
      cases h1
      rw [ups_step hl hy, hp, ups_step hl e]
      simp
     ·rcases hl.par hy with ⟨h4, _⟩ | ⟨_, _, h5⟩
      ·rw [h4, ups_zero] at hcy; simp at hcy
      ·omega
    | succ m ih =>
     intro y sy hy hm hcy
     rw [ups_step hl hy, List.mem_cons] at hcy
     rcases hcy with rfl | hcy
     ·rw [hy] at h1
      cases h1
      rw [ups_step hl hy, hp, ups_step hl e]
      simp
     ·rw [ups_step hl hy]
      rcases hl.par hy with ⟨h4, _⟩ | ⟨q, h4, h5⟩
      ·rw [h4, ups_zero] at hcy; simp at hcy
      ·exact List.mem_cons_of_mem _ (ih _ q h4 (by omega) hcy)
   exact key (lv x) x sx hsx (Nat.le_refl _) h3
theorem ups_one {D : Dc} {lv : Nat -> Nat} (hl : Lev D lv) : ∀ (m : Nat) (x : Nat) (s : Sl), sl D x = some s -> lv x <= m -> (∀ y ∈ ups D x, lv y <= lv x) /\ ∀ y ∈ ups D x, ∀ z ∈ ups D x, lv y = lv z -> y = z
 | m, x, s, e, hm => by
  rw [ups_step hl e]
  rcases hl.par e with ⟨h1, h2⟩ | ⟨q, h1, h2⟩
  ·rw [h1, ups_zero]
   simp
  ·cases m with
   | zero => omega
   | succ m =>
    obtain ⟨i1, i2⟩ := ups_one hl m s.parent q h1 (by omega)
    refine ⟨fun y hy => ?_, fun y hy z hz hyz => ?_⟩
    ·rcases List.mem_cons.1 hy with rfl | hy
     ·exact Nat.le_refl _
     ·have := i1 y hy; omega
    ·rcases List.mem_cons.1 hy with h3 | h3
     ·rcases List.mem_cons.1 hz with h4 | h4
      ·rw [h3, h4]
      ·have := i1 z h4; rw [h3] at hyz; omega
     ·rcases List.mem_cons.1 hz with h4 | h4
      ·have := i1 y h3; rw [h4] at hyz; omega
      ·exact i2 y h3 z h4 hyz
theorem sib_nodup {D : Dc} (hw : WF D) {lv : Nat -> Nat} (hl : Lev D lv) {k : Nat} {l : List Nat} {m : Nat} (hn : l.Nodup) (hm : ∀ c ∈ l, ∃ s, sl D c = some s /\ lv c = m) (ih : ∀ c ∈ l, (alls D k c).Nodup) : (l.flatMap (alls D k)).Nodup := by
 unfold List.Nodup at *
 rw [List.pairwise_flatMap]
 refine ⟨ih, ?_⟩
 refine List.Pairwise.imp_of_mem (fun {a b} ha hb hab => ?_) hn
 intro x hx y hy he
 subst he
 obtain ⟨sa, h1, h2⟩ := hm a ha
 obtain ⟨sb, h3, h4⟩ := hm b hb
 obtain ⟨⟨s', hs'⟩, u1⟩ := alls_ups hw hl k a sa h1 x hx
 obtain ⟨_, u2⟩ := alls_ups hw hl k b sb h3 x hy
 exact hab ((ups_one hl (lv x) x s' hs' (Nat.le_refl _)).2 a u1 b u2 (by omega))
theorem alls_nodup {D : Dc} (hw : WF D) {lv : Nat -> Nat} (hl : Lev D lv) : ∀ (k : Nat) (h : Nat) (s : Sl), sl D h = some s -> (alls D k h).Nodup
 | 0, h, s, e => by simp [alls]
 | k + 1, h, s, e => by
  rw [alls, List.nodup_cons]
  refine ⟨fun hx => ?_, sib_nodup hw hl (m := lv h + 1) (hw.nodup h) (fun c hc => ?_) (fun c hc => ?_)⟩
  ·obtain ⟨c, hc, hx⟩ := List.mem_flatMap.1 hx
   obtain ⟨s', h1, _, h2⟩ := hw.kid hl e hc
   obtain ⟨_, u⟩ := alls_ups hw hl k c s' h1 h hx
   have := (ups_one hl (lv h) h s e (Nat.le_refl _)).1 c u
   omega
  ·obtain ⟨s', h1, _, h2⟩ := hw.kid hl e hc
   exact ⟨s', h1, h2⟩
  ·obtain ⟨s', h1, _, _⟩ := hw.kid hl e hc
   exact alls_nodup hw hl k c s' h1
def allR (D : Dc) : List Nat := D.roots.flatMap (allH D)
theorem allR_nodup {D : Dc} (hw : WF D) : (allR D).Nodup := by
 obtain ⟨lv, hl⟩ := hw.lev
 have hn := hw.nodup 0
 have e : lst D 0 = D.roots := by simp [lst]
 rw [e] at hn
 exact sib_nodup hw hl (m := 0) hn (fun c hc => by obtain ⟨s, h1, _, h2⟩ := hw.root hl hc; exact ⟨s, h1, h2⟩) (fun c hc => by obtain ⟨s, h1, _, _⟩ := hw.root hl hc; exact alls_nodup hw hl _ c s h1)
theorem allH_nodup {D : Dc} (hw : WF D) {h : Nat} {s : Sl} (e : sl D h = some s) : (allH D h).Nodup := by
 obtain ⟨lv, hl⟩ := hw.lev
 exact alls_nodup hw hl _ h s e
theorem allH_live {D : Dc} (hw : WF D) {h : Nat} {s : Sl} (e : sl D h = some s) : ∀ x ∈ allH D h, ∃ s', sl D x = some s' := by
 obtain ⟨lv, hl⟩ := hw.lev
 exact fun x hx => (alls_ups hw hl _ h s e x hx).1
theorem allR_live {D : Dc} (hw : WF D) : ∀ x ∈ allR D, ∃ s', sl D x = some s' := by
 obtain ⟨lv, hl⟩ := hw.lev
 intro x hx
 obtain ⟨c, hc, hx⟩ := List.mem_flatMap.1 hx
 obtain ⟨s, h1, _⟩ := hw.root hl hc
 exact allH_live hw h1 x hx
theorem nodup_len : ∀ (N : Nat) (L : List Nat), L.Nodup -> (∀ x ∈ L, x < N) -> L.length <= N
 | 0, L, _, h => by
  cases L with
  | nil => simp
  | cons a r => have := h a (by simp); omega
 | N + 1, L, hn, h => by
  have h1 := nodup_len N (L.erase N) (hn.erase N) (fun x hx => by
   have h2 := h x (List.mem_of_mem_erase hx)
   have h3 : x ≠ N := by rintro rfl; exact hn.not_mem_erase hx
   omega)
  by_cases hm : N ∈ L
  ·rw [List.length_erase_of_mem hm] at h1; omega
  ·rw [List.erase_of_not_mem hm] at h1; omega
theorem live_len {D : Dc} (hw : WF D) {L : List Nat} (hn : L.Nodup) (hl : ∀ x ∈ L, ∃ s, sl D x = some s) : L.length <= D.S.length := by
 have h1 : (L.map fun h => h % 4294967296 - 1).Nodup := by
  unfold List.Nodup
  rw [List.pairwise_map]
  refine List.Pairwise.imp_of_mem (fun {a b} ha hb hab => ?_) hn
  intro he
  obtain ⟨sa, h1⟩ := hl a ha
  obtain ⟨sb, h2⟩ := hl b hb
  obtain ⟨i, a1, a2, a3, a4⟩ := sl_live h1
  obtain ⟨j, b1, b2, b3, b4⟩ := sl_live h2
  obtain ⟨_, _, _, _, a5, _⟩ := atI_some a1
  obtain ⟨_, _, _, _, b5, _⟩ := atI_some b1
  rw [<- a5, <- b5] at he
  subst he
  rw [a2] at b2
  cases b2
  exact hab (a4.trans b4.symm)
 have h2 := nodup_len D.S.length _ h1 (fun x hx => by
  obtain ⟨h, hh, rfl⟩ := List.mem_map.1 hx
  obtain ⟨s, hs⟩ := hl h hh
  obtain ⟨i, a1, a2, _⟩ := sl_live hs
  obtain ⟨_, _, _, _, a5, _⟩ := atI_some a1
  have := (List.getElem?_eq_some_iff.1 a2).1
  omega)
 simpa using h2
end Go.Proofs.YtjkgjckkglfokaaGreat.Gr
/- A node and all within it: the program's gather and All. -/
namespace Go.Proofs.YtjkgjckkglfokaaGreat.Gr
open Go.RowKit
set_option linter.unusedVariables false
set_option linter.unusedSimpArgs false
set_option maxRecDepth 100000
set_option maxHeartbeats 1000000
def hvals (l : List Nat) : List Value := l.map fun h : Nat => .int .u64 (h : Int)
theorem hvals_length (l : List Nat) : (hvals l).length = l.length := by simp [hvals]
theorem hvals_append (l m : List Nat) : hvals (l ++ m) = hvals l ++ hvals m := by simp [hvals]
theorem hvals_one (l : List Nat) : ∀ u ∈ hvals l, u.oneCell' = true := by
 intro u hu
 obtain ⟨t, _, rfl⟩ := List.mem_map.1 hu
 rfl
theorem info42 : InfoOf Tryz.prog 27 (.int .u64 0) 1 8 := by unfold InfoOf; kernel_rfl
theorem own_len {w : World} {base : Nat} {e : TypeId} {v : Value} {n : Nat} {xs : List Nat} (h : w.ownsRow base e 1 v n (hvals xs)) : n = xs.length := by
 have := h.1
 rw [hvals_length] at this
 omega
theorem own_after {w w' : World} {base : Nat} {e : TypeId} {size : Nat} {v : Value} {n : Nat} {xs : List Value} (h : w.ownsRow base e size v n xs) (hb : Below w.heap.size w w') : w'.ownsRow base e size v n xs :=
 own_of_block h (fun k hk => hb.block k (own_block_lt h k hk).2)
def GathP (w : World) (base : Nat) (xs ys : List Nat) (e : Ending) (w' : World) : Prop :=
 ∃ v', e = .returned v' /\ w'.ownsRow base 27 1 v' (xs.length + ys.length) (hvals (xs ++ ys)) /\ Below base w w'
def GathAll (D : Dc) (R : Nat -> Prop) (db : Nat) (lv : Nat -> Nat) (k : Nat) : Prop := ∀ (w : World) (v : Value) (n : Nat) (xs : List Nat) (a : Option Addr) (l : List Nat) (cap base : Nat), View w R db D -> (∀ b, R b -> b < base) -> base <= w.heap.size -> w.ownsRow base 27 1 v n (hvals xs) -> HandsAt w R a l ->
  (∀ h ∈ l, ∃ s, sl D h = some s /\ 64 - lv h <= k) -> xs.length + (l.flatMap (allH D)).length <= 1000000 -> l.length <= 1000000 -> Calls Tryz.prog 93 #[.pointer (some ⟨db, 0, none⟩), v, .slice a l.length cap] w (GathP w base xs (l.flatMap (allH D)))
theorem flatMap_snoc {α β : Type} {l : List α} {f : α -> List β} {i : Nat} {x : α} (h : l[i]? = some x) : (l.take (i + 1)).flatMap f = (l.take i).flatMap f ++ f x := by
 rw [take_more h, List.flatMap_append]
 simp
theorem flatMap_part {α β : Type} (l : List α) (f : α -> List β) (i : Nat) : ((l.take i).flatMap f).length <= (l.flatMap f).length := by
 have : l.flatMap f = (l.take i).flatMap f ++ (l.drop i).flatMap f := by rw [<- List.flatMap_append, List.take_append_drop]
 rw [this]
 simp
theorem gather_step (D : Dc) (R : Nat -> Prop) (db : Nat) (lv : Nat -> Nat) (hw : WF D) (hl : Lev D lv) (k : Nat) (ih : ∀ j, j + 1 = k -> GathAll D R db lv j) : GathAll D R db lv k := by
 intro w v n xs a l cap base hv hR hbase hown hat hlive htot hll
 have hn := own_len hown
 subst hn
 obtain ⟨va, vc, rfl⟩ := own_slice hown
 have HV := hid hv
 have HW := hid hw
 have HL := hid hl
 have HR := hid hR
 have HAT := hid hat
 have HLV := hid hlive
 have HIH := hid ih
 have HOW := hid hown
 clear hv hw hl hR hat hlive ih hown
 go_enter Tryz.func93, Tryz.ntmps93
 go_wp2
 go_loopw [1, 8, 11] (fun q _ iv wr => ∃ (i : Nat) (qa : Option Addr) (qc : Nat), i <= l.length /\ iv = .int .i64 (i : Int) /\ q = .slice qa (xs ++ (l.take i).flatMap (allH D)).length qc /\ Hid (wr.ownsRow base 27 1 (.slice qa (xs ++ (l.take i).flatMap (allH D)).length qc) (xs ++ (l.take i).flatMap (allH D)).length (hvals (xs ++ (l.take i).flatMap (allH D)))) /\ Hid (Below base w wr)) (fun _ _ iv _ => l.length - (intOf iv).toNat)
 case atStart => exact ⟨0, va, vc, by omega, rfl, by simp, (by rw [List.take_zero, List.flatMap_nil, List.append_nil]; exact HOW), Below.refl _ _⟩
 case round =>
  obtain ⟨i, qa, qc, hi, rfl, rfl, hrow, hbw⟩ := hrel
  have hbs := hbw.out.size
  by_cases hlt : i < l.length
  ·obtain ⟨x, hx⟩ : ∃ x, l[i]? = some x := ⟨_, List.getElem?_eq_getElem hlt⟩
   obtain ⟨s, hs, hk⟩ := HLV.out x (List.mem_of_getElem? hx)
   obtain ⟨b, o, ha, hbR, hc⟩ := HAT.out i x hx
   subst ha
   have hbb := HR.out b hbR
   have hc' : wr.cell? ⟨b, o + i, none⟩ = some (.int .u64 (x : Int)) := (hbw.out.cell (p := ⟨b, _, none⟩) hbb).trans hc
   have hbl : b < wr.heap.size := by omega
   have hvr : View wr R db D := HV.out.to (fun _ h => h) (fun b hb => by have := HR.out b hb; omega) (fun b o hb => hbw.out.cell (p := ⟨b, o, none⟩) (HR.out b hb))
   obtain ⟨hxl, -, j, haj, hsj, -⟩ := HW.out.lt hs
   have hst := allH_step HW.out hs
   have hsn := flatMap_snoc (f := allH D) hx
   have hpt := flatMap_part l (allH D) (i + 1)
   have hkd : ∀ c ∈ lst D x, ∃ s, sl D c = some s /\ 64 - lv c <= k - 1 := fun c hc => by
    obtain ⟨s', h1, _, h2⟩ := HW.out.kid HL.out hs hc
    exact ⟨s', h1, by omega⟩
   have hlv63 := (HL.out x s hs).1
   have hih := HIH.out (k - 1) (by omega)
   rw [hst] at hsn
   have hszA : (xs ++ (l.take i).flatMap (allH D)).length + 1 + ((lst D x).flatMap (allH D)).length <= 1000000 := by
    rw [hsn] at hpt
    simp only [List.length_append, List.length_cons] at hpt ⊢
    omega
   have hkl : (lst D x).length <= 1000000 := by
    have hks : ((lst D x).length <= ((lst D x).flatMap (allH D)).length) := by
     clear hszA hpt hsn hst hih
     have : ∀ (m : List Nat), (∀ c ∈ m, ∃ s, sl D c = some s) -> m.length <= (m.flatMap (allH D)).length := by
      intro m
      induction m with
      | nil => simp
      | cons c r ihm =>
       intro hm
       obtain ⟨sc, hsc⟩ := hm c (by simp)
       have := ihm (fun c hc => hm c (by simp [hc]))
       rw [List.flatMap_cons, allH_step HW.out hsc]
       simp only [List.length_cons, List.length_append]
       omega
     exact this _ (fun c hc => by obtain ⟨s', h1, _⟩ := hkd c hc; exact ⟨s', h1⟩)
    omega
   generalize hXS : xs ++ (l.take i).flatMap (allH D) = XS at *
   have HSN : Hid (xs ++ (l.take (i + 1)).flatMap (allH D) = XS ++ [x] ++ (lst D x).flatMap (allH D)) := by
    show _ = _
    rw [hsn, <- hXS]
    simp
   have HVR := hid hvr
   have HKD := hid hkd
   have HS := hid hs
   have HAJ := hid haj
   have HSJ := hid hsj
   clear hsn hst hpt hXS hvr hkd hs haj hsj hx hk HLV HIH HOW hc
   have tok : True := trivial
   go_wp2_with (at_builtin; have _t := tok; refine wpList_app rfl _ _ rfl Tryz.underlying23 info42 rfl (by decide) base (.slice qa XS.length qc) XS.length (hvals XS) rfl (own_of_block hrow.out (fun k hk => Below.heap_alloc _ _ _ (own_block_lt hrow.out k hk).2)) (some ⟨wr.heap.size, 0, none⟩) 1 1 [.int .u64 (x : Int)] rfl rfl (news_new wr #[.int .u64 (x : Int)] 27) (by simp [Value.oneCell']) (by unfold maxLen; omega) (by omega) (by simp; omega) ?_; intro v1 w1 hown1 hg1 _ hat1; clear tok _t; obtain ⟨va1, vc1, hv1⟩ := own_slice hown1; subst hv1; have HO1 : Hid (w1.ownsRow base 27 1 (.slice va1 (XS.length + 1) vc1) (XS.length + 1) (hvals (XS ++ [x]))) := (by rw [hvals_append]; exact hown1); have HB1 := hid ((hbw.out.alloc (by omega) _).grown hg1 (by simp; omega) (fun k hk => (own_block_lt hrow.out k hk).1)); clear hown1 hg1 hat1)
   have hv1 : View w1 R db D := HV.out.to (fun _ h => h) (fun b hb => by have := HR.out b hb; have := HB1.out.size; omega) (fun b o hb => HB1.out.cell (p := ⟨b, o, none⟩) (HR.out b hb))
   have hs1 := HB1.out.size
   obtain ⟨b2, o2, cap2, aa, ac, ka, kc, g1, gcl, gbR, c0, c1, c2, c3, c4, c5, c6, c7, l1, l2, -, hkat⟩ := hv1.slot HSJ.out
   have hfi := find_some w1 R db D x j hv1 HW.out.fits hxl HAJ.out b2 o2 cap2 g1
   have hb2l := HR.out b2 gbR
   have hek : lst D x = s.kids := by
    have h0 : x ≠ 0 := by rintro rfl; have := HS.out; rw [sl_zero] at this; cases this
    have := HS.out
    simp [lst, h0, this]
   rw [hek] at hszA hkl
   have HKD2 : Hid (∀ c ∈ s.kids, ∃ s, sl D c = some s /\ 64 - lv c <= k - 1) := by rw [<- hek]; exact HKD
   have HSN2 : Hid (xs ++ (l.take (i + 1)).flatMap (allH D) = XS ++ [x] ++ s.kids.flatMap (allH D)) := by rw [<- hek]; exact HSN
   have HKA := hid hkat
   have HV1 := hid hv1
   have hb2s : b2 < w1.heap.size := by omega
   clear c0 c1 c2 c3 c4 c5 c6 hkat hv1 g1 gcl HKD HSN hek HAJ HSJ HS hc' hrow
   refine hfi.mono ?_
   rintro e w2 ⟨rfl, hb2⟩
   obtain ⟨hcc, -⟩ := bcell hb2
   have HB2 := hid hb2
   have hs2 := hb2.size
   clear hb2 hfi
   go_wp2_with fail
   refine (hih w2 _ (XS.length + 1) (XS ++ [x]) ka s.kids kc base (HV1.out.below HB2.out) HR.out (by omega) (own_after HO1.out HB2.out) (HKA.out.to (fun _ h => h) (fun b o hb => HB2.out.cell (p := ⟨b, o, none⟩) (by have := HR.out b hb; show b < w1.heap.size; omega))) HKD2.out (by rw [List.length_append]; simpa using hszA) hkl).mono ?_
   rintro e w3 ⟨v3, rfl, hown3, hb3⟩
   obtain ⟨va3, vc3, hv3⟩ := own_slice hown3
   subst hv3
   have hln : (XS ++ [x]).length + (s.kids.flatMap (allH D)).length = (xs ++ (l.take (i + 1)).flatMap (allH D)).length := by rw [HSN2.out]; simp; omega
   rw [hln, <- HSN2.out] at hown3
   rw [hln]
   clear hln
   generalize hN : (xs ++ (l.take (i + 1)).flatMap (allH D)).length = N at hown3 ⊢
   have HN := hid hN
   have HO3 := hid hown3
   have HB3 := hid ((HB1.out.trans (HB2.out.mono (by omega))).trans hb3)
   clear hown3 hb3 hN HB2 HB1 HO1 HKA HV1 HKD2 HSN2 hcc hszA hkl hih
   go_wp2
   go_roundw
   case rel => exact ⟨i + 1, va3, vc3, by omega, by go_num, by rw [HN.out], by rw [HN.out]; exact HO3, HB3⟩
   case measure => simp [intOf]; omega
  ·have hie : i = l.length := by omega
   subst hie
   have hr := hrow.out
   rw [List.take_length] at hr
   have HR2 := hid hr
   rw [List.take_length]
   clear hr hrow HIH
   go_wp2
   go_ret
   exact ⟨_, rfl, by rw [<- List.length_append]; exact HR2.out, hbw.out⟩
theorem gather_any (D : Dc) (R : Nat -> Prop) (db : Nat) (lv : Nat -> Nat) (hw : WF D) (hl : Lev D lv) : ∀ k, GathAll D R db lv k
 | 0 => gather_step D R db lv hw hl 0 (fun j hj => by omega)
 | k + 1 => gather_step D R db lv hw hl (k + 1) (fun j hj => by
  have : j = k := by omega
  subst this
  exact gather_any D R db lv hw hl j)
end Go.Proofs.YtjkgjckkglfokaaGreat.Gr
/- All: the program's and the document's. -/
namespace Go.Proofs.YtjkgjckkglfokaaGreat.Gr
open Go.RowKit
set_option linter.unusedVariables false
set_option linter.unusedSimpArgs false
set_option maxRecDepth 100000
set_option maxHeartbeats 1000000
def AllP (w : World) (ys : List Nat) (e : Ending) (w' : World) : Prop :=
 ∃ a cap, e = .returned (.tuple #[.slice a ys.length cap, .int .i64 0]) /\ w'.ownsRow w.heap.size 27 1 (.slice a ys.length cap) ys.length (hvals ys) /\ Below w.heap.size w w'
theorem own_nil (w : World) (base : Nat) (e : TypeId) (size : Nat) : w.ownsRow base e size (.slice none 0 0) 0 [] := ⟨by simp, .inl ⟨rfl, rfl⟩⟩
theorem own_one (w : World) (x : Value) (e : TypeId) : (w.alloc (.cells #[x] e)).ownsRow w.heap.size e 1 (.slice (some ⟨w.heap.size, 0, none⟩) 1 1) 1 [x] :=
 ⟨rfl, .inr ⟨w.heap.size, 1, #[x], rfl, Nat.le_refl _, heap_alloc_new w _, Nat.le_refl _, by unfold maxLen; omega, rfl, rfl⟩⟩
theorem roots_len {D : Dc} (hw : WF D) : D.roots.length <= 4096 /\ (allR D).length <= 4096 := by
 have h1 := live_len hw (allR_nodup hw) (allR_live hw)
 have hl := hw.fits.len
 have hn := hw.nodup 0
 have e : lst D 0 = D.roots := by simp [lst]
 rw [e] at hn
 obtain ⟨lv, hlv⟩ := hw.lev
 have h2 := live_len hw hn (fun x hx => by obtain ⟨s, h, _⟩ := hw.root hlv hx; exact ⟨s, h⟩)
 omega
theorem kids_len {D : Dc} (hw : WF D) {h : Nat} {s : Sl} (e : sl D h = some s) : s.kids.length <= 4096 /\ (allH D h).length <= 4096 := by
 have h1 := live_len hw (allH_nodup hw e) (allH_live hw e)
 have hl := hw.fits.len
 have hn := hw.nodup h
 have h0 : h ≠ 0 := by rintro rfl; rw [sl_zero] at e; cases e
 have ek : lst D h = s.kids := by simp [lst, h0, e]
 obtain ⟨lv, hlv⟩ := hw.lev
 have h2 := live_len hw hn (fun x hx => by obtain ⟨s, h, _⟩ := hw.kid hlv e hx; exact ⟨s, h⟩)
 rw [ek] at h2
 omega
theorem lst_len {D : Dc} (hw : WF D) {p : Nat} (hp : p = 0 \/ ∃ s, sl D p = some s) : (lst D p).length <= 4096 := by
 rcases hp with rfl | ⟨s, hs⟩
 ·have := (roots_len hw).1
  simpa [lst] using this
 ·have h0 : p ≠ 0 := by rintro rfl; rw [sl_zero] at hs; cases hs
  have := (kids_len hw hs).1
  simpa [lst, h0, hs] using this
theorem pall_zero (w : World) (R : Nat -> Prop) (db : Nat) (D : Dc) (hv : View w R db D) (hw : WF D) :
  Calls Tryz.prog 47 #[.pointer (some ⟨db, 0, none⟩), .int .u64 0] w (AllP w (allR D)) := by
 obtain ⟨lv, hl⟩ := hw.lev
 obtain ⟨a, cap, h1, h2, h3⟩ := hv.roots
 have hrl := roots_len hw
 have hg := gather_any D R db lv hw hl 64 w (.slice none 0 0) 0 [] a D.roots cap w.heap.size hv hv.lt (Nat.le_refl _) (own_nil _ _ _ _) h3 (fun h hh => by
  obtain ⟨s, h1, _, h2⟩ := hw.root hl hh
  exact ⟨s, h1, by omega⟩) (by show 0 + (allR D).length <= _; omega) (by omega)
 clear h3 hv hw hl
 go_enter Tryz.func47, Tryz.ntmps47
 go_wp2_with fail
 refine hg.mono ?_
 rintro e w' ⟨v', rfl, hown, hb⟩
 have e1 : D.roots.flatMap (allH D) = allR D := rfl
 rw [e1, List.length_nil, Nat.zero_add, List.nil_append] at hown
 obtain ⟨va, vc, hv⟩ := own_slice hown
 subst hv
 generalize hN : (allR D).length = N at *
 have HN := hid hN
 have HO := hid hown
 have HB := hid hb
 clear hown hb hg hN e1
 go_wp2
 go_ret2
 exact ⟨va, vc, by rw [HN.out]; rfl, by rw [HN.out]; exact HO.out, HB.out⟩
theorem pall_some (w : World) (R : Nat -> Prop) (db : Nat) (D : Dc) (h : Nat) (s : Sl) (hv : View w R db D) (hw : WF D) (hs : sl D h = some s) :
  Calls Tryz.prog 47 #[.pointer (some ⟨db, 0, none⟩), .int .u64 (h : Int)] w (AllP w (allH D h)) := by
 obtain ⟨lv, hl⟩ := hw.lev
 obtain ⟨hhl, hh0, i, ha, hsi, -⟩ := hw.lt hs
 obtain ⟨b, o, cap, aa, ac, ka, kc, h1, hcl, hbR, c0, c1, c2, c3, c4, c5, c6, c7, l1, l2, -, hka⟩ := hv.slot hsi
 have hfi := find_some w R db D h i hv hw.fits hhl ha b o cap h1
 have hkl := kids_len hw hs
 have hst := allH_step hw hs
 have h0 : h ≠ 0 := by omega
 have ek : lst D h = s.kids := by simp [lst, h0, hs]
 rw [ek] at hst
 have hz : ((h : Int) == 0) = false := by simp; omega
 have hbl := hv.lt b hbR
 have hln : 1 + (s.kids.flatMap (allH D)).length = (allH D h).length := by rw [hst]; simp; omega
 have HG : Hid (∀ W, Below w.heap.size w W -> Calls Tryz.prog 93 #[.pointer (some ⟨db, 0, none⟩), .slice (some ⟨W.heap.size, 0, none⟩) 1 1, .slice ka s.kids.length kc] (W.alloc (.cells #[.int .u64 (h : Int)] 27)) (GathP (W.alloc (.cells #[.int .u64 (h : Int)] 27)) w.heap.size [h] (s.kids.flatMap (allH D)))) := fun W hb => by
  have hb' : Below w.heap.size w (W.alloc (.cells #[.int .u64 (h : Int)] 27)) := hb.alloc hb.size _
  exact gather_any D R db lv hw hl 64 _ _ 1 [h] ka s.kids kc w.heap.size (hv.below hb') hv.lt hb'.size (own_base (own_one W (.int .u64 (h : Int)) 27) (fun k hk => by
   simp only [Value.ownBlock, Option.some.injEq] at hk
   have := hb.size
   omega)) (hka.to (fun _ h => h) (fun b o hb2 => hb'.cell (p := ⟨b, o, none⟩) (hv.lt b hb2))) (fun c hc => by
   obtain ⟨s', h1, _, h2⟩ := hw.kid hl hs (by rw [ek]; exact hc)
   exact ⟨s', h1, by omega⟩) (by show 1 + _ <= _; omega) (by omega)
 have HST : Hid ([h] ++ s.kids.flatMap (allH D) = allH D h) := hst.symm
 have HLN : Hid (1 + (s.kids.flatMap (allH D)).length = (allH D h).length) := hln
 clear hst hln hka hv hw hl hs ha hsi c0 c1 c2 c3 c4 c5 c6 ek h0
 go_enter Tryz.func47, Tryz.ntmps47
 go_wp2_with fail
 refine hfi.mono ?_
 rintro e w1 ⟨rfl, hb1⟩
 obtain ⟨hcc, -⟩ := bcell hb1
 have HB1 : Hid (Below w.heap.size w w1) := hb1
 have hbl1 : b < w1.heap.size := by have := hb1.size; omega
 clear hb1
 go_wp2_with fail
 refine (HG.out w1 HB1.out).mono ?_
 rintro e w' ⟨v', rfl, hown, hb⟩
 obtain ⟨va, vc, hv⟩ := own_slice hown
 subst hv
 have hown2 := hown
 rw [HST.out] at hown2
 have e3 : [h].length + (s.kids.flatMap (allH D)).length = (allH D h).length := HLN.out
 rw [e3] at hown2 ⊢
 generalize hN : (allH D h).length = N at hown2 ⊢
 have HN := hid hN
 have HO := hid hown2
 have HB := hid ((HB1.out.alloc HB1.out.size _).trans hb)
 clear hown hown2 hb hN HLN HST e3 HG
 go_wp2
 go_ret2
 exact ⟨va, vc, by rw [HN.out]; rfl, by rw [HN.out]; exact HO.out, HB.out⟩
theorem pall_none (w : World) (R : Nat -> Prop) (db : Nat) (D : Dc) (h : Nat) (hv : View w R db D) (hf : Fits D) (hh : h < 18446744073709551616) (h0 : h ≠ 0) (ha : atI D.S h = none) :
  Calls Tryz.prog 47 #[.pointer (some ⟨db, 0, none⟩), .int .u64 (h : Int)] w fun e w' => e = .returned (.tuple #[.slice none 0 0, .int .i64 8]) /\ Below w.heap.size w w' := by
 have hfi := find_none w R db D h hv hf hh ha
 have hz : ((h : Int) == 0) = false := by simp; omega
 clear hv h0 ha
 go_enter Tryz.func47, Tryz.ntmps47
 go_wp2_with fail
 refine hfi.mono ?_
 rintro e w1 ⟨rfl, hb1⟩
 go_wp2
 go_ret2
 exact ⟨rfl, hb1⟩
end Go.Proofs.YtjkgjckkglfokaaGreat.Gr
