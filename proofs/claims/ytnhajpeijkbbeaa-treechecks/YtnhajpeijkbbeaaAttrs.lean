/- What is wrong with attributes: the program's answer and the document's. -/
import Derived.Test.YtnhajpeijkbbeaaBel
namespace Go.Proofs.Ytnhajpeijkbbeaa
open Go.RowKit
set_option linter.unusedVariables false
attribute [local go_sem] Bel.cell Bel.fz

def prevAt (l : List (ByteArray × ByteArray)) (i : Nat) : Option ByteArray := if i = 0 then none else (l[i - 1]?).map (·.1)

theorem attrsGo_at {l : List (ByteArray × ByteArray)} {i : Nat} {p : ByteArray × ByteArray} (h : l[i]? = some p) :
    attrsGo (prevAt l i) (l.drop i) = if nameL p.1.data.toList = false ∨ (∃ q, prevAt l i = some q ∧ leB p.1 q = true) then 6 else if (tans p.2.data.toList).2 = 0 then attrsGo (prevAt l (i + 1)) (l.drop (i + 1)) else (tans p.2.data.toList).2 := by
  have hlt := (List.getElem?_eq_some_iff.1 h).1
  have e : l.drop i = p :: l.drop (i + 1) := by
    rw [List.drop_eq_getElem_cons hlt, (List.getElem?_eq_some_iff.1 h).2]
  have e2 : prevAt l (i + 1) = some p.1 := by simp [prevAt, h]
  rw [e, e2, attrsGo]

set_option maxRecDepth 100000 in
set_option maxHeartbeats 1000000 in
theorem attrs_long (w : World) (a : Option Addr) (n cap : Nat) (h : 32 < n) :
    Calls Try.prog 14 #[.slice a n cap] w fun e w' => e = .returned (.int .i64 2) ∧ w' = w := by
  go_enter Try.func14, Try.ntmps14
  go_wp2
  go_ret
  exact ⟨rfl, rfl⟩

theorem bel_end {w wr : World} {o : Obj} (h : Below w.heap.size w wr) (u : Bel (wr.alloc o)) (hs : w.heap.size ≤ wr.heap.size) : Below w.heap.size w u.w :=
  (h.alloc hs o).trans (u.h.mono (by simp; omega))
theorem bel_size {w wr : World} {o : Obj} (h : Below w.heap.size w wr) (u : Bel (wr.alloc o)) : w.heap.size ≤ u.w.heap.size := by
  have h1 := h.size
  have h2 := u.h.size
  simp at h2
  omega

set_option maxRecDepth 100000 in
set_option maxHeartbeats 1000000 in
theorem attrs_walk (w : World) (lo : Nat) (a : Option Addr) (l : List (ByteArray × ByteArray)) (cap : Nat) (h : AttrsAt w lo w.heap.size a l) (hn : l.length ≤ 32) (x : Int) (hx : attrsGo none l = x) :
    Calls Try.prog 14 #[.slice a l.length cap] w fun e w' => e = .returned (.int .i64 x) ∧ Below w.heap.size w w' := by
  have HX : Hid (attrsGo none l = x) := hx
  have HA : Hid (AttrsAt w lo w.heap.size a l) := h
  clear hx h
  go_enter Try.func14, Try.ntmps14
  go_wp2
  go_loopw [12] (fun v wr => ∃ i : Nat, i ≤ l.length ∧ v = .int .i64 (i : Int) ∧ Hid (attrsGo (prevAt l i) (l.drop i) = x) ∧ Hid (Below w.heap.size w wr)) (fun v _ => l.length - (intOf v).toNat)
  case atStart => exact ⟨0, by omega, rfl, HX, Below.refl _ _⟩
  case round =>
    obtain ⟨i, hi, rfl, hgo, hbw⟩ := hrel
    have hws := hbw.out.size
    by_cases hlt : i < l.length
    · obtain ⟨p, hp⟩ : ∃ p, l[i]? = some p := ⟨_, List.getElem?_eq_getElem hlt⟩
      obtain ⟨b, o, rfl, hlo, hbs, hc1, hc2⟩ := HA.out i p hp
      have hc1' : wr.cell? ⟨b, o + i * 2, none⟩ = some (.string p.1) := (hbw.out.cell (p := ⟨b, _, none⟩) hbs).trans hc1
      have hc2' : wr.cell? ⟨b, o + i * 2 + 1, none⟩ = some (.string p.2) := (hbw.out.cell (p := ⟨b, _, none⟩) hbs).trans hc2
      have hbr : b < wr.heap.size := by omega
      have hstep := attrsGo_at hp
      rw [hgo.out] at hstep
      have hnw := fun W => name_any W p.1
      have htw := fun W => text_any W p.2
      cases hnm : nameL p.1.data.toList
      · rw [if_pos (.inl hnm)] at hstep
        rw [hnm] at hnw
        have HSX : Hid (x = 6) := hstep
        clear hstep hnm HX HA hgo hc1 hc2 hp
        go_wp2
        refine wp_region_bel (by kernel_rfl) (by kernel_rfl) ?_
        intro hne
        repeat go_big_quiet_step ((go_at_call 13; exact Calls.bel_of (hnw _)))
        refine wpQuiet_nil ?_
        rintro _ ⟨u, rfl⟩
        go_wp2
        go_ret
        exact ⟨congrArg _ (v_int HSX.out.symm), bel_end hbw.out u hws⟩
      · rw [hnm] at hnw
        by_cases hi0 : i = 0
        · have hnp : ¬ (nameL p.1.data.toList = false ∨ ∃ q, prevAt l i = some q ∧ leB p.1 q = true) := by
            rintro (h | ⟨q, hq, _⟩)
            · rw [hnm] at h; cases h
            · simp [prevAt, hi0] at hq
          rw [if_neg hnp] at hstep
          have hd : decide (0 < i) = false := by simp; omega
          have HI : Hid (i = 0) := hi0
          clear hnp hi0 hnm HX HA hgo hc1 hc2 hp
          generalize (tans p.2.data.toList).1 = y1 at *
          generalize (tans p.2.data.toList).2 = y2 at *
          by_cases hy : y2 = 0
          · rw [if_pos hy] at hstep
            subst hy
            have HS : Hid (x = attrsGo (prevAt l (i + 1)) (l.drop (i + 1))) := hstep
            clear hstep
            go_wp2
            refine wp_region_bel (by kernel_rfl) (by kernel_rfl) ?_
            intro hne
            repeat go_big_quiet_step ((go_at_call 13; exact Calls.bel_of (hnw _)))
            refine wpQuiet_nil ?_
            rintro _ ⟨u, rfl⟩
            go_wp2_with fail
            refine (htw _).mono ?_
            rintro e w2 ⟨rfl, hb2⟩
            go_wp2
            go_roundw
            case rel => exact ⟨i + 1, by omega, by go_num, HS.out.symm, (bel_end hbw.out u hws).trans (hb2.mono (bel_size hbw.out u))⟩
            case measure => simp [intOf]; omega
          · rw [if_neg hy] at hstep
            have hbn : (y2 == 0) = false := beq_eq_false_iff_ne.2 hy
            have HS : Hid (x = y2) := hstep
            have HY : Hid (¬ y2 = 0) := hy
            clear hstep hy
            go_wp2
            refine wp_region_bel (by kernel_rfl) (by kernel_rfl) ?_
            intro hne
            repeat go_big_quiet_step ((go_at_call 13; exact Calls.bel_of (hnw _)))
            refine wpQuiet_nil ?_
            rintro _ ⟨u, rfl⟩
            go_wp2_with fail
            refine (htw _).mono ?_
            rintro e w2 ⟨rfl, hb2⟩
            go_wp2
            go_ret
            exact ⟨congrArg _ (v_int HS.out.symm), (bel_end hbw.out u hws).trans (hb2.mono (bel_size hbw.out u))⟩
        · obtain ⟨j, rfl⟩ : ∃ j, i = j + 1 := ⟨i - 1, by omega⟩
          obtain ⟨q, hq⟩ : ∃ q, l[j]? = some q := ⟨_, List.getElem?_eq_getElem (by omega)⟩
          obtain ⟨b', o', he, _, _, hq1, _⟩ := HA.out j q hq
          simp only [Option.some.injEq, Addr.mk.injEq, and_true] at he
          obtain ⟨rfl, rfl⟩ := he
          have hq1' : wr.cell? ⟨b, o + j * 2, none⟩ = some (.string q.1) := (hbw.out.cell (p := ⟨b, _, none⟩) hbs).trans hq1
          have hpv : prevAt l (j + 1) = some q.1 := by simp [prevAt, hq]
          have hi1 : ((j + 1 : Nat) : Int) - 1 = (j : Int) := by omega
          have hi2 : (j : Int) < ((l.length : Nat) : Int) := by omega
          have hd : decide ((0 : Int) < ((j + 1 : Nat) : Int)) = true := by simp
          cases hle : leB p.1 q.1
          · have hnp : ¬ (nameL p.1.data.toList = false ∨ ∃ q, prevAt l (j + 1) = some q ∧ leB p.1 q = true) := by
              rintro (h | ⟨q', hq', h⟩)
              · rw [hnm] at h; cases h
              · rw [hpv] at hq'; cases hq'; rw [hle] at h; cases h
            rw [if_neg hnp] at hstep
            have hle' : (Op.bytesLess p.1.toList q.1.toList || p.1.toList == q.1.toList) = false := hle
            generalize hz : (Op.bytesLess p.1.toList q.1.toList || p.1.toList == q.1.toList) = z at hle'
            subst hle'
            clear hnp hnm HX HA hgo hc1 hc2 hp hq hq1 hpv hi0 hle
            generalize (tans p.2.data.toList).1 = y1 at *
            generalize (tans p.2.data.toList).2 = y2 at *
            by_cases hy : y2 = 0
            · rw [if_pos hy] at hstep
              subst hy
              have HS : Hid (x = attrsGo (prevAt l (j + 1 + 1)) (l.drop (j + 1 + 1))) := hstep
              clear hstep
              go_wp2
              refine wp_region_bel (by kernel_rfl) (by kernel_rfl) ?_
              intro hne
              repeat go_big_quiet_step ((go_at_call 13; exact Calls.bel_of (hnw _)))
              refine wpQuiet_nil ?_
              rintro _ ⟨u, rfl⟩
              go_wp2_with fail
              refine (htw _).mono ?_
              rintro e w2 ⟨rfl, hb2⟩
              go_wp2
              go_roundw
              case rel => exact ⟨j + 1 + 1, by omega, by go_num, HS.out.symm, (bel_end hbw.out u hws).trans (hb2.mono (bel_size hbw.out u))⟩
              case measure => simp [intOf]; omega
            · rw [if_neg hy] at hstep
              have hbn : (y2 == 0) = false := beq_eq_false_iff_ne.2 hy
              have HS : Hid (x = y2) := hstep
              have HY : Hid (¬ y2 = 0) := hy
              clear hstep hy
              go_wp2
              refine wp_region_bel (by kernel_rfl) (by kernel_rfl) ?_
              intro hne
              repeat go_big_quiet_step ((go_at_call 13; exact Calls.bel_of (hnw _)))
              refine wpQuiet_nil ?_
              rintro _ ⟨u, rfl⟩
              go_wp2_with fail
              refine (htw _).mono ?_
              rintro e w2 ⟨rfl, hb2⟩
              go_wp2
              go_ret
              exact ⟨congrArg _ (v_int HS.out.symm), (bel_end hbw.out u hws).trans (hb2.mono (bel_size hbw.out u))⟩
          · rw [if_pos (.inr ⟨q.1, hpv, hle⟩)] at hstep
            have hle' : (Op.bytesLess p.1.toList q.1.toList || p.1.toList == q.1.toList) = true := hle
            have HSX : Hid (x = 6) := hstep
            clear hstep hnm HX HA hgo hc1 hc2 hp hq hq1 hpv hi0 hle
            go_wp2
            refine wp_region_bel (by kernel_rfl) (by kernel_rfl) ?_
            intro hne
            repeat go_big_quiet_step ((go_at_call 13; exact Calls.bel_of (hnw _)))
            refine wpQuiet_nil ?_
            rintro _ ⟨u, rfl⟩
            go_wp2
            go_ret
            exact ⟨congrArg _ (v_int HSX.out.symm), bel_end hbw.out u hws⟩
    · have hfin : x = 0 := by
        rw [← hgo.out, List.drop_eq_nil_of_le (by omega)]
        cases prevAt l i <;> rfl
      clear hgo HX HA
      go_wp2
      go_ret
      exact ⟨congrArg _ (v_int hfin.symm), hbw.out⟩

theorem bel_end0 {w wr : World} (h : Below w.heap.size w wr) (u : Bel wr) (hs : w.heap.size ≤ wr.heap.size) : Below w.heap.size w u.w :=
  h.trans (u.h.mono hs)
theorem bel_size0 {w wr : World} (h : Below w.heap.size w wr) (u : Bel wr) : w.heap.size ≤ u.w.heap.size := by
  have h1 := h.size
  have h2 := u.h.size
  omega

set_option maxRecDepth 100000 in
set_option maxHeartbeats 1000000 in
theorem rattrs_long (w : World) (a : Option Addr) (n cap : Nat) (h : 32 < n) :
    Calls Try.prog 17 #[.slice a n cap] w fun e w' => e = .returned (.int .i64 2) ∧ w' = w := by
  go_enter Try.func17, Try.ntmps17
  go_wp2
  go_ret
  exact ⟨rfl, rfl⟩

set_option maxRecDepth 100000 in
set_option maxHeartbeats 1000000 in
theorem rattrs_walk (w : World) (lo : Nat) (a : Option Addr) (l : List (ByteArray × ByteArray)) (cap : Nat) (h : AttrsAt w lo w.heap.size a l) (hn : l.length ≤ 32) (x : Int) (hx : attrsGo none l = x) :
    Calls Try.prog 17 #[.slice a l.length cap] w fun e w' => e = .returned (.int .i64 x) ∧ Below w.heap.size w w' := by
  have HX : Hid (attrsGo none l = x) := hx
  have HA : Hid (AttrsAt w lo w.heap.size a l) := h
  clear hx h
  go_enter Try.func17, Try.ntmps17
  go_wp2
  go_loopw [3] (fun v wr => ∃ i : Nat, i ≤ l.length ∧ v = .int .i64 (i : Int) ∧ Hid (attrsGo (prevAt l i) (l.drop i) = x) ∧ Hid (Below w.heap.size w wr)) (fun v _ => l.length - (intOf v).toNat)
  case atStart => exact ⟨0, by omega, rfl, HX, Below.refl _ _⟩
  case round =>
    obtain ⟨i, hi, rfl, hgo, hbw⟩ := hrel
    have hws := hbw.out.size
    by_cases hlt : i < l.length
    · obtain ⟨p, hp⟩ : ∃ p, l[i]? = some p := ⟨_, List.getElem?_eq_getElem hlt⟩
      obtain ⟨b, o, rfl, hlo, hbs, hc1, hc2⟩ := HA.out i p hp
      have hc1' : wr.cell? ⟨b, o + i * 2, none⟩ = some (.string p.1) := (hbw.out.cell (p := ⟨b, _, none⟩) hbs).trans hc1
      have hc2' : wr.cell? ⟨b, o + i * 2 + 1, none⟩ = some (.string p.2) := (hbw.out.cell (p := ⟨b, _, none⟩) hbs).trans hc2
      have hbr : b < wr.heap.size := by omega
      have hstep := attrsGo_at hp
      rw [hgo.out] at hstep
      have hnw := fun W => rname_any W p.1
      have htw := fun W => rtext_any W p.2
      cases hnm : nameL p.1.data.toList
      · rw [if_pos (.inl hnm)] at hstep
        rw [hnm] at hnw
        have HSX : Hid (x = 6) := hstep
        clear hstep hnm HX HA hgo hc1 hc2 hp
        go_wp2
        refine wp_region_bel (by kernel_rfl) (by kernel_rfl) ?_
        intro hne
        repeat go_big_quiet_step ((go_at_call 16; exact Calls.bel_of_same (hnw _)))
        refine wpQuiet_nil ?_
        rintro _ ⟨u, rfl⟩
        go_wp2
        go_ret
        exact ⟨congrArg _ (v_int HSX.out.symm), bel_end0 hbw.out u hws⟩
      · rw [hnm] at hnw
        by_cases hi0 : i = 0
        · have hnp : ¬ (nameL p.1.data.toList = false ∨ ∃ q, prevAt l i = some q ∧ leB p.1 q = true) := by
            rintro (h | ⟨q, hq, _⟩)
            · rw [hnm] at h; cases h
            · simp [prevAt, hi0] at hq
          rw [if_neg hnp] at hstep
          have hd : decide (0 < i) = false := by simp; omega
          have HI : Hid (i = 0) := hi0
          clear hnp hi0 hnm HX HA hgo hc1 hc2 hp
          generalize (tans p.2.data.toList).1 = y1 at *
          generalize (tans p.2.data.toList).2 = y2 at *
          by_cases hy : y2 = 0
          · rw [if_pos hy] at hstep
            subst hy
            have HS : Hid (x = attrsGo (prevAt l (i + 1)) (l.drop (i + 1))) := hstep
            clear hstep
            go_wp2
            refine wp_region_bel (by kernel_rfl) (by kernel_rfl) ?_
            intro hne
            repeat go_big_quiet_step ((go_at_call 16; exact Calls.bel_of_same (hnw _)))
            refine wpQuiet_nil ?_
            rintro _ ⟨u, rfl⟩
            go_wp2_with fail
            refine (htw _).mono ?_
            rintro e w2 ⟨rfl, hb2⟩
            go_wp2
            go_roundw
            case rel => exact ⟨i + 1, by omega, by go_num, HS.out.symm, (bel_end0 hbw.out u hws).trans (hb2.mono (bel_size0 hbw.out u))⟩
            case measure => simp [intOf]; omega
          · rw [if_neg hy] at hstep
            have hbn : (y2 == 0) = false := beq_eq_false_iff_ne.2 hy
            have HS : Hid (x = y2) := hstep
            have HY : Hid (¬ y2 = 0) := hy
            clear hstep hy
            go_wp2
            refine wp_region_bel (by kernel_rfl) (by kernel_rfl) ?_
            intro hne
            repeat go_big_quiet_step ((go_at_call 16; exact Calls.bel_of_same (hnw _)))
            refine wpQuiet_nil ?_
            rintro _ ⟨u, rfl⟩
            go_wp2_with fail
            refine (htw _).mono ?_
            rintro e w2 ⟨rfl, hb2⟩
            go_wp2
            go_ret
            exact ⟨congrArg _ (v_int HS.out.symm), (bel_end0 hbw.out u hws).trans (hb2.mono (bel_size0 hbw.out u))⟩
        · obtain ⟨j, rfl⟩ : ∃ j, i = j + 1 := ⟨i - 1, by omega⟩
          obtain ⟨q, hq⟩ : ∃ q, l[j]? = some q := ⟨_, List.getElem?_eq_getElem (by omega)⟩
          obtain ⟨b', o', he, _, _, hq1, _⟩ := HA.out j q hq
          simp only [Option.some.injEq, Addr.mk.injEq, and_true] at he
          obtain ⟨rfl, rfl⟩ := he
          have hq1' : wr.cell? ⟨b, o + j * 2, none⟩ = some (.string q.1) := (hbw.out.cell (p := ⟨b, _, none⟩) hbs).trans hq1
          have hpv : prevAt l (j + 1) = some q.1 := by simp [prevAt, hq]
          have hi1 : ((j + 1 : Nat) : Int) - 1 = (j : Int) := by omega
          have hi2 : (j : Int) < ((l.length : Nat) : Int) := by omega
          have hd : decide ((0 : Int) < ((j + 1 : Nat) : Int)) = true := by simp
          cases hle : leB p.1 q.1
          · have hnp : ¬ (nameL p.1.data.toList = false ∨ ∃ q, prevAt l (j + 1) = some q ∧ leB p.1 q = true) := by
              rintro (h | ⟨q', hq', h⟩)
              · rw [hnm] at h; cases h
              · rw [hpv] at hq'; cases hq'; rw [hle] at h; cases h
            rw [if_neg hnp] at hstep
            have hle' : (Op.bytesLess p.1.toList q.1.toList || p.1.toList == q.1.toList) = false := hle
            generalize hz : (Op.bytesLess p.1.toList q.1.toList || p.1.toList == q.1.toList) = z at hle'
            subst hle'
            clear hnp hnm HX HA hgo hc1 hc2 hp hq hq1 hpv hi0 hle
            generalize (tans p.2.data.toList).1 = y1 at *
            generalize (tans p.2.data.toList).2 = y2 at *
            by_cases hy : y2 = 0
            · rw [if_pos hy] at hstep
              subst hy
              have HS : Hid (x = attrsGo (prevAt l (j + 1 + 1)) (l.drop (j + 1 + 1))) := hstep
              clear hstep
              go_wp2
              refine wp_region_bel (by kernel_rfl) (by kernel_rfl) ?_
              intro hne
              repeat go_big_quiet_step ((go_at_call 16; exact Calls.bel_of_same (hnw _)))
              refine wpQuiet_nil ?_
              rintro _ ⟨u, rfl⟩
              go_wp2_with fail
              refine (htw _).mono ?_
              rintro e w2 ⟨rfl, hb2⟩
              go_wp2
              go_roundw
              case rel => exact ⟨j + 1 + 1, by omega, by go_num, HS.out.symm, (bel_end0 hbw.out u hws).trans (hb2.mono (bel_size0 hbw.out u))⟩
              case measure => simp [intOf]; omega
            · rw [if_neg hy] at hstep
              have hbn : (y2 == 0) = false := beq_eq_false_iff_ne.2 hy
              have HS : Hid (x = y2) := hstep
              have HY : Hid (¬ y2 = 0) := hy
              clear hstep hy
              go_wp2
              refine wp_region_bel (by kernel_rfl) (by kernel_rfl) ?_
              intro hne
              repeat go_big_quiet_step ((go_at_call 16; exact Calls.bel_of_same (hnw _)))
              refine wpQuiet_nil ?_
              rintro _ ⟨u, rfl⟩
              go_wp2_with fail
              refine (htw _).mono ?_
              rintro e w2 ⟨rfl, hb2⟩
              go_wp2
              go_ret
              exact ⟨congrArg _ (v_int HS.out.symm), (bel_end0 hbw.out u hws).trans (hb2.mono (bel_size0 hbw.out u))⟩
          · rw [if_pos (.inr ⟨q.1, hpv, hle⟩)] at hstep
            have hle' : (Op.bytesLess p.1.toList q.1.toList || p.1.toList == q.1.toList) = true := hle
            have HSX : Hid (x = 6) := hstep
            clear hstep hnm HX HA hgo hc1 hc2 hp hq hq1 hpv hi0 hle
            go_wp2
            refine wp_region_bel (by kernel_rfl) (by kernel_rfl) ?_
            intro hne
            repeat go_big_quiet_step ((go_at_call 16; exact Calls.bel_of_same (hnw _)))
            refine wpQuiet_nil ?_
            rintro _ ⟨u, rfl⟩
            go_wp2
            go_ret
            exact ⟨congrArg _ (v_int HSX.out.symm), bel_end0 hbw.out u hws⟩
    · have hfin : x = 0 := by
        rw [← hgo.out, List.drop_eq_nil_of_le (by omega)]
        cases prevAt l i <;> rfl
      clear hgo HX HA
      go_wp2
      go_ret
      exact ⟨congrArg _ (v_int hfin.symm), hbw.out⟩


theorem attrs_any (w : World) (lo : Nat) (a : Option Addr) (l : List (ByteArray × ByteArray)) (cap : Nat) (h : AttrsAt w lo w.heap.size a l) :
    Calls Try.prog 14 #[.slice a l.length cap] w fun e w' => e = .returned (.int .i64 (attrsE l)) ∧ Below w.heap.size w w' := by
  by_cases hl : 32 < l.length
  · rw [attrsE, if_pos hl]
    refine (attrs_long w a _ cap hl).mono ?_
    rintro e w' ⟨rfl, rfl⟩
    exact ⟨rfl, Below.refl _ _⟩
  · rw [attrsE, if_neg hl]
    exact attrs_walk w lo a l cap h (by omega) _ rfl

theorem rattrs_any (w : World) (lo : Nat) (a : Option Addr) (l : List (ByteArray × ByteArray)) (cap : Nat) (h : AttrsAt w lo w.heap.size a l) :
    Calls Try.prog 17 #[.slice a l.length cap] w fun e w' => e = .returned (.int .i64 (attrsE l)) ∧ Below w.heap.size w w' := by
  by_cases hl : 32 < l.length
  · rw [attrsE, if_pos hl]
    refine (rattrs_long w a _ cap hl).mono ?_
    rintro e w' ⟨rfl, rfl⟩
    exact ⟨rfl, Below.refl _ _⟩
  · rw [attrsE, if_neg hl]
    exact rattrs_walk w lo a l cap h (by omega) _ rfl

end Go.Proofs.Ytnhajpeijkbbeaa
