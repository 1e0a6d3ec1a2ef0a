/- The law's own comparisons, where both lists are the same. -/
import Derived.Test.YtafpfelgngniiaaPrk
namespace Go.Proofs.Ytafpfelgngniiaa
open Go.RowKit
set_option linter.unusedVariables false
attribute [local go_sem] Bel.cell Bel.fz

/-- Pairs in memory. -/
def PrsAt (w : World) (a : Option Addr) (L : List (Int × Int)) : Prop := ∀ i p, L[i]? = some p → ∃ g o, a = some ⟨g, o, none⟩ ∧ g < w.heap.size ∧ w.cell? ⟨g, o + i * 2, none⟩ = some (.int .u64 p.1) ∧ w.cell? ⟨g, o + i * 2 + 1, none⟩ = some (.int .u64 p.2)
theorem PrsAt.bel {w w' : World} {a : Option Addr} {L : List (Int × Int)} (h : PrsAt w a L) (hb : Below w.heap.size w w') : PrsAt w' a L := fun i p hp => by
  obtain ⟨g, o, h1, h2, h3, h4⟩ := h i p hp
  exact ⟨g, o, h1, Nat.lt_of_lt_of_le h2 hb.size, (hb.cell (p := ⟨g, o + i * 2, none⟩) h2).trans h3, (hb.cell (p := ⟨g, o + i * 2 + 1, none⟩) h2).trans h4⟩

set_option maxRecDepth 100000 in
set_option maxHeartbeats 2000000 in
theorem pairs_same (w : World) {a b : Option Addr} {ca cb : Nat} {L : List (Int × Int)} (ha : PrsAt w a L) (hb : PrsAt w b L) (hl : L.length ≤ 16384) :
    Calls Try.prog 8 #[.slice a L.length ca, .slice b L.length cb] w fun e w' => e = .returned (.bool true) ∧ Below w.heap.size w w' := by
  have HA : Hid (PrsAt w a L) := ha
  have HB : Hid (PrsAt w b L) := hb
  clear ha hb
  go_enter Try.func8, Try.ntmps8
  go_wp2
  go_loopw [5] (fun u wr => ∃ i : Nat, i ≤ L.length ∧ u = .int .i64 (i : Int) ∧ w.heap.size ≤ wr.heap.size ∧ Hid (Below w.heap.size w wr)) (fun u _ => L.length - (intOf u).toNat)
  case atStart => exact ⟨0, by omega, rfl, Nat.le_refl _, Below.refl _ _⟩
  case round =>
    obtain ⟨i, hi, rfl, hz, HS⟩ := hrel
    by_cases hlt : i < L.length
    · obtain ⟨p, hp⟩ : ∃ p, L[i]? = some p := ⟨_, List.getElem?_eq_getElem hlt⟩
      obtain ⟨f, q, rfl, hf, a0, a1⟩ := (HA.out.bel HS.out) i p hp
      obtain ⟨g, o, rfl, hg, b0, b1⟩ := (HB.out.bel HS.out) i p hp
      have hi9 : (i : Int) < (L.length : Int) := by omega
      clear hp
      go_wp2_with fail
      refine wp_region_bel (by kernel_rfl) (by kernel_rfl) ?_
      intro hne
      repeat go_big_quiet_step (fail)
      refine wpQuiet_nil ?_
      rintro _ ⟨u, rfl⟩
      have HU : Hid (w.heap.size ≤ u.w.heap.size ∧ Below w.heap.size w u.w) := ⟨Nat.le_trans hz u.h.size, HS.out.trans (u.h.mono hz)⟩
      go_wp2
      go_roundw
      case rel => exact ⟨i + 1, by omega, by go_num, HU.out.1, HU.out.2⟩
      case measure => simp [intOf]; omega
    · go_wp2
      go_ret
      exact ⟨rfl, HS.out⟩

set_option maxRecDepth 100000 in
set_option maxHeartbeats 2000000 in
theorem placed_same (w : World) {a b : Option Addr} {ca cb : Nat} {L : List Pl} (ha : PlsAt w w.heap.size a L) (hb : PlsAt w w.heap.size b L) (hl : L.length ≤ 16384) :
    Calls Try.prog 15 #[.slice a L.length ca, .slice b L.length cb] w fun e w' => e = .returned (.bool true) ∧ Below w.heap.size w w' := by
  have HA : Hid (PlsAt w w.heap.size a L) := ha
  have HB : Hid (PlsAt w w.heap.size b L) := hb
  clear ha hb
  go_enter Try.func15, Try.ntmps15
  go_wp2
  go_loopw [5] (fun u wr => ∃ i : Nat, i ≤ L.length ∧ u = .int .i64 (i : Int) ∧ w.heap.size ≤ wr.heap.size ∧ Hid (Below w.heap.size w wr)) (fun u _ => L.length - (intOf u).toNat)
  case atStart => exact ⟨0, by omega, rfl, Nat.le_refl _, Below.refl _ _⟩
  case round =>
    obtain ⟨i, hi, rfl, hz, HS⟩ := hrel
    by_cases hlt : i < L.length
    · obtain ⟨p, hp⟩ : ∃ p, L[i]? = some p := ⟨_, List.getElem?_eq_getElem hlt⟩
      obtain ⟨f, q, rfl, hf, a0, a1, a2, a3⟩ := (HA.out.below HS.out (Nat.le_refl _)) i p hp
      obtain ⟨g, o, rfl, hg, b0, b1, b2, b3⟩ := (HB.out.below HS.out (Nat.le_refl _)) i p hp
      have lf : f < wr.heap.size := by omega
      have lg : g < wr.heap.size := by omega
      have hi9 : (i : Int) < (L.length : Int) := by omega
      clear hp
      go_wp2_with fail
      refine wp_region_bel (by kernel_rfl) (by kernel_rfl) ?_
      intro hne
      repeat go_big_quiet_step (fail)
      refine wpQuiet_nil ?_
      rintro _ ⟨u, rfl⟩
      have HU : Hid (w.heap.size ≤ u.w.heap.size ∧ Below w.heap.size w u.w) := ⟨Nat.le_trans hz u.h.size, HS.out.trans (u.h.mono hz)⟩
      go_wp2
      go_roundw
      case rel => exact ⟨i + 1, by omega, by go_num, HU.out.1, HU.out.2⟩
      case measure => simp [intOf]; omega
    · go_wp2
      go_ret
      exact ⟨rfl, HS.out⟩

end Go.Proofs.Ytafpfelgngniiaa
