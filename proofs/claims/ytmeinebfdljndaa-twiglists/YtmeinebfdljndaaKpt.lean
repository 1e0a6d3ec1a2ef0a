/- The law's kept: the same lists. -/
import Derived.Test.YtmeinebfdljndaaCc
namespace Go.Proofs.Ytmeinebfdljndaa
open Go.RowKit
set_option linter.unusedVariables false
attribute [local go_sem] Bel.cell Bel.fz

set_option maxRecDepth 100000 in
set_option maxHeartbeats 4000000 in
theorem kept_any (w : World) {LL : List (List Pl)} {a b : Option Addr} {ca cb : Nat} (ha : LlAt w a LL) (hb : LlAt w b LL) (hl : LL.length ≤ 4096) (hn : ∀ L ∈ LL, L.length ≤ 4611686018427387904) :
    Calls Try.prog 11 #[.slice a LL.length ca, .slice b LL.length cb] w fun e w' => e = .returned (.bool true) ∧ Below w.heap.size w w' := by
  have HA : Hid (LlAt w a LL ∧ LlAt w b LL ∧ ∀ L ∈ LL, L.length ≤ 4611686018427387904) := ⟨ha, hb, hn⟩
  clear ha hb hn
  go_enter Try.func11, Try.ntmps11
  go_wp2
  go_loopw [5] (fun u wr => ∃ i : Nat, i ≤ LL.length ∧ u = .int .i64 (i : Int) ∧ Hid (Below w.heap.size w wr)) (fun u _ => LL.length - (intOf u).toNat)
  case atStart => exact ⟨0, by omega, rfl, Below.refl _ _⟩
  case round =>
    obtain ⟨i, hi, rfl, HS⟩ := hrel
    by_cases hlt : i < LL.length
    · obtain ⟨L, hL⟩ : ∃ L, LL[i]? = some L := ⟨_, List.getElem?_eq_getElem hlt⟩
      obtain ⟨f, q, la, lc, rfl, hf, a0, -, pA⟩ := (HA.out.1.bel HS.out) i L hL
      obtain ⟨g, o, ma, mc, rfl, hg, b0, -, pB⟩ := (HA.out.2.1.bel HS.out) i L hL
      have hLl := HA.out.2.2 L (List.mem_of_getElem? hL)
      have hi9 : (i : Int) < (LL.length : Int) := by omega
      have HW : Hid (PlsAt wr wr.heap.size la L ∧ PlsAt wr wr.heap.size ma L ∧ wr.cell? ⟨f, q + i, none⟩ = some (.slice la L.length lc) ∧ wr.cell? ⟨g, o + i, none⟩ = some (.slice ma L.length mc)) := ⟨pA, pB, a0, b0⟩
      have hws := HS.out.size
      obtain ⟨W5, hW5⟩ : ∃ W5, W5 = wr := ⟨_, rfl⟩
      subst hW5
      have HB0 : Hid (Below W5.heap.size W5 W5) := Below.refl _ _
      clear hL pA pB
      go_wp2_with fail
      refine wp_region_bel (by kernel_rfl) (by kernel_rfl) ?_
      intro hne
      repeat go_big_quiet_step (fail)
      refine wpQuiet_nil ?_
      rintro _ ⟨u, rfl⟩
      have HB1 : Hid (Below W5.heap.size W5 u.w) := u.h
      go_wp2
      go_loopw [6] (fun u wr => ∃ k : Nat, k ≤ L.length ∧ u = .int .i64 (k : Int) ∧ Hid (Below W5.heap.size W5 wr)) (fun u _ => L.length - (intOf u).toNat)
      case atStart => exact ⟨0, by omega, rfl, HB1⟩
      case round =>
        obtain ⟨k, hk, rfl, HK⟩ := hrel
        have c0 : wr.cell? ⟨f, q + i, none⟩ = some (.slice la L.length lc) := (HK.out.cell (p := ⟨f, q + i, none⟩) hf).trans HW.out.2.2.1
        have c1 : wr.cell? ⟨g, o + i, none⟩ = some (.slice ma L.length mc) := (HK.out.cell (p := ⟨g, o + i, none⟩) hg).trans HW.out.2.2.2
        have hws2 := HK.out.size
        have hf2 : f < wr.heap.size := by omega
        have hg2 : g < wr.heap.size := by omega
        by_cases hlk : k < L.length
        · obtain ⟨x, hx⟩ : ∃ x, L[k]? = some x := ⟨_, List.getElem?_eq_getElem hlk⟩
          obtain ⟨f3, q3, rfl, hf3, x0, x1, x2, x3⟩ := (HW.out.1.bel HK.out) k x hx
          obtain ⟨g3, o3, rfl, hg3, y0, y1, y2, y3⟩ := (HW.out.2.1.bel HK.out) k x hx
          have hk9 : (k : Int) < (L.length : Int) := by omega
          clear hx
          go_wp2_with fail
          refine wp_region_bel (by kernel_rfl) (by kernel_rfl) ?_
          intro hne
          repeat go_big_quiet_step (fail)
          refine wpQuiet_nil ?_
          rintro _ ⟨u, rfl⟩
          have HU : Hid (Below W5.heap.size W5 u.w) := HK.out.trans (u.h.mono hws2)
          go_wp2
          go_roundw
          case rel => exact ⟨k + 1, by omega, by go_num, HU⟩
          case measure => simp [intOf]; omega
        · have hk9 : ¬ (k : Int) < (L.length : Int) := by omega
          have HU : Hid (Below w.heap.size w wr) := HS.out.trans (HK.out.mono hws)
          clear HK HW
          go_wp2
          go_roundw
          case rel => exact ⟨i + 1, by omega, by go_num, HU⟩
          case measure => simp [intOf]; omega
    · go_wp2
      go_ret
      exact ⟨rfl, HS.out⟩

end Go.Proofs.Ytmeinebfdljndaa
