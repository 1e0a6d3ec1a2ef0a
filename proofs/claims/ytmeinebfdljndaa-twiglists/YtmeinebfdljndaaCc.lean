/- slices.Grow of none, slices.Concat, slices.Clone at nodes with their spans. -/
import Derived.Test.YtmeinebfdljndaaPc
import Derived.Lib.AppendZeros
namespace Go.Proofs.Ytmeinebfdljndaa
open Go.RowKit
set_option linter.unusedVariables false

def GrQ (w : World) (e : Ending) (w' : World) : Prop := ∃ va vc, e = .returned (.slice va 0 vc) ∧ w'.ownsRow w.heap.size 38 4 (.slice va 0 vc) 0 [] ∧ Below w.heap.size w w'

set_option maxRecDepth 100000 in
set_option maxHeartbeats 2000000 in
theorem grow_nil (w : World) (n : Nat) (hn : n ≤ 1048576) : Calls Try.prog 86 #[.slice none 0 0, .int .i64 (n : Int)] w (GrQ w) := by
  rcases Nat.eq_zero_or_pos n with rfl | h0
  · have HQ : Hid (GrQ w (.returned (.slice none 0 0)) w) := ⟨none, 0, rfl, own_none _ _ _ _, Below.refl _ _⟩
    generalize GrQ w = Q at HQ ⊢
    go_enter Try.func86, Try.ntmps86
    go_wp2
    exact HQ.out
  · obtain ⟨i, hi0, hz0, hz1, hz2⟩ := info38.parts
    have hr := Lib.run_append_nil_zeros (P := Try.prog) w 25 3 25 38 i _ .i64 .i64 Try.underlying25 Try.underlying3 hi0 hz0 n h0 (by rw [hz1]; decide) (by omega) (by rw [hz2]; omega)
    have HQ : Hid (GrQ w (.returned (.slice (some ⟨w.heap.size, 0, none⟩) 0 (grownCap w n 0 38))) (w.drew.alloc (.cells (Builtin.zeroCells (Value.agg #[.int .u64 0, .int .u64 0, .int .u64 0, .int .i64 0]).cells n ++ Builtin.zeroCells (Value.agg #[.int .u64 0, .int .u64 0, .int .u64 0, .int .i64 0]).cells (grownCap w n 0 38 - n)) 38))) := by
      have hge := grownCap_ge w n 0 38
      refine ⟨_, _, rfl, ⟨by simp, .inr ⟨w.heap.size, _, _, rfl, Nat.le_refl _, heap_alloc_new w.drew _, Nat.zero_le _, grownCap_le_maxLen w _ _ _ (by unfold maxLen; omega), ?_, by simp⟩⟩, ⟨rfl, rfl, rfl, by simp, fun k hk => Below.heap_alloc w.drew _ _ hk⟩⟩
      rw [Array.size_append, size_zeroCells, size_zeroCells, ← Nat.add_mul]
      show _ = grownCap w n 0 38 * 4
      congr 1
      omega
    have hn9 : (0 : Int) < (n : Int) := by omega
    have hgc : 0 ≤ grownCap w n 0 38 := Nat.zero_le _
    have tok : True := trivial
    generalize GrQ w = Q at HQ ⊢
    clear hi0 hz0 hz1 hz2 h0
    go_enter Try.func86, Try.ntmps86
    go_wp2_with (at_builtin; have _t := tok; refine Lib.wpList_append_run _ rfl _ _ _ _ rfl _ _ rfl rfl _ _ hr ?_; clear tok _t hr)
    exact HQ.out

/-- Lists of nodes in memory. -/
def LlAt (w : World) (a : Option Addr) (LL : List (List Pl)) : Prop := ∀ i L, LL[i]? = some L → ∃ b o la lc, a = some ⟨b, o, none⟩ ∧ b < w.heap.size ∧ w.cell? ⟨b, o + i, none⟩ = some (.slice la L.length lc) ∧ L.length ≤ lc ∧ PlsAt w w.heap.size la L
theorem LlAt.bel {w w' : World} {a : Option Addr} {LL : List (List Pl)} (h : LlAt w a LL) (hb : Below w.heap.size w w') : LlAt w' a LL := fun i L hL => by
  obtain ⟨b, o, la, lc, h1, h2, h3, h4, h5⟩ := h i L hL
  exact ⟨b, o, la, lc, h1, Nat.lt_of_lt_of_le h2 hb.size, (hb.cell (p := ⟨b, o + i, none⟩) h2).trans h3, h4, h5.bel hb⟩
theorem flat_take {LL : List (List Pl)} {i : Nat} {L : List Pl} (h : LL[i]? = some L) : (LL.take (i + 1)).flatten = (LL.take i).flatten ++ L := by
  rw [take_snoc h]
  simp
theorem flat_le (LL : List (List Pl)) (i : Nat) : (LL.take i).flatten.length ≤ LL.flatten.length := by
  conv => rhs; rw [← List.take_append_drop i LL]
  rw [List.flatten_append, List.length_append]
  omega

set_option maxRecDepth 100000 in
set_option maxHeartbeats 4000000 in
theorem concat_any (w : World) {LL : List (List Pl)} {a : Option Addr} {ca : Nat} (h : LlAt w a LL) (hk : LL.length ≤ 1024) (N : Nat) (hN : LL.flatten.length = N) (hT : N ≤ 1048576) :
    Calls Try.prog 60 #[.slice a LL.length ca] w fun e w' => ∃ va vc, e = .returned (.slice va N vc) ∧ w'.ownsRow w.heap.size 38 4 (.slice va N vc) N (plCells LL.flatten) ∧ Below w.heap.size w w' := by
  have HL : Hid (LlAt w a LL) := h
  have HF : Hid (∀ i L, LL[i]? = some L → (LL.take (i + 1)).flatten = (LL.take i).flatten ++ L ∧ (LL.take (i + 1)).flatten.length ≤ N) := fun i L hL => ⟨flat_take hL, by rw [← hN]; exact flat_le _ _⟩
  have HN : Hid (LL.flatten.length = N) := hN
  have hgr := grow_nil w N hT
  clear h hN
  go_enter Try.func60, Try.ntmps60
  go_wp2
  go_loop [3, 11] (fun u v => ∃ i : Nat, i ≤ LL.length ∧ u = .int .i64 (((LL.take i).flatten.length : Nat) : Int) ∧ v = .int .i64 (i : Int)) (fun _ v => LL.length - (intOf v).toNat)
  case atStart => exact ⟨0, by omega, rfl, rfl⟩
  case round =>
    obtain ⟨i, hi, rfl, rfl⟩ := hrel
    by_cases hlt : i < LL.length
    · obtain ⟨L, hL⟩ : ∃ L, LL[i]? = some L := ⟨_, List.getElem?_eq_getElem hlt⟩
      obtain ⟨b, o, la, lc, rfl, hb, c0, hlc, hp⟩ := HL.out i L hL
      obtain ⟨h1, h2⟩ := HF.out i L hL
      rw [h1, List.length_append] at h2
      have H1 : Hid ((LL.take (i + 1)).flatten.length = (LL.take i).flatten.length + L.length) := by show _ = _; rw [h1, List.length_append]
      generalize (LL.take i).flatten.length = n1 at h2 H1 ⊢
      have hlt9 : (i : Int) < (LL.length : Int) := by omega
      have hs9 : ¬ ((n1 : Int) + (L.length : Int) < 0) := by omega
      clear h1 hL hp
      go_wp2
      go_round
      case rel => exact ⟨i + 1, by omega, by rw [H1.out]; go_num, by go_num⟩
      case measure => simp [intOf]; omega
    · have hfin : (LL.take i).flatten.length = N := by rw [List.take_of_length_le (by omega)]; exact HN.out
      rw [hfin]
      clear hfin
      go_wp2_with fail
      with_reducible refine hgr.mono ?_
      rintro e X ⟨va, vc, rfl, ho, hbX⟩
      have HX : Hid (X.ownsRow w.heap.size 38 4 (.slice va 0 vc) 0 [] ∧ Below w.heap.size w X) := ⟨ho, hbX⟩
      clear ho hbX hgr
      go_wp2
      go_loopw [6, 27] (fun u v wr => ∃ (j m : Nat) (ra : Option Addr) (rc : Nat), j ≤ LL.length ∧ m ≤ N ∧ u = .slice ra m rc ∧ v = .int .i64 (j : Int) ∧ Hid (m = (LL.take j).flatten.length) ∧ Hid (wr.ownsRow w.heap.size 38 4 (.slice ra m rc) m (plCells (LL.take j).flatten) ∧ Below w.heap.size w wr)) (fun _ v _ => LL.length - (intOf v).toNat)
      case atStart => exact ⟨0, 0, va, vc, by omega, by omega, rfl, rfl, rfl, HX⟩
      case round =>
        obtain ⟨j, m, ra, rc, hj, hm, rfl, rfl, HM, HS⟩ := hrel
        by_cases hlt2 : j < LL.length
        · obtain ⟨L, hL⟩ : ∃ L, LL[j]? = some L := ⟨_, List.getElem?_eq_getElem hlt2⟩
          obtain ⟨b, o, la, lc, rfl, hb, c0, hlc, hp⟩ := HL.out.bel HS.out.2 j L hL
          obtain ⟨h1, h2⟩ := HF.out j L hL
          rw [h1, List.length_append] at h2
          have hmL : m + L.length ≤ N := by have := HM.out; omega
          have H1 : Hid (m + L.length = (LL.take (j + 1)).flatten.length) := by show _ = _; rw [h1, List.length_append]; have := HM.out; omega
          have H2 : Hid (plCells (LL.take (j + 1)).flatten = plCells (LL.take j).flatten ++ plCells L) := by show _ = _; rw [h1, plCells_append]
          have HNW : Hid (∀ j u, (plCells L)[j]? = some u → ∃ ad, la = some ad ∧ wr.cell? (ad.add j) = some u) := pls_news hp (Below.refl _ _)
          have hlt9 : (j : Int) < (LL.length : Int) := by omega
          have hbs : w.heap.size ≤ wr.heap.size := HS.out.2.size
          clear h1 h2 hL hp
          have tok : True := trivial
          go_wp2_with (at_builtin; have _t := tok; refine wpList_app (by rfl) _ _ (by rfl) Try.underlying25 info38 rfl (by decide) w.heap.size (.slice ra m rc) m (plCells (LL.take j).flatten) (by rfl) HS.out.1 la L.length lc (plCells L) (by rfl) (plCells_length _) HNW.out (plCells_one _) (by unfold maxLen; omega) (by omega) (by omega) ?_; intro v1 w4 hown1 hg1 _ hat1; obtain ⟨ra2, rc2, hvv⟩ := own_slice hown1; subst hvv; have HX4 : Hid (w4.ownsRow w.heap.size 38 4 (.slice ra2 (m + L.length) rc2) (m + L.length) (plCells (LL.take (j + 1)).flatten) ∧ Below w.heap.size w w4) := ⟨(by rw [H2.out]; exact hown1), HS.out.2.grown hg1 hbs (fun k hk => (own_block_lt HS.out.1 k hk).1)⟩; clear tok _t hown1 hg1 hat1)
          go_roundw
          case rel => exact ⟨j + 1, m + L.length, ra2, rc2, by omega, hmL, rfl, by go_num, H1, HX4⟩
          case measure => simp [intOf]; omega
        · have hfin : (LL.take j).flatten = LL.flatten := by rw [List.take_of_length_le (by omega)]
          have hmN : m = N := by have := HM.out; rw [hfin, HN.out] at this; exact this
          subst hmN
          have HX5 : Hid (wr.ownsRow w.heap.size 38 4 (.slice ra m rc) m (plCells LL.flatten) ∧ Below w.heap.size w wr) := by
            have := HS.out
            rw [hfin] at this
            exact this
          clear hfin HS
          go_wp2
          go_ret
          exact ⟨ra, rc, rfl, HX5.out⟩

end Go.Proofs.Ytmeinebfdljndaa
