/- The law's own helpers over items: byKey, items, some, turned. -/
import Derived.Test.YtiggpbjgnododaaTbk
import Derived.Test.YtiggpbjgnododaaRg
namespace Go.Proofs.Ytiggpbjgnododaa.T
open Go.RowKit Go.Shelf
set_option linter.unusedVariables false

set_option maxRecDepth 100000 in
set_option maxHeartbeats 1000000 in
theorem byKey_any (w : World) (x y : Int × Int) : Calls Try.prog 9 #[.agg #[.int .i64 x.1, .int .i64 x.2], .agg #[.int .i64 y.1, .int .i64 y.2]] w fun e w' => e = .returned (.bool (ltK kf x y)) ∧ Below w.heap.size w w' := by
  go_enter Try.func9, Try.ntmps9
  go_wp2
  go_ret
  exact ⟨congrArg _ (v_bool (by unfold ltK kf; rw [Bool.eq_iff_iff])), ((Below.refl _ _).alloc (Nat.le_refl _) _).alloc (by simp) _⟩

theorem byKey_is (w : World) : Less w 9 #[] (ltK kf) (fun _ => True) :=
  ⟨enters_of Try.func9 (by kernel_rfl) rfl, fun W hW x y _ _ => byKey_any W x y⟩

theorem cut_of {L : List (Int × Int)} (hr : Rise kf L) (x : Int × Int) : Cut (ltK kf) L x (rk kf L x.1) :=
  ⟨rk_le kf L _, fun i y hy hi => by simp [ltK]; exact (rise_cut kf hr hy).1 hi, fun i y hy hi => by
    simp only [ltK, decide_eq_false_iff_not]
    exact fun h => by have := (rise_cut kf hr (x := x.1) hy).2 h; omega⟩

theorem there_has {L : List (Int × Int)} (hr : Rise kf L) (x : Int × Int) : thereB (ltK kf) L x (rk kf L x.1) = hasB L x.1 := by
  rw [Bool.eq_iff_iff, hasB_iff hr, ← rise_there kf hr]
  unfold thereB
  cases h : L[rk kf L x.1]? with
  | none => simp
  | some y => simp [ltK]; rfl

theorem putE_eq {L : List (Int × Int)} (hr : Rise kf L) (x : Int × Int) : putE (ltK kf) L x (rk kf L x.1) = rputE L x ∧ putL (ltK kf) L x (rk kf L x.1) = rputL L x ∧ dropL (ltK kf) L x (rk kf L x.1) = rdropL L x.1 := by
  simp only [putE, putL, dropL, rputE, rputL, rdropL, there_has hr, and_self]

theorem rise_rput {L : List (Int × Int)} (hr : Rise kf L) (x : Int × Int) : Rise kf (rputL L x) := by
  unfold rputL
  split
  · exact hr
  · rename_i h
    split
    · exact hr
    · refine rise_put kf hr x (fun h' => h ?_)
      rw [hasB_iff hr]
      exact h'
theorem rise_rdrop {L : List (Int × Int)} (hr : Rise kf L) (key : Int) : Rise kf (rdropL L key) := by
  unfold rdropL
  split
  · exact rise_del kf hr _
  · exact hr

/-- Items of a slice, wherever it begins. -/
abbrev Sg (w : World) (a : Option Addr) (L : List (Int × Int)) : Prop := Seg w (fun _ => True) a L

theorem sg_of_own {w : World} {B : Nat} {L : List (Int × Int)} {a : Option Addr} {n cap : Nat} (h : w.ownsRow B 28 2 (.slice a n cap) n (cellsOf L)) (hn : L.length = n) : Sg w a L := by
  intro i y hy
  obtain ⟨g, e, h1, h2, h3⟩ := items_of hn h i y hy
  exact ⟨g, 0, e, trivial, h1, by rw [Nat.zero_add]; exact h2, by rw [Nat.zero_add]; exact h3⟩

set_option maxRecDepth 100000 in
set_option maxHeartbeats 1000000 in
theorem items_same (w : World) (a b : Option Addr) (ca cb : Nat) (L : List (Int × Int)) (n : Nat) (hn : L.length = n) (hn2 : n ≤ 8796093022208) (ha : Sg w a L) (hb : Sg w b L) :
    Calls Try.prog 15 #[.slice a n ca, .slice b n cb] w fun e w' => e = .returned (.bool true) ∧ ∃ m, w' = w.drewN m := by
  have hn' : (n : Int) ≤ 8796093022208 := by omega
  have HA : Hid (Sg w a L) := ha
  have HB : Hid (Sg w b L) := hb
  clear ha hb
  go_enter Try.func15, Try.ntmps15
  go_wp2
  go_loopw [5] (fun i wr => ∃ k m : Nat, k ≤ n ∧ i = .int .i64 (k : Int) ∧ wr = w.drewN m) (fun i _ => n - (intOf i).toNat)
  case atStart => exact ⟨0, 0, Nat.zero_le _, rfl, rfl⟩
  case round =>
    obtain ⟨k, m, hk, rfl, rfl⟩ := hrel
    by_cases hlt : k < n
    · have hy := List.getElem?_eq_getElem (l := L) (i := k) (by omega)
      obtain ⟨g, off, rfl, -, hg1, hg2, hg3⟩ := HA.out k _ hy
      obtain ⟨g', off', rfl, -, hg4, hg5, hg6⟩ := HB.out k _ hy
      generalize L[k] = y at *
      have hk1 : (k : Int) < (n : Int) := by omega
      have hk2 : (0 : Int) ≤ (k : Int) := by omega
      clear hy
      go_wp2
      go_quiet (fail)
      go_wp2
      go_roundw
      case rel => exact ⟨k + 1, m + _, by omega, by go_num, rfl⟩
      case measure => simp [intOf]; omega
    · go_wp2
      go_ret
      exact ⟨rfl, m, rfl⟩

/-- The first so many of items. -/
def someL (L : List (Int × Int)) (stop : Int) : List (Int × Int) := if 0 < stop ∧ stop < (L.length : Int) then L.take stop.toNat else L

set_option maxRecDepth 100000 in
set_option maxHeartbeats 1000000 in
theorem some_any (w : World) (a : Option Addr) (cap : Nat) (L : List (Int × Int)) (n : Nat) (hn : L.length = n) (hn2 : n ≤ 1048576) (hnc : n ≤ cap) (hcm : cap ≤ maxLen) (stop : Int) (ha : Sg w a L) :
    Calls Try.prog 44 #[.slice a n cap, .int .i64 stop] w fun e w' => e = .returned (.slice a (someL L stop).length cap) ∧ w' = w ∧ Sg w a (someL L stop) := by
  have hn' : (n : Int) ≤ 1048576 := by omega
  unfold maxLen at hcm
  have hcm' : (cap : Int) ≤ 9223372036854775807 := by omega
  by_cases h1 : 0 < stop ∧ stop < (n : Int)
  · obtain ⟨s, rfl⟩ : ∃ s : Nat, stop = (s : Int) := ⟨stop.toNat, by omega⟩
    have e : someL L (s : Int) = L.take s := by rw [someL, hn, if_pos h1]; simp
    have hl : (someL L (s : Int)).length = s := by rw [e, List.length_take]; omega
    have hsg : Hid (Sg w a (someL L (s : Int))) := fun i y hy => by
      rw [e, List.getElem?_take] at hy
      split at hy
      · exact ha i y hy
      · cases hy
    rw [hl]
    have d1 : decide ((0 : Int) < (s : Int)) = true := by simp; omega
    have d2 : (s : Int) < (n : Int) := h1.2
    have d3 : (0 : Int) < (s : Int) := h1.1
    have d4 : (s : Int) ≤ (cap : Int) := by omega
    have d5 : (0 : Int) ≤ (s : Int) := by omega
    clear ha e hl h1
    generalize someL L (s : Int) = M at *
    cases a with
    | none =>
      go_enter Try.func44, Try.ntmps44
      go_wp2
      all_goals
        go_ret
        exact ⟨rfl, rfl, hsg.out⟩
    | some ad =>
      go_enter Try.func44, Try.ntmps44
      go_wp2
      all_goals
        go_ret
        exact ⟨rfl, rfl, hsg.out⟩
  · have e : someL L stop = L := by rw [someL, hn, if_neg h1]
    rw [e, hn]
    have Ha : Hid (Sg w a L) := ha
    clear ha e
    by_cases h2 : 0 < stop
    · have h3 : ¬ stop < (n : Int) := fun h => h1 ⟨h2, h⟩
      have d1 : decide ((0 : Int) < stop) = true := by simpa using h2
      have d2 : decide (stop < (n : Int)) = false := by simpa using h3
      clear h1
      go_enter Try.func44, Try.ntmps44
      go_wp2
      go_ret
      exact ⟨rfl, rfl, Ha.out⟩
    · have d1 : decide ((0 : Int) < stop) = false := by simpa using h2
      clear h1
      go_enter Try.func44, Try.ntmps44
      go_wp2
      go_ret
      exact ⟨rfl, rfl, Ha.out⟩

theorem rev_take_snoc {L : List (Int × Int)} {k m : Nat} (hk : k < L.length) (hm : m = L.length - 1 - k) (h : m < L.length) : L.reverse.take (k + 1) = L.reverse.take k ++ [L[m]] := by
  have hy : L.reverse[k]? = some L[m] := by
    rw [List.getElem?_reverse hk, ← hm]
    exact List.getElem?_eq_getElem h
  exact (take_pre hy).1.symm

set_option maxRecDepth 100000 in
set_option maxHeartbeats 1000000 in
theorem turned_any (w : World) (a : Option Addr) (cap : Nat) (L : List (Int × Int)) (n : Nat) (hn : L.length = n) (hn2 : n ≤ 1048576) (ha : Sg w a L) :
    Calls Try.prog 45 #[.slice a n cap] w fun e w' => ∃ a' cap', e = .returned (.slice a' n cap') ∧ w'.ownsRow w.heap.size 28 2 (.slice a' n cap') n (cellsOf L.reverse) ∧ Below w.heap.size w w' := by
  have hn' : (n : Int) ≤ 1048576 := by omega
  have HA : Hid (Sg w a L) := ha
  clear ha
  go_enter Try.func45, Try.ntmps45
  go_wp2
  go_loopw [3, 4] (fun r i wr => ∃ (k : Nat) (ra : Option Addr) (rc : Nat), k ≤ n ∧ i = .int .i64 ((n : Int) - 1 - (k : Int)) ∧ r = .slice ra k rc ∧ Hid (Mk w wr (.slice ra k rc) k (cellsOf (L.reverse.take k)))) (fun _ i _ => (intOf i + 1).toNat)
  case atStart => exact ⟨0, _, 0, Nat.zero_le _, by simp, rfl, by show Mk _ _ _ _ _; simpa [cellsOf] using Mk.new w⟩
  case round =>
    obtain ⟨k, ra, rc, hk, rfl, rfl, hM⟩ := hrel
    by_cases hlt : k < n
    · obtain ⟨m, hm⟩ : ∃ m : Nat, (n : Int) - 1 - (k : Int) = (m : Int) := ⟨n - 1 - k, by omega⟩
      have hml : m < L.length := by omega
      obtain ⟨g, off, rfl, -, hg1, hg2, hg3⟩ := HA.out m _ (List.getElem?_eq_getElem hml)
      have HS : Hid (cellsOf (L.reverse.take (k + 1)) = cellsOf (L.reverse.take k) ++ [.int .i64 L[m].1, .int .i64 L[m].2]) := by
        show _ = _
        rw [rev_take_snoc (by omega) (by omega) hml, cellsOf_append]
        rfl
      generalize L[m] = y at *
      have Hm : Hid ((n : Int) - 1 - (k : Int) = (m : Int)) := hm
      have hm1 : (m : Int) < (n : Int) := by omega
      have hm2 : (0 : Int) ≤ (m : Int) := by omega
      have c1 : wr.cell? ⟨g, off + m * 2, none⟩ = some (.int .i64 y.1) := (hM.out.bel.cell (p := ⟨g, off + m * 2, none⟩) hg1).trans hg2
      have c2 : wr.cell? ⟨g, off + m * 2 + 1, none⟩ = some (.int .i64 y.2) := (hM.out.bel.cell (p := ⟨g, off + m * 2 + 1, none⟩) hg1).trans hg3
      rw [hm]
      clear hm
      go_wp2_with (at_builtin; refine wpList_mk rfl _ _ rfl _ k _ (hM.out.alloc _) rfl _ 1 1 [.int .i64 y.1, .int .i64 y.2] rfl rfl (two_at (isCells_new wr _ _)) (by intro u hu; simp at hu; rcases hu with rfl | rfl <;> rfl) (by omega) ?_; intro v3 w3 m3; obtain ⟨ra', rc', rfl⟩ := own_slice m3.own; have M3 : Hid (Mk w w3 (.slice ra' (k + 1) rc') (k + 1) (cellsOf (L.reverse.take (k + 1)))) := (by rw [← HS.out] at m3; exact m3); clear m3 hM)
      go_roundw
      case rel => exact ⟨k + 1, ra', rc', by omega, v_int (by have := Hm.out; omega), rfl, M3⟩
      case measure => simp [intOf]
    · have hm : (n : Int) - 1 - (k : Int) = -1 := by omega
      obtain rfl : k = n := by omega
      have M3 : Hid (Mk w wr (.slice ra k rc) k (cellsOf L.reverse)) := by
        have := hM.out
        rw [List.take_of_length_le (by simp; omega)] at this
        exact this
      rw [hm]
      clear hM hm
      go_wp2
      go_ret
      exact ⟨ra, rc, rfl, M3.out.own, M3.out.bel⟩

end Go.Proofs.Ytiggpbjgnododaa.T
