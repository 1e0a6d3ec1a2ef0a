/- What is wrong with a list: the program's rises, the document's one. -/
import Derived.Test.YtmeinebfdljndaaNst3
namespace Go.Proofs.Ytmeinebfdljndaa
open Go.RowKit
set_option linter.unusedVariables false
attribute [local go_sem] Bel.cell Bel.fz

/-- Its beginning is not above that of the one ahead. -/
def low (pv : Option Int) (x : Sp) : Bool := match pv with | none => false | some p => decide (x.b ≤ p)
def oneS : List Sp → Option Int → Int
  | [], _ => 0
  | x :: r, pv => if val x = false then 110 else if low pv x = true then 71 else oneS r (some x.b)
def pvAt (L : List Sp) (i : Nat) : Option Int := if i = 0 then none else (L[i - 1]?).map (·.b)
theorem oneS_at {L : List Sp} {i : Nat} {x : Sp} (h : L[i]? = some x) :
    oneS (L.drop i) (pvAt L i) = if val x = false then 110 else if low (pvAt L i) x = true then 71 else oneS (L.drop (i + 1)) (pvAt L (i + 1)) := by
  have hlt := (List.getElem?_eq_some_iff.1 h).1
  have e : L.drop i = x :: L.drop (i + 1) := by
    rw [List.drop_eq_getElem_cons hlt, (List.getElem?_eq_some_iff.1 h).2]
  have e2 : pvAt L (i + 1) = some x.b := by simp [pvAt, h]
  rw [e, e2, oneS]
theorem ret_i {a b : Int} (h : a = b) : Ending.returned (.int .i64 a) = .returned (.int .i64 b) := by rw [h]
/-- What stands ahead, in memory. -/
theorem low_at {w : World} {B : Nat} {g o : Nat} {L : List Pl} (h : PlsAt w B (some ⟨g, o, none⟩) L) {i : Nat} (hi : i < L.length) (x : Sp) : (i = 0 → low (pvAt (sps L) i) x = false) ∧ ∀ j, i = j + 1 → ∃ q : Int, low (pvAt (sps L) i) x = decide (x.b ≤ q) ∧ w.cell? ⟨g, o + j * 4 + 1, none⟩ = some (.int .u64 q) := by
  refine ⟨fun h0 => by subst h0; rfl, fun j hj => ?_⟩
  obtain ⟨q, hq⟩ : ∃ q, L[j]? = some q := ⟨_, List.getElem?_eq_getElem (by omega)⟩
  obtain ⟨b', o', he, hb', -, hc, -⟩ := h j q hq
  simp only [Option.some.injEq, Addr.mk.injEq, and_true] at he
  obtain ⟨rfl, rfl⟩ := he
  exact ⟨q.s.b, by subst hj; simp [pvAt, sps_get hq, low], hc⟩

set_option maxRecDepth 100000 in
set_option maxHeartbeats 2000000 in
theorem rises_any (w : World) {L : List Pl} {a : Option Addr} {cap : Nat} (h : PlsAt w w.heap.size a L) (hl : L.length ≤ 8192) (hv : ∀ x ∈ L, Lvl x.s) (y : Int) (hy : oneS (sps L) none = y) :
    Calls Try.prog 109 #[.slice a L.length cap] w fun e w' => e = .returned (.int .i64 y) ∧ Below w.heap.size w w' := by
  have HY : Hid (oneS (sps L) none = y) := hy
  have HA : Hid (PlsAt w w.heap.size a L ∧ ∀ x ∈ L, Lvl x.s) := ⟨h, hv⟩
  clear hy h hv
  go_enter Try.func109, Try.ntmps109
  go_wp2
  go_loopw [9] (fun v wr => ∃ (i : Nat), i ≤ L.length ∧ v = .int .i64 (i : Int) ∧ Hid (oneS ((sps L).drop i) (pvAt (sps L) i) = y) ∧ Hid (Below w.heap.size w wr)) (fun v _ => L.length - (intOf v).toNat)
  case atStart => exact ⟨0, by omega, rfl, HY, Below.refl _ _⟩
  case round =>
    obtain ⟨i, hi, rfl, HG, HB⟩ := hrel
    have hws := HB.out.size
    by_cases hlt : i < L.length
    · obtain ⟨x, hx⟩ : ∃ x, L[i]? = some x := ⟨_, List.getElem?_eq_getElem hlt⟩
      have HS := oneS_at (sps_get hx)
      rw [HG.out] at HS
      have hpl := HA.out.1.below HB.out (Nat.le_refl _)
      obtain ⟨b, o, rfl, hbl, hc0, hc1, hc2, hc3⟩ := hpl i x hx
      obtain ⟨l1, l2⟩ := low_at hpl hlt x.s
      have hbr : b < wr.heap.size := by omega
      have hcv := fun W => rel_any W x.s x.s (HA.out.2 x (List.mem_of_getElem? hx)) (HA.out.2 x (List.mem_of_getElem? hx))
      have hlv := HA.out.2 x (List.mem_of_getElem? hx)
      clear hx hpl
      obtain ⟨x0, ⟨x1, x2, x3⟩⟩ := x
      unfold sv at hcv
      simp only at *
      have HB1 : Hid (Below w.heap.size w (wr.alloc (.cells #[.int .u64 x0, .int .u64 x1, .int .u64 x2, .int .i64 x3] 38))) := HB.out.alloc hws _
      cases hvv : val ⟨x1, x2, x3⟩
      · rw [hvv, if_pos rfl] at HS
        have hr : rel ⟨x1, x2, x3⟩ ⟨x1, x2, x3⟩ = (0, 110) := by simp [rel, hvv]
        rw [hr] at hcv
        simp only at hcv
        have HE : Hid (110 = y) := HS.symm
        clear HS l1 l2 hvv
        go_wp2_with fail
        with_reducible refine (Calls.bel_first (hcv _)).mono ?_
        rintro e _ ⟨rfl, u, rfl⟩
        go_wp2
        go_ret
        exact ⟨ret_i HE.out, rel_end HB1.out u⟩
      · rw [hvv, if_neg (by decide)] at HS
        have hr : rel ⟨x1, x2, x3⟩ ⟨x1, x2, x3⟩ = (1, 0) := by simp [rel, hvv, slf]
        rw [hr] at hcv
        simp only at hcv
        clear hr
        clear hvv
        by_cases hi0 : i = 0
        · rw [l1 hi0, if_neg (by decide)] at HS
          have HE : Hid (oneS ((sps L).drop (i + 1)) (pvAt (sps L) (i + 1)) = y) := HS.symm
          have hdec : decide ((0 : Int) < (i : Int)) = false := by rw [hi0]; rfl
          have hdec' : decide (0 < i) = false := by rw [hi0]; rfl
          clear HS l1 l2 hi0
          go_wp2_with fail
          with_reducible refine (Calls.bel_first (hcv _)).mono ?_
          rintro e _ ⟨rfl, u, rfl⟩
          go_wp2_with fail
          refine wp_region_belOf u (by kernel_rfl) (by kernel_rfl) ?_
          intro hne
          repeat go_big_quiet_step (fail)
          refine wpQuiet_nil ?_
          rintro _ ⟨v, rfl⟩
          have HB2 : Hid (Below w.heap.size w v.w) := rel_end HB1.out v
          go_wp2
          go_roundw
          case rel => exact ⟨i + 1, by omega, by go_num, HE, HB2⟩
          case measure => simp [intOf]; omega
        · obtain ⟨j, rfl⟩ : ∃ j, i = j + 1 := ⟨i - 1, by omega⟩
          obtain ⟨q, hq1, hq2⟩ := l2 j rfl
          have hdec : decide ((0 : Int) < (j : Int) + 1) = true := by simp <;> omega
          have hdec' : decide (0 < j + 1) = true := by simp
          have hj1 : (j : Int) + 1 - 1 = (j : Int) := by omega
          have hj2 : (j : Int) < (L.length : Int) := by omega
          have hj3 : (j : Int) + 1 < (L.length : Int) := by omega
          have hj4 : (0 : Int) ≤ (j : Int) := by omega
          rw [hq1] at HS
          have hqW : (wr.alloc (.cells #[.int .u64 x0, .int .u64 x1, .int .u64 x2, .int .i64 x3] 38)).cell? ⟨b, o + j * 4 + 1, none⟩ = some (.int .u64 q) := ((Tn.refl (fun _ => False) wr).alloc _).cell hbr id |>.trans hq2
          clear l1 l2 hi0 hq1
          by_cases hle : x1 ≤ q
          · have hd3 : decide (x1 ≤ q) = true := by simp [hle]
            rw [hd3, if_pos rfl] at HS
            have HE : Hid (71 = y) := HS.symm
            clear HS hle
            go_wp2_with fail
            with_reducible refine (Calls.bel_first (hcv _)).mono ?_
            rintro e _ ⟨rfl, u, rfl⟩
            go_wp2_with fail
            refine wp_region_belOf u (by kernel_rfl) (by kernel_rfl) ?_
            intro hne
            repeat go_big_quiet_step (fail)
            refine wpQuiet_nil ?_
            rintro _ ⟨v, rfl⟩
            have HB2 : Hid (Below w.heap.size w v.w) := rel_end HB1.out v
            go_wp2
            go_ret
            exact ⟨ret_i HE.out, HB2.out⟩
          · have hd3 : decide (x1 ≤ q) = false := by simp; omega
            rw [hd3, if_neg (by decide)] at HS
            have HE : Hid (oneS ((sps L).drop (j + 1 + 1)) (pvAt (sps L) (j + 1 + 1)) = y) := HS.symm
            clear HS hle
            go_wp2_with fail
            with_reducible refine (Calls.bel_first (hcv _)).mono ?_
            rintro e _ ⟨rfl, u, rfl⟩
            go_wp2_with fail
            refine wp_region_belOf u (by kernel_rfl) (by kernel_rfl) ?_
            intro hne
            repeat go_big_quiet_step (fail)
            refine wpQuiet_nil ?_
            rintro _ ⟨v, rfl⟩
            have HB2 : Hid (Below w.heap.size w v.w) := rel_end HB1.out v
            go_wp2
            go_roundw
            case rel => exact ⟨j + 1 + 1, by omega, by go_num, HE, HB2⟩
            case measure => simp [intOf]; omega
    · have HE : Hid (0 = y) := by
        have h := HG.out
        rw [List.drop_eq_nil_of_le (by simp [sps]; omega)] at h
        exact h
      go_wp2
      go_ret
      exact ⟨ret_i HE.out, HB.out⟩

end Go.Proofs.Ytmeinebfdljndaa
