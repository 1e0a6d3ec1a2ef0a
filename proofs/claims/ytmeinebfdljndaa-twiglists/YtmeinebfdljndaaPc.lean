/- Nodes with their spans as cells. -/
import Derived.Test.YtmeinebfdljndaaChk
import Derived.Test.YtmeinebfdljndaaRis
namespace Go.Proofs.Ytmeinebfdljndaa
open Go.RowKit
set_option linter.unusedVariables false
attribute [local go_sem] Bel.cell Bel.fz

def plCells : List Pl → List Value
  | [] => []
  | x :: r => .int .u64 x.n :: .int .u64 x.s.b :: .int .u64 x.s.e :: .int .i64 x.s.l :: plCells r
theorem plCells_append : ∀ l m, plCells (l ++ m) = plCells l ++ plCells m
  | [], m => rfl
  | x :: r, m => by simp [plCells, plCells_append r m]
theorem plCells_length : ∀ l, (plCells l).length = l.length * 4
  | [] => rfl
  | x :: r => by simp [plCells, plCells_length r]; omega
theorem plCells_one : ∀ l, ∀ u ∈ plCells l, u.oneCell' = true
  | [], u, h => by simp [plCells] at h
  | p :: r, u, h => by
    simp only [plCells, List.mem_cons] at h
    rcases h with rfl | rfl | rfl | rfl | h
    · rfl
    · rfl
    · rfl
    · rfl
    · exact plCells_one r u h
theorem pl_news (w : World) (x : Pl) : ∀ j u, (plCells [x])[j]? = some u → ∃ ad, (some ⟨w.heap.size, 0, none⟩ : Option Addr) = some ad ∧ (w.alloc (.cells #[.int .u64 x.n, .int .u64 x.s.b, .int .u64 x.s.e, .int .i64 x.s.l] 38)).drew.cell? (ad.add j) = some u := by
  intro j u hu
  refine ⟨_, rfl, ?_⟩
  have e : (⟨w.heap.size, 0, none⟩ : Addr).add j = ⟨w.heap.size, j, none⟩ := by unfold Addr.add; split <;> simp_all
  have h := (isCells_new w #[.int .u64 x.n, .int .u64 x.s.b, .int .u64 x.s.e, .int .i64 x.s.l] 38).cell j
  rw [e]
  exact h.trans (by simpa [plCells] using hu)
theorem plCells_at : ∀ (L : List Pl) (j : Nat) (u : Value), (plCells L)[j]? = some u → ∃ i x, L[i]? = some x ∧ ((j = i * 4 ∧ u = .int .u64 x.n) ∨ (j = i * 4 + 1 ∧ u = .int .u64 x.s.b) ∨ (j = i * 4 + 2 ∧ u = .int .u64 x.s.e) ∨ (j = i * 4 + 3 ∧ u = .int .i64 x.s.l))
  | [], j, u, h => by simp [plCells] at h
  | x :: r, 0, u, h => ⟨0, x, rfl, .inl ⟨rfl, by simpa [plCells] using h.symm⟩⟩
  | x :: r, 1, u, h => ⟨0, x, rfl, .inr (.inl ⟨rfl, by simpa [plCells] using h.symm⟩)⟩
  | x :: r, 2, u, h => ⟨0, x, rfl, .inr (.inr (.inl ⟨rfl, by simpa [plCells] using h.symm⟩))⟩
  | x :: r, 3, u, h => ⟨0, x, rfl, .inr (.inr (.inr ⟨rfl, by simpa [plCells] using h.symm⟩))⟩
  | x :: r, j + 4, u, h => by
    obtain ⟨i, y, hy, hc⟩ := plCells_at r j u (by simpa [plCells] using h)
    refine ⟨i + 1, y, by simpa using hy, ?_⟩
    rcases hc with ⟨h1, h2⟩ | ⟨h1, h2⟩ | ⟨h1, h2⟩ | ⟨h1, h2⟩
    · exact .inl ⟨by omega, h2⟩
    · exact .inr (.inl ⟨by omega, h2⟩)
    · exact .inr (.inr (.inl ⟨by omega, h2⟩))
    · exact .inr (.inr (.inr ⟨by omega, h2⟩))
theorem pls_news {w w' : World} {a : Option Addr} {L : List Pl} (h : PlsAt w w.heap.size a L) (hb : Below w.heap.size w w') : ∀ j u, (plCells L)[j]? = some u → ∃ ad, a = some ad ∧ w'.cell? (ad.add j) = some u := by
  intro j u hu
  obtain ⟨i, x, hx, hc⟩ := plCells_at L j u hu
  obtain ⟨g, o, rfl, hg, c0, c1, c2, c3⟩ := (h.below hb (Nat.le_refl _)) i x hx
  refine ⟨_, rfl, ?_⟩
  have e : (⟨g, o, none⟩ : Addr).add j = ⟨g, o + j, none⟩ := by unfold Addr.add; split <;> simp_all
  rw [e]
  rcases hc with ⟨rfl, rfl⟩ | ⟨rfl, rfl⟩ | ⟨rfl, rfl⟩ | ⟨rfl, rfl⟩
  · exact c0
  · exact c1
  · exact c2
  · exact c3
theorem plCells_get : ∀ (l : List Pl) (i : Nat) (x : Pl), l[i]? = some x → (plCells l)[i * 4]? = some (.int .u64 x.n) ∧ (plCells l)[i * 4 + 1]? = some (.int .u64 x.s.b) ∧ (plCells l)[i * 4 + 2]? = some (.int .u64 x.s.e) ∧ (plCells l)[i * 4 + 3]? = some (.int .i64 x.s.l)
  | [], i, x, h => by simp at h
  | y :: r, 0, x, h => by
    simp at h
    subst h
    exact ⟨rfl, rfl, rfl, rfl⟩
  | y :: r, i + 1, x, h => by
    have := plCells_get r i x (by simpa using h)
    rw [show (i + 1) * 4 = i * 4 + 4 from by omega]
    simpa [plCells] using this
theorem row_pls {w : World} {base : Nat} {e : TypeId} {a : Option Addr} {n cap : Nat} {L : List Pl} (h : w.ownsRow base e 4 (.slice a n cap) n (plCells L)) : PlsAt w w.heap.size a L := by
  obtain ⟨hc, hl, hcell⟩ := row_cell h
  refine fun i x hx => ?_
  obtain ⟨g1, g2, g3, g4⟩ := plCells_get L i x hx
  obtain ⟨g, rfl, hb, hlt, c1⟩ := hcell _ _ g1
  obtain ⟨g', e', _, _, c2⟩ := hcell _ _ g2
  cases e'
  obtain ⟨g', e', _, _, c3⟩ := hcell _ _ g3
  cases e'
  obtain ⟨g', e', _, _, c4⟩ := hcell _ _ g4
  cases e'
  refine ⟨g, 0, rfl, hlt, ?_, ?_, ?_, ?_⟩
  · simpa using c1
  · simpa using c2
  · simpa using c3
  · simpa using c4
theorem PlsAt.bel {w w' : World} {a : Option Addr} {L : List Pl} (h : PlsAt w w.heap.size a L) (hb : Below w.heap.size w w') : PlsAt w' w'.heap.size a L := (h.below hb (Nat.le_refl _)).more hb.size
set_option maxRecDepth 100000 in
set_option maxHeartbeats 2000000 in
theorem trises_any (w : World) {L : List Pl} {a : Option Addr} {cap : Nat} (h : PlsAt w w.heap.size a L) (hl : L.length ≤ 8192) (hv : ∀ x ∈ L, Lvl x.s) (y : Int) (hy : oneS (sps L) none = y) :
    Calls Try.prog 40 #[.slice a L.length cap] w fun e w' => e = .returned (.int .i64 y) ∧ Below w.heap.size w w' := by
  have HY : Hid (oneS (sps L) none = y) := hy
  have HA : Hid (PlsAt w w.heap.size a L ∧ ∀ x ∈ L, Lvl x.s) := ⟨h, hv⟩
  clear hy h hv
  go_enter Try.func40, Try.ntmps40
  go_wp2
  go_loopw [9] (fun v wr => ∃ (i : Nat), i ≤ L.length ∧ v = .int .i64 (i : Int) ∧ Hid (oneS ((sps L).drop i) (pvAt (sps L) i) = y) ∧ Hid (Below w.heap.size w wr)) (fun v _ => L.length - (intOf v).toNat)
  case atStart => exact ⟨0, by omega, rfl, HY, Below.refl _ _⟩
  case round =>
    obtain ⟨i, hi, rfl, HG, HB⟩ := hrel
    have hws := HB.out.size
    by_cases hlt : i < L.length
    · obtain ⟨x, hx⟩ : ∃ x, L[i]? = some x := ⟨_, List.getElem?_eq_getElem hlt⟩
      have HS := oneS_at (sps_get hx)
      rw [HG.out] at HS
      have hpl := HA.out.1.below HB.out (Nat.le_refl _)
      obtain ⟨b, o, rfl, hbl, hc0, hc1, hc2, hc3⟩ := hpl i x hx
      obtain ⟨l1, l2⟩ := low_at hpl hlt x.s
      have hbr : b < wr.heap.size := by omega
      have hcv := fun W => rel_any W x.s x.s (HA.out.2 x (List.mem_of_getElem? hx)) (HA.out.2 x (List.mem_of_getElem? hx))
      have hlv := HA.out.2 x (List.mem_of_getElem? hx)
      clear hx hpl
      obtain ⟨x0, ⟨x1, x2, x3⟩⟩ := x
      unfold sv at hcv
      simp only at *
      have HB1 : Hid (Below w.heap.size w (wr.alloc (.cells #[.int .u64 x0, .int .u64 x1, .int .u64 x2, .int .i64 x3] 38))) := HB.out.alloc hws _
      cases hvv : val ⟨x1, x2, x3⟩
      · rw [hvv, if_pos rfl] at HS
        have hr : rel ⟨x1, x2, x3⟩ ⟨x1, x2, x3⟩ = (0, 110) := by simp [rel, hvv]
        rw [hr] at hcv
        simp only at hcv
        have HE : Hid (110 = y) := HS.symm
        clear HS l1 l2 hvv
        go_wp2_with fail
        with_reducible refine (Calls.bel_first (hcv _)).mono ?_
        rintro e _ ⟨rfl, u, rfl⟩
        go_wp2
        go_ret
        exact ⟨ret_i HE.out, rel_end HB1.out u⟩
      · rw [hvv, if_neg (by decide)] at HS
        have hr : rel ⟨x1, x2, x3⟩ ⟨x1, x2, x3⟩ = (1, 0) := by simp [rel, hvv, slf]
        rw [hr] at hcv
        simp only at hcv
        clear hr
        clear hvv
        by_cases hi0 : i = 0
        · rw [l1 hi0, if_neg (by decide)] at HS
          have HE : Hid (oneS ((sps L).drop (i + 1)) (pvAt (sps L) (i + 1)) = y) := HS.symm
          have hdec : decide ((0 : Int) < (i : Int)) = false := by rw [hi0]; rfl
          have hdec' : decide (0 < i) = false := by rw [hi0]; rfl
          clear HS l1 l2 hi0
          go_wp2_with fail
          with_reducible refine (Calls.bel_first (hcv _)).mono ?_
          rintro e _ ⟨rfl, u, rfl⟩
          go_wp2_with fail
          refine wp_region_belOf u (by kernel_rfl) (by kernel_rfl) ?_
          intro hne
          repeat go_big_quiet_step (fail)
          refine wpQuiet_nil ?_
          rintro _ ⟨v, rfl⟩
          have HB2 : Hid (Below w.heap.size w v.w) := rel_end HB1.out v
          go_wp2
          go_roundw
          case rel => exact ⟨i + 1, by omega, by go_num, HE, HB2⟩
          case measure => simp [intOf]; omega
        · obtain ⟨j, rfl⟩ : ∃ j, i = j + 1 := ⟨i - 1, by omega⟩
          obtain ⟨q, hq1, hq2⟩ := l2 j rfl
          have hdec : decide ((0 : Int) < (j : Int) + 1) = true := by simp <;> omega
          have hdec' : decide (0 < j + 1) = true := by simp
          have hj1 : (j : Int) + 1 - 1 = (j : Int) := by omega
          have hj2 : (j : Int) < (L.length : Int) := by omega
          have hj3 : (j : Int) + 1 < (L.length : Int) := by omega
          have hj4 : (0 : Int) ≤ (j : Int) := by omega
          rw [hq1] at HS
          have hqW : (wr.alloc (.cells #[.int .u64 x0, .int .u64 x1, .int .u64 x2, .int .i64 x3] 38)).cell? ⟨b, o + j * 4 + 1, none⟩ = some (.int .u64 q) := ((Tn.refl (fun _ => False) wr).alloc _).cell hbr id |>.trans hq2
          clear l1 l2 hi0 hq1
          by_cases hle : x1 ≤ q
          · have hd3 : decide (x1 ≤ q) = true := by simp [hle]
            rw [hd3, if_pos rfl] at HS
            have HE : Hid (71 = y) := HS.symm
            clear HS hle
            go_wp2_with fail
            with_reducible refine (Calls.bel_first (hcv _)).mono ?_
            rintro e _ ⟨rfl, u, rfl⟩
            go_wp2_with fail
            refine wp_region_belOf u (by kernel_rfl) (by kernel_rfl) ?_
            intro hne
            repeat go_big_quiet_step (fail)
            refine wpQuiet_nil ?_
            rintro _ ⟨v, rfl⟩
            have HB2 : Hid (Below w.heap.size w v.w) := rel_end HB1.out v
            go_wp2
            go_ret
            exact ⟨ret_i HE.out, HB2.out⟩
          · have hd3 : decide (x1 ≤ q) = false := by simp; omega
            rw [hd3, if_neg (by decide)] at HS
            have HE : Hid (oneS ((sps L).drop (j + 1 + 1)) (pvAt (sps L) (j + 1 + 1)) = y) := HS.symm
            clear HS hle
            go_wp2_with fail
            with_reducible refine (Calls.bel_first (hcv _)).mono ?_
            rintro e _ ⟨rfl, u, rfl⟩
            go_wp2_with fail
            refine wp_region_belOf u (by kernel_rfl) (by kernel_rfl) ?_
            intro hne
            repeat go_big_quiet_step (fail)
            refine wpQuiet_nil ?_
            rintro _ ⟨v, rfl⟩
            have HB2 : Hid (Below w.heap.size w v.w) := rel_end HB1.out v
            go_wp2
            go_roundw
            case rel => exact ⟨j + 1 + 1, by omega, by go_num, HE, HB2⟩
            case measure => simp [intOf]; omega
    · have HE : Hid (0 = y) := by
        have h := HG.out
        rw [List.drop_eq_nil_of_le (by simp [sps]; omega)] at h
        exact h
      go_wp2
      go_ret
      exact ⟨ret_i HE.out, HB.out⟩
theorem info38 : InfoOf Try.prog 38 (.agg #[.int .u64 0, .int .u64 0, .int .u64 0, .int .i64 0]) 4 32 := by unfold InfoOf; kernel_rfl

end Go.Proofs.Ytmeinebfdljndaa
