/- Common: the document's answer. -/
import Derived.Test.YtfhbfilmejegcaaCom
namespace Go.Proofs.Ytfhbfilmejegcaa
open Go.RowKit
set_option linter.unusedVariables false

set_option maxRecDepth 100000 in
set_option maxHeartbeats 2000000 in
theorem rcom_walk (w : World) (la : Option Addr) (L : List Sp) (cap : Nat) (a b : Sp) (h : SpsAt w w.heap.size la L) (hl : L.length ≤ 9000000000000) :
    Calls Try.prog 26 #[.slice la L.length cap, .agg (sv a), .agg (sv b)] w fun e w' => e = .returned (.tuple #[.agg (sv (comV (cmS L a b none))), .bool (cmS L a b none).isSome]) ∧ Below w.heap.size w w' := by
  have HA : Hid (SpsAt w w.heap.size la L) := h
  have h1 := fun (W : World) (x : Sp) => rself_any W x a
  have g1 := fun (W : World) (x : Sp) => rarnd_any W x a
  have h2 := fun (W : World) (x : Sp) => rself_any W x b
  have g2 := fun (W : World) (x : Sp) => rarnd_any W x b
  have HY : Hid (cmS L a b none = cmS L a b none) := rfl
  generalize hy : cmS L a b none = y at HY ⊢
  have HS0 : Hid (ComS w ((((w.alloc (.cells (sv a) 24)).alloc (.cells (sv b) 24)).alloc (.cells (sv spZ) 24)).alloc (.cells (sv spZ) 24)) a b spZ) := coms_start w a b
  have HY0 : Hid (cmS (L.drop 0) a b none = y) := hy
  have HAT : Hid (∀ i x best, L[i]? = some x → cmS (L.drop i) a b best = if (hld x a && hld x b && btr best x) = true then cmS (L.drop (i + 1)) a b (some x) else cmS (L.drop (i + 1)) a b best) := fun i x best hx => cmS_at a b best hx
  have HEND : Hid (∀ i best, L.length ≤ i → cmS (L.drop i) a b best = best) := fun i best hi => by rw [List.drop_eq_nil_of_le hi]; rfl
  clear h hy HY
  have ea : sv a = #[.int .u64 a.b, .int .u64 a.e, .int .i64 a.l] := rfl
  have eb : sv b = #[.int .u64 b.b, .int .u64 b.e, .int .i64 b.l] := rfl
  rw [ea, eb]
  have h1' : ∀ W (x : Sp), Calls Try.prog 8 #[.agg #[.int .u64 x.b, .int .u64 x.e, .int .i64 x.l], .agg #[.int .u64 a.b, .int .u64 a.e, .int .i64 a.l]] W fun e w' => e = .returned (.bool (slf x a)) ∧ Below W.heap.size W w' := h1
  have g1' : ∀ W (x : Sp), Calls Try.prog 10 #[.agg #[.int .u64 x.b, .int .u64 x.e, .int .i64 x.l], .agg #[.int .u64 a.b, .int .u64 a.e, .int .i64 a.l]] W fun e w' => e = .returned (.bool (anc x a)) ∧ Below W.heap.size W w' := g1
  have h2' : ∀ W (x : Sp), Calls Try.prog 8 #[.agg #[.int .u64 x.b, .int .u64 x.e, .int .i64 x.l], .agg #[.int .u64 b.b, .int .u64 b.e, .int .i64 b.l]] W fun e w' => e = .returned (.bool (slf x b)) ∧ Below W.heap.size W w' := h2
  have g2' : ∀ W (x : Sp), Calls Try.prog 10 #[.agg #[.int .u64 x.b, .int .u64 x.e, .int .i64 x.l], .agg #[.int .u64 b.b, .int .u64 b.e, .int .i64 b.l]] W fun e w' => e = .returned (.bool (anc x b)) ∧ Below W.heap.size W w' := g2
  clear ea eb h1 h2 g1 g2
  go_enter Try.func26, Try.ntmps26
  go_wp2
  go_loopw [10, 9] (fun v f wr => ∃ (i : Nat) (best : Option Sp), i ≤ L.length ∧ v = .int .i64 (i : Int) ∧ f = .bool best.isSome ∧ Hid (ComS w wr a b (comV best)) ∧ Hid (cmS (L.drop i) a b best = y)) (fun v _ _ => L.length - (intOf v).toNat)
  case atStart => exact ⟨0, none, by omega, rfl, rfl, HS0, HY0⟩
  case round =>
    obtain ⟨i, best, hi, rfl, rfl, HC, HG⟩ := hrel
    by_cases hlt : i < L.length
    · obtain ⟨x, hx⟩ : ∃ x, L[i]? = some x := ⟨_, List.getElem?_eq_getElem hlt⟩
      have HST := HAT.out i x best hx
      rw [HG.out] at HST
      obtain ⟨lb, lo, rfl, hbl, hc0, hc1, hc2⟩ := (HA.out.below HC.out.bel (Nat.le_refl _)) i x hx
      have hsz := HC.out.cy.lt
      have HC1 : Hid (ComS w (wr.alloc (.cells #[.int .u64 x.b, .int .u64 x.e, .int .i64 x.l] 24)) a b (comV best)) := HC.out.below (below1 wr _) hsz
      have hcx : Hid (IsCells (wr.alloc (.cells #[.int .u64 x.b, .int .u64 x.e, .int .i64 x.l] 24)) wr.heap.size #[.int .u64 x.b, .int .u64 x.e, .int .i64 x.l]) := isCells_new wr _ _
      have hW1 : wr.heap.size < (wr.alloc (.cells #[.int .u64 x.b, .int .u64 x.e, .int .i64 x.l] 24)).heap.size := by simp
      have k1 := h1' (wr.alloc (.cells #[.int .u64 x.b, .int .u64 x.e, .int .i64 x.l] 24)) x
      have m1 := fun W => g1' W x
      have k2 := fun W => h2' W x
      have m2 := fun W => g2' W x
      have hwl : w.heap.size < wr.heap.size := by omega
      have ha0 : wr.cell? ⟨w.heap.size, 0, none⟩ = some (.int .u64 a.b) := HC.out.ca.cell 0
      have ha1 : wr.cell? ⟨w.heap.size, 1, none⟩ = some (.int .u64 a.e) := HC.out.ca.cell 1
      have ha2 : wr.cell? ⟨w.heap.size, 2, none⟩ = some (.int .i64 a.l) := HC.out.ca.cell 2
      clear HG hx h1' h2' g1' g2' HC
      go_wp2_with fail
      with_reducible refine (Calls.bel_first k1).mono ?_
      rintro e _ ⟨rfl, u, rfl⟩
      clear hc0 hc1 hc2 k1 ha0 ha1 ha2
      generalize wr.alloc (.cells #[.int .u64 x.b, .int .u64 x.e, .int .i64 x.l] 24) = W1 at *
      generalize wr.heap.size = G at *
      have hx0 : ∀ v : Bel W1, v.w.cell? ⟨G, 0, none⟩ = some (.int .u64 x.b) := fun v => by rw [v.cell _ _ hW1]; exact hcx.out.cell 0
      have hx1 : ∀ v : Bel W1, v.w.cell? ⟨G, 1, none⟩ = some (.int .u64 x.e) := fun v => by rw [v.cell _ _ hW1]; exact hcx.out.cell 1
      have hx2 : ∀ v : Bel W1, v.w.cell? ⟨G, 2, none⟩ = some (.int .i64 x.l) := fun v => by rw [v.cell _ _ hW1]; exact hcx.out.cell 2
      have ha0 : ∀ v : Bel W1, v.w.cell? ⟨w.heap.size, 0, none⟩ = some (.int .u64 a.b) := fun v => by rw [v.cell _ _ (by omega)]; exact HC1.out.ca.cell 0
      have ha1 : ∀ v : Bel W1, v.w.cell? ⟨w.heap.size, 1, none⟩ = some (.int .u64 a.e) := fun v => by rw [v.cell _ _ (by omega)]; exact HC1.out.ca.cell 1
      have ha2 : ∀ v : Bel W1, v.w.cell? ⟨w.heap.size, 2, none⟩ = some (.int .i64 a.l) := fun v => by rw [v.cell _ _ (by omega)]; exact HC1.out.ca.cell 2
      have hb0 : ∀ v : Bel W1, v.w.cell? ⟨w.heap.size + 1, 0, none⟩ = some (.int .u64 b.b) := fun v => by rw [v.cell _ _ (by omega)]; exact HC1.out.cb.cell 0
      have hb1 : ∀ v : Bel W1, v.w.cell? ⟨w.heap.size + 1, 1, none⟩ = some (.int .u64 b.e) := fun v => by rw [v.cell _ _ (by omega)]; exact HC1.out.cb.cell 1
      have hb2 : ∀ v : Bel W1, v.w.cell? ⟨w.heap.size + 1, 2, none⟩ = some (.int .i64 b.l) := fun v => by rw [v.cell _ _ (by omega)]; exact HC1.out.cb.cell 2
      have hy0 : ∀ v : Bel W1, v.w.cell? ⟨w.heap.size + 1 + 1 + 1, 0, none⟩ = some (.int .u64 (comV best).b) := fun v => by rw [v.cell _ _ (by omega)]; exact HC1.out.cy.cell 0
      have hy1 : ∀ v : Bel W1, v.w.cell? ⟨w.heap.size + 1 + 1 + 1, 1, none⟩ = some (.int .u64 (comV best).e) := fun v => by rw [v.cell _ _ (by omega)]; exact HC1.out.cy.cell 1
      have hy2 : ∀ v : Bel W1, v.w.cell? ⟨w.heap.size + 1 + 1 + 1, 2, none⟩ = some (.int .i64 (comV best).l) := fun v => by rw [v.cell _ _ (by omega)]; exact HC1.out.cy.cell 2
      have fy0 : ∀ v : Bel W1, v.w.frozen? ⟨w.heap.size + 1 + 1 + 1, 0, none⟩ = false := fun v => by rw [v.fz _ _ (by omega)]; exact HC1.out.cy.frozen 0
      have fy1 : ∀ v : Bel W1, v.w.frozen? ⟨w.heap.size + 1 + 1 + 1, 1, none⟩ = false := fun v => by rw [v.fz _ _ (by omega)]; exact HC1.out.cy.frozen 1
      have fy2 : ∀ v : Bel W1, v.w.frozen? ⟨w.heap.size + 1 + 1 + 1, 2, none⟩ = false := fun v => by rw [v.fz _ _ (by omega)]; exact HC1.out.cy.frozen 2
      have HCV : Hid (∀ v : Bel W1, ComS w v.w a b (comV best)) := fun v => HC1.out.below v.h (by omega)
      cases hsa : slf x a
      · cases hna : anc x a
        · rw [show hld x a = false from by simp [hld, hsa, hna]] at HST
          rw [hna] at m1
          clear hsa hna
          simp only [Bool.false_and, Bool.false_eq_true, if_false] at HST
          have HE : Hid (cmS (L.drop (i + 1)) a b (best) = y) := HST.symm
          clear HST
          go_wp2_with (first | (go_at_call 10; with_reducible refine (Calls.bel_of (m1 _)).mono ?_; rintro e _ ⟨rfl, ua, rfl⟩) | (go_at_call 8; with_reducible refine (Calls.bel_of (k2 _)).mono ?_; rintro e _ ⟨rfl, ub, rfl⟩) | (go_at_call 10; with_reducible refine (Calls.bel_of (m2 _)).mono ?_; rintro e _ ⟨rfl, uc, rfl⟩))
          go_roundw
          case rel => exact ⟨i + 1, best, by omega, by go_num, rfl, HCV.out ua, HE⟩
          case measure => simp [intOf]; omega
        · rw [show hld x a = true from by simp [hld, hsa, hna]] at HST
          rw [hna] at m1
          clear hsa hna
          cases hsb : slf x b
          · cases hnb : anc x b
            · rw [show hld x b = false from by simp [hld, hsb, hnb]] at HST
              rw [hsb] at k2
              rw [hnb] at m2
              clear hsb hnb
              simp only [Bool.and_false, Bool.false_and, Bool.false_eq_true, if_false] at HST
              have HE : Hid (cmS (L.drop (i + 1)) a b (best) = y) := HST.symm
              clear HST
              go_wp2_with (first | (go_at_call 10; with_reducible refine (Calls.bel_of (m1 _)).mono ?_; rintro e _ ⟨rfl, ua, rfl⟩) | (go_at_call 8; with_reducible refine (Calls.bel_of (k2 _)).mono ?_; rintro e _ ⟨rfl, ub, rfl⟩) | (go_at_call 10; with_reducible refine (Calls.bel_of (m2 _)).mono ?_; rintro e _ ⟨rfl, uc, rfl⟩))
              go_roundw
              case rel => exact ⟨i + 1, best, by omega, by go_num, rfl, HCV.out uc, HE⟩
              case measure => simp [intOf]; omega
            · rw [show hld x b = true from by simp [hld, hsb, hnb]] at HST
              rw [hsb] at k2
              rw [hnb] at m2
              clear hsb hnb
              cases best with
              | none =>
                simp only [Bool.and_true, btr, if_true] at HST
                simp only [Option.isSome_none] at *
                have HE : Hid (cmS (L.drop (i + 1)) a b (some x) = y) := HST.symm
                clear HST
                go_wp2_with (first | (go_at_call 10; with_reducible refine (Calls.bel_of (m1 _)).mono ?_; rintro e _ ⟨rfl, ua, rfl⟩) | (go_at_call 8; with_reducible refine (Calls.bel_of (k2 _)).mono ?_; rintro e _ ⟨rfl, ub, rfl⟩) | (go_at_call 10; with_reducible refine (Calls.bel_of (m2 _)).mono ?_; rintro e _ ⟨rfl, uc, rfl⟩))
                go_roundw
                case rel => exact ⟨i + 1, some x, by omega, by go_num, rfl, (HCV.out uc).put x, HE⟩
                case measure => simp [intOf]; omega
              | some q =>
                have hiq : inn x q = decide (q.b < x.b ∨ x.b = q.b ∧ x.e < q.e) := rfl
                simp only [Bool.and_true, Bool.true_and, btr, hiq] at HST
                simp only [Option.isSome_some] at *
                clear hiq
                have ey : comV (some q) = q := rfl
                rw [ey] at hy0 hy1 hy2
                have HEY : Hid (comV (some q) = q) := ey
                clear ey
                by_cases hq1 : q.b < x.b
                · rw [if_pos (by simp; omega)] at HST
                  have HE : Hid (cmS (L.drop (i + 1)) a b (some x) = y) := HST.symm
                  clear HST
                  go_wp2_with (first | (go_at_call 10; with_reducible refine (Calls.bel_of (m1 _)).mono ?_; rintro e _ ⟨rfl, ua, rfl⟩) | (go_at_call 8; with_reducible refine (Calls.bel_of (k2 _)).mono ?_; rintro e _ ⟨rfl, ub, rfl⟩) | (go_at_call 10; with_reducible refine (Calls.bel_of (m2 _)).mono ?_; rintro e _ ⟨rfl, uc, rfl⟩))
                  go_roundw
                  case rel => exact ⟨i + 1, some x, by omega, by go_num, rfl, (HCV.out uc).put x, HE⟩
                  case measure => simp [intOf]; omega
                · by_cases hq2 : x.b = q.b
                  · have hq2b : (x.b == q.b) = true := by rw [hq2]; simp
                    by_cases hq3 : x.e < q.e
                    · rw [if_pos (by simp; omega)] at HST
                      clear hq2
                      have HE : Hid (cmS (L.drop (i + 1)) a b (some x) = y) := HST.symm
                      clear HST
                      go_wp2_with (first | (go_at_call 10; with_reducible refine (Calls.bel_of (m1 _)).mono ?_; rintro e _ ⟨rfl, ua, rfl⟩) | (go_at_call 8; with_reducible refine (Calls.bel_of (k2 _)).mono ?_; rintro e _ ⟨rfl, ub, rfl⟩) | (go_at_call 10; with_reducible refine (Calls.bel_of (m2 _)).mono ?_; rintro e _ ⟨rfl, uc, rfl⟩))
                      go_roundw
                      case rel => exact ⟨i + 1, some x, by omega, by go_num, rfl, (HCV.out uc).put x, HE⟩
                      case measure => simp [intOf]; omega
                    · rw [if_neg (by simp; omega)] at HST
                      clear hq2
                      have HE : Hid (cmS (L.drop (i + 1)) a b (some q) = y) := HST.symm
                      clear HST
                      go_wp2_with (first | (go_at_call 10; with_reducible refine (Calls.bel_of (m1 _)).mono ?_; rintro e _ ⟨rfl, ua, rfl⟩) | (go_at_call 8; with_reducible refine (Calls.bel_of (k2 _)).mono ?_; rintro e _ ⟨rfl, ub, rfl⟩) | (go_at_call 10; with_reducible refine (Calls.bel_of (m2 _)).mono ?_; rintro e _ ⟨rfl, uc, rfl⟩))
                      go_roundw
                      case rel => exact ⟨i + 1, some q, by omega, by go_num, rfl, HCV.out uc, HE⟩
                      case measure => simp [intOf]; omega
                  · have hq2b : (x.b == q.b) = false := beq_eq_false_iff_ne.2 hq2
                    rw [if_neg (by simp; omega)] at HST
                    clear hq2
                    have HE : Hid (cmS (L.drop (i + 1)) a b (some q) = y) := HST.symm
                    clear HST
                    go_wp2_with (first | (go_at_call 10; with_reducible refine (Calls.bel_of (m1 _)).mono ?_; rintro e _ ⟨rfl, ua, rfl⟩) | (go_at_call 8; with_reducible refine (Calls.bel_of (k2 _)).mono ?_; rintro e _ ⟨rfl, ub, rfl⟩) | (go_at_call 10; with_reducible refine (Calls.bel_of (m2 _)).mono ?_; rintro e _ ⟨rfl, uc, rfl⟩))
                    go_roundw
                    case rel => exact ⟨i + 1, some q, by omega, by go_num, rfl, HCV.out uc, HE⟩
                    case measure => simp [intOf]; omega
          · rw [show hld x b = true from by simp [hld, hsb]] at HST
            rw [hsb] at k2
            clear hsb
            cases best with
            | none =>
              simp only [Bool.and_true, btr, if_true] at HST
              simp only [Option.isSome_none] at *
              have HE : Hid (cmS (L.drop (i + 1)) a b (some x) = y) := HST.symm
              clear HST
              go_wp2_with (first | (go_at_call 10; with_reducible refine (Calls.bel_of (m1 _)).mono ?_; rintro e _ ⟨rfl, ua, rfl⟩) | (go_at_call 8; with_reducible refine (Calls.bel_of (k2 _)).mono ?_; rintro e _ ⟨rfl, ub, rfl⟩) | (go_at_call 10; with_reducible refine (Calls.bel_of (m2 _)).mono ?_; rintro e _ ⟨rfl, uc, rfl⟩))
              go_roundw
              case rel => exact ⟨i + 1, some x, by omega, by go_num, rfl, (HCV.out ub).put x, HE⟩
              case measure => simp [intOf]; omega
            | some q =>
              have hiq : inn x q = decide (q.b < x.b ∨ x.b = q.b ∧ x.e < q.e) := rfl
              simp only [Bool.and_true, Bool.true_and, btr, hiq] at HST
              simp only [Option.isSome_some] at *
              clear hiq
              have ey : comV (some q) = q := rfl
              rw [ey] at hy0 hy1 hy2
              have HEY : Hid (comV (some q) = q) := ey
              clear ey
              by_cases hq1 : q.b < x.b
              · rw [if_pos (by simp; omega)] at HST
                have HE : Hid (cmS (L.drop (i + 1)) a b (some x) = y) := HST.symm
                clear HST
                go_wp2_with (first | (go_at_call 10; with_reducible refine (Calls.bel_of (m1 _)).mono ?_; rintro e _ ⟨rfl, ua, rfl⟩) | (go_at_call 8; with_reducible refine (Calls.bel_of (k2 _)).mono ?_; rintro e _ ⟨rfl, ub, rfl⟩) | (go_at_call 10; with_reducible refine (Calls.bel_of (m2 _)).mono ?_; rintro e _ ⟨rfl, uc, rfl⟩))
                go_roundw
                case rel => exact ⟨i + 1, some x, by omega, by go_num, rfl, (HCV.out ub).put x, HE⟩
                case measure => simp [intOf]; omega
              · by_cases hq2 : x.b = q.b
                · have hq2b : (x.b == q.b) = true := by rw [hq2]; simp
                  by_cases hq3 : x.e < q.e
                  · rw [if_pos (by simp; omega)] at HST
                    clear hq2
                    have HE : Hid (cmS (L.drop (i + 1)) a b (some x) = y) := HST.symm
                    clear HST
                    go_wp2_with (first | (go_at_call 10; with_reducible refine (Calls.bel_of (m1 _)).mono ?_; rintro e _ ⟨rfl, ua, rfl⟩) | (go_at_call 8; with_reducible refine (Calls.bel_of (k2 _)).mono ?_; rintro e _ ⟨rfl, ub, rfl⟩) | (go_at_call 10; with_reducible refine (Calls.bel_of (m2 _)).mono ?_; rintro e _ ⟨rfl, uc, rfl⟩))
                    go_roundw
                    case rel => exact ⟨i + 1, some x, by omega, by go_num, rfl, (HCV.out ub).put x, HE⟩
                    case measure => simp [intOf]; omega
                  · rw [if_neg (by simp; omega)] at HST
                    clear hq2
                    have HE : Hid (cmS (L.drop (i + 1)) a b (some q) = y) := HST.symm
                    clear HST
                    go_wp2_with (first | (go_at_call 10; with_reducible refine (Calls.bel_of (m1 _)).mono ?_; rintro e _ ⟨rfl, ua, rfl⟩) | (go_at_call 8; with_reducible refine (Calls.bel_of (k2 _)).mono ?_; rintro e _ ⟨rfl, ub, rfl⟩) | (go_at_call 10; with_reducible refine (Calls.bel_of (m2 _)).mono ?_; rintro e _ ⟨rfl, uc, rfl⟩))
                    go_roundw
                    case rel => exact ⟨i + 1, some q, by omega, by go_num, rfl, HCV.out ub, HE⟩
                    case measure => simp [intOf]; omega
                · have hq2b : (x.b == q.b) = false := beq_eq_false_iff_ne.2 hq2
                  rw [if_neg (by simp; omega)] at HST
                  clear hq2
                  have HE : Hid (cmS (L.drop (i + 1)) a b (some q) = y) := HST.symm
                  clear HST
                  go_wp2_with (first | (go_at_call 10; with_reducible refine (Calls.bel_of (m1 _)).mono ?_; rintro e _ ⟨rfl, ua, rfl⟩) | (go_at_call 8; with_reducible refine (Calls.bel_of (k2 _)).mono ?_; rintro e _ ⟨rfl, ub, rfl⟩) | (go_at_call 10; with_reducible refine (Calls.bel_of (m2 _)).mono ?_; rintro e _ ⟨rfl, uc, rfl⟩))
                  go_roundw
                  case rel => exact ⟨i + 1, some q, by omega, by go_num, rfl, HCV.out ub, HE⟩
                  case measure => simp [intOf]; omega
      · rw [show hld x a = true from by simp [hld, hsa]] at HST
        clear hsa
        cases hsb : slf x b
        · cases hnb : anc x b
          · rw [show hld x b = false from by simp [hld, hsb, hnb]] at HST
            rw [hsb] at k2
            rw [hnb] at m2
            clear hsb hnb
            simp only [Bool.and_false, Bool.false_and, Bool.false_eq_true, if_false] at HST
            have HE : Hid (cmS (L.drop (i + 1)) a b (best) = y) := HST.symm
            clear HST
            go_wp2_with (first | (go_at_call 10; with_reducible refine (Calls.bel_of (m1 _)).mono ?_; rintro e _ ⟨rfl, ua, rfl⟩) | (go_at_call 8; with_reducible refine (Calls.bel_of (k2 _)).mono ?_; rintro e _ ⟨rfl, ub, rfl⟩) | (go_at_call 10; with_reducible refine (Calls.bel_of (m2 _)).mono ?_; rintro e _ ⟨rfl, uc, rfl⟩))
            go_roundw
            case rel => exact ⟨i + 1, best, by omega, by go_num, rfl, HCV.out uc, HE⟩
            case measure => simp [intOf]; omega
          · rw [show hld x b = true from by simp [hld, hsb, hnb]] at HST
            rw [hsb] at k2
            rw [hnb] at m2
            clear hsb hnb
            cases best with
            | none =>
              simp only [Bool.and_true, btr, if_true] at HST
              simp only [Option.isSome_none] at *
              have HE : Hid (cmS (L.drop (i + 1)) a b (some x) = y) := HST.symm
              clear HST
              go_wp2_with (first | (go_at_call 10; with_reducible refine (Calls.bel_of (m1 _)).mono ?_; rintro e _ ⟨rfl, ua, rfl⟩) | (go_at_call 8; with_reducible refine (Calls.bel_of (k2 _)).mono ?_; rintro e _ ⟨rfl, ub, rfl⟩) | (go_at_call 10; with_reducible refine (Calls.bel_of (m2 _)).mono ?_; rintro e _ ⟨rfl, uc, rfl⟩))
              go_roundw
              case rel => exact ⟨i + 1, some x, by omega, by go_num, rfl, (HCV.out uc).put x, HE⟩
              case measure => simp [intOf]; omega
            | some q =>
              have hiq : inn x q = decide (q.b < x.b ∨ x.b = q.b ∧ x.e < q.e) := rfl
              simp only [Bool.and_true, Bool.true_and, btr, hiq] at HST
              simp only [Option.isSome_some] at *
              clear hiq
              have ey : comV (some q) = q := rfl
              rw [ey] at hy0 hy1 hy2
              have HEY : Hid (comV (some q) = q) := ey
              clear ey
              by_cases hq1 : q.b < x.b
              · rw [if_pos (by simp; omega)] at HST
                have HE : Hid (cmS (L.drop (i + 1)) a b (some x) = y) := HST.symm
                clear HST
                go_wp2_with (first | (go_at_call 10; with_reducible refine (Calls.bel_of (m1 _)).mono ?_; rintro e _ ⟨rfl, ua, rfl⟩) | (go_at_call 8; with_reducible refine (Calls.bel_of (k2 _)).mono ?_; rintro e _ ⟨rfl, ub, rfl⟩) | (go_at_call 10; with_reducible refine (Calls.bel_of (m2 _)).mono ?_; rintro e _ ⟨rfl, uc, rfl⟩))
                go_roundw
                case rel => exact ⟨i + 1, some x, by omega, by go_num, rfl, (HCV.out uc).put x, HE⟩
                case measure => simp [intOf]; omega
              · by_cases hq2 : x.b = q.b
                · have hq2b : (x.b == q.b) = true := by rw [hq2]; simp
                  by_cases hq3 : x.e < q.e
                  · rw [if_pos (by simp; omega)] at HST
                    clear hq2
                    have HE : Hid (cmS (L.drop (i + 1)) a b (some x) = y) := HST.symm
                    clear HST
                    go_wp2_with (first | (go_at_call 10; with_reducible refine (Calls.bel_of (m1 _)).mono ?_; rintro e _ ⟨rfl, ua, rfl⟩) | (go_at_call 8; with_reducible refine (Calls.bel_of (k2 _)).mono ?_; rintro e _ ⟨rfl, ub, rfl⟩) | (go_at_call 10; with_reducible refine (Calls.bel_of (m2 _)).mono ?_; rintro e _ ⟨rfl, uc, rfl⟩))
                    go_roundw
                    case rel => exact ⟨i + 1, some x, by omega, by go_num, rfl, (HCV.out uc).put x, HE⟩
                    case measure => simp [intOf]; omega
                  · rw [if_neg (by simp; omega)] at HST
                    clear hq2
                    have HE : Hid (cmS (L.drop (i + 1)) a b (some q) = y) := HST.symm
                    clear HST
                    go_wp2_with (first | (go_at_call 10; with_reducible refine (Calls.bel_of (m1 _)).mono ?_; rintro e _ ⟨rfl, ua, rfl⟩) | (go_at_call 8; with_reducible refine (Calls.bel_of (k2 _)).mono ?_; rintro e _ ⟨rfl, ub, rfl⟩) | (go_at_call 10; with_reducible refine (Calls.bel_of (m2 _)).mono ?_; rintro e _ ⟨rfl, uc, rfl⟩))
                    go_roundw
                    case rel => exact ⟨i + 1, some q, by omega, by go_num, rfl, HCV.out uc, HE⟩
                    case measure => simp [intOf]; omega
                · have hq2b : (x.b == q.b) = false := beq_eq_false_iff_ne.2 hq2
                  rw [if_neg (by simp; omega)] at HST
                  clear hq2
                  have HE : Hid (cmS (L.drop (i + 1)) a b (some q) = y) := HST.symm
                  clear HST
                  go_wp2_with (first | (go_at_call 10; with_reducible refine (Calls.bel_of (m1 _)).mono ?_; rintro e _ ⟨rfl, ua, rfl⟩) | (go_at_call 8; with_reducible refine (Calls.bel_of (k2 _)).mono ?_; rintro e _ ⟨rfl, ub, rfl⟩) | (go_at_call 10; with_reducible refine (Calls.bel_of (m2 _)).mono ?_; rintro e _ ⟨rfl, uc, rfl⟩))
                  go_roundw
                  case rel => exact ⟨i + 1, some q, by omega, by go_num, rfl, HCV.out uc, HE⟩
                  case measure => simp [intOf]; omega
        · rw [show hld x b = true from by simp [hld, hsb]] at HST
          rw [hsb] at k2
          clear hsb
          cases best with
          | none =>
            simp only [Bool.and_true, btr, if_true] at HST
            simp only [Option.isSome_none] at *
            have HE : Hid (cmS (L.drop (i + 1)) a b (some x) = y) := HST.symm
            clear HST
            go_wp2_with (first | (go_at_call 10; with_reducible refine (Calls.bel_of (m1 _)).mono ?_; rintro e _ ⟨rfl, ua, rfl⟩) | (go_at_call 8; with_reducible refine (Calls.bel_of (k2 _)).mono ?_; rintro e _ ⟨rfl, ub, rfl⟩) | (go_at_call 10; with_reducible refine (Calls.bel_of (m2 _)).mono ?_; rintro e _ ⟨rfl, uc, rfl⟩))
            go_roundw
            case rel => exact ⟨i + 1, some x, by omega, by go_num, rfl, (HCV.out ub).put x, HE⟩
            case measure => simp [intOf]; omega
          | some q =>
            have hiq : inn x q = decide (q.b < x.b ∨ x.b = q.b ∧ x.e < q.e) := rfl
            simp only [Bool.and_true, Bool.true_and, btr, hiq] at HST
            simp only [Option.isSome_some] at *
            clear hiq
            have ey : comV (some q) = q := rfl
            rw [ey] at hy0 hy1 hy2
            have HEY : Hid (comV (some q) = q) := ey
            clear ey
            by_cases hq1 : q.b < x.b
            · rw [if_pos (by simp; omega)] at HST
              have HE : Hid (cmS (L.drop (i + 1)) a b (some x) = y) := HST.symm
              clear HST
              go_wp2_with (first | (go_at_call 10; with_reducible refine (Calls.bel_of (m1 _)).mono ?_; rintro e _ ⟨rfl, ua, rfl⟩) | (go_at_call 8; with_reducible refine (Calls.bel_of (k2 _)).mono ?_; rintro e _ ⟨rfl, ub, rfl⟩) | (go_at_call 10; with_reducible refine (Calls.bel_of (m2 _)).mono ?_; rintro e _ ⟨rfl, uc, rfl⟩))
              go_roundw
              case rel => exact ⟨i + 1, some x, by omega, by go_num, rfl, (HCV.out ub).put x, HE⟩
              case measure => simp [intOf]; omega
            · by_cases hq2 : x.b = q.b
              · have hq2b : (x.b == q.b) = true := by rw [hq2]; simp
                by_cases hq3 : x.e < q.e
                · rw [if_pos (by simp; omega)] at HST
                  clear hq2
                  have HE : Hid (cmS (L.drop (i + 1)) a b (some x) = y) := HST.symm
                  clear HST
                  go_wp2_with (first | (go_at_call 10; with_reducible refine (Calls.bel_of (m1 _)).mono ?_; rintro e _ ⟨rfl, ua, rfl⟩) | (go_at_call 8; with_reducible refine (Calls.bel_of (k2 _)).mono ?_; rintro e _ ⟨rfl, ub, rfl⟩) | (go_at_call 10; with_reducible refine (Calls.bel_of (m2 _)).mono ?_; rintro e _ ⟨rfl, uc, rfl⟩))
                  go_roundw
                  case rel => exact ⟨i + 1, some x, by omega, by go_num, rfl, (HCV.out ub).put x, HE⟩
                  case measure => simp [intOf]; omega
                · rw [if_neg (by simp; omega)] at HST
                  clear hq2
                  have HE : Hid (cmS (L.drop (i + 1)) a b (some q) = y) := HST.symm
                  clear HST
                  go_wp2_with (first | (go_at_call 10; with_reducible refine (Calls.bel_of (m1 _)).mono ?_; rintro e _ ⟨rfl, ua, rfl⟩) | (go_at_call 8; with_reducible refine (Calls.bel_of (k2 _)).mono ?_; rintro e _ ⟨rfl, ub, rfl⟩) | (go_at_call 10; with_reducible refine (Calls.bel_of (m2 _)).mono ?_; rintro e _ ⟨rfl, uc, rfl⟩))
                  go_roundw
                  case rel => exact ⟨i + 1, some q, by omega, by go_num, rfl, HCV.out ub, HE⟩
                  case measure => simp [intOf]; omega
              · have hq2b : (x.b == q.b) = false := beq_eq_false_iff_ne.2 hq2
                rw [if_neg (by simp; omega)] at HST
                clear hq2
                have HE : Hid (cmS (L.drop (i + 1)) a b (some q) = y) := HST.symm
                clear HST
                go_wp2_with (first | (go_at_call 10; with_reducible refine (Calls.bel_of (m1 _)).mono ?_; rintro e _ ⟨rfl, ua, rfl⟩) | (go_at_call 8; with_reducible refine (Calls.bel_of (k2 _)).mono ?_; rintro e _ ⟨rfl, ub, rfl⟩) | (go_at_call 10; with_reducible refine (Calls.bel_of (m2 _)).mono ?_; rintro e _ ⟨rfl, uc, rfl⟩))
                go_roundw
                case rel => exact ⟨i + 1, some q, by omega, by go_num, rfl, HCV.out ub, HE⟩
                case measure => simp [intOf]; omega
    · have HN : Hid (best = y) := by show _ = _; rw [← HG.out, HEND.out i best (by omega)]
      have hy0 := HC.out.cy.cell 0
      have hy1 := HC.out.cy.cell 1
      have hy2 := HC.out.cy.cell 2
      have hr0 := HC.out.cr.cell 0
      have hr1 := HC.out.cr.cell 1
      have hr2 := HC.out.cr.cell 2
      have fr0 := HC.out.cr.frozen 0
      have fr1 := HC.out.cr.frozen 1
      have fr2 := HC.out.cr.frozen 2
      have hlt' := HC.out.cr.lt
      simp [sv] at hy0 hy1 hy2 hr0 hr1 hr2
      go_wp2
      have hb' : best = y := HN.out
      subst hb'
      have hfin := ((HC.out.cr.set 0 (.int .u64 (comV best).b)).set 1 (.int .u64 (comV best).e)).set 2 (.int .i64 (comV best).l)
      have q0 := hfin.cell 0
      have q1 := hfin.cell 1
      have q2 := hfin.cell 2
      simp [sv] at q0 q1 q2
      exact bodyPost_ret (v := .tuple #[.agg (sv (comV best)), .bool best.isSome]) (by simp [results, Try.results26, go_sem, q0, q1, q2, sv]) rfl ⟨rfl, ((HC.out.bel.setCell (by show _ ≤ _; simp; omega) _).setCell (by show _ ≤ _; simp; omega) _).setCell (by show _ ≤ _; simp; omega) _⟩

end Go.Proofs.Ytfhbfilmejegcaa
