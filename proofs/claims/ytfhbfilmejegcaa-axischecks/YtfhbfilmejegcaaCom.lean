/- Common: the program's answer and the document's. -/
import Derived.Test.YtfhbfilmejegcaaRchk
namespace Go.Proofs.Ytfhbfilmejegcaa
open Go.RowKit
set_option linter.unusedVariables false

def hld (a b : Sp) : Bool := slf a b || anc a b
def inn (a b : Sp) : Bool := decide (b.b < a.b ∨ a.b = b.b ∧ a.e < b.e)

attribute [local go_sem] Bel.cell Bel.fz
set_option maxRecDepth 100000 in
theorem holds_any (w : World) (a b : Sp) : Calls Try.prog 37 #[.agg (sv a), .agg (sv b)] w fun e w' => e = .returned (.bool (hld a b)) ∧ Below w.heap.size w w' := by
  have h1 := fun W => self_any W a b
  have h2 := fun W => anc_any W a b
  have HH : Hid (hld a b = (slf a b || anc a b)) := rfl
  generalize hld a b = z at *
  generalize slf a b = y1 at *
  generalize anc a b = y2 at *
  obtain ⟨a1, a2, a3⟩ := a
  obtain ⟨b1, b2, b3⟩ := b
  unfold sv at *
  simp only at *
  cases y1
  · go_enter Try.func37, Try.ntmps37
    go_wp2_with fail
    with_reducible refine (Calls.bel_first (h1 _)).mono ?_
    rintro e _ ⟨rfl, u, rfl⟩
    go_wp2_with fail
    with_reducible refine (Calls.bel_of (h2 _)).mono ?_
    rintro e _ ⟨rfl, u2, rfl⟩
    go_wp2
    go_ret
    exact ⟨ret_bool (by rw [HH.out]; simp), rel_end (below2 _ _ _) u2⟩
  · go_enter Try.func37, Try.ntmps37
    go_wp2_with fail
    with_reducible refine (Calls.bel_first (h1 _)).mono ?_
    rintro e _ ⟨rfl, u, rfl⟩
    go_wp2
    go_ret
    exact ⟨ret_bool (by rw [HH.out]; simp), rel_end (below2 _ _ _) u⟩

set_option maxRecDepth 100000 in
theorem inner_any (w : World) (a b : Sp) : Calls Try.prog 38 #[.agg (sv a), .agg (sv b)] w fun e w' => e = .returned (.bool (inn a b)) ∧ Below w.heap.size w w' := by
  obtain ⟨a1, a2, a3⟩ := a
  obtain ⟨b1, b2, b3⟩ := b
  unfold sv
  simp only
  by_cases hx : b1 < a1
  · go_enter Try.func38, Try.ntmps38
    go_wp2
    go_ret
    exact ⟨ret_bool (by unfold inn; rw [Bool.eq_iff_iff]; simp only [decide_eq_true_eq, true_iff]; omega), below2 _ _ _⟩
  · by_cases hy : a1 = b1
    · have hyb : (a1 == b1) = true := by rw [hy]; simp
      have HYY : Hid (a1 = b1) := hy
      clear hy
      go_enter Try.func38, Try.ntmps38
      go_wp2
      go_ret
      exact ⟨ret_bool (by have := HYY.out; unfold inn; rw [Bool.eq_iff_iff]; simp only [decide_eq_true_eq]; omega), below2 _ _ _⟩
    · have hyb : (a1 == b1) = false := beq_eq_false_iff_ne.2 hy
      have HYY : Hid (¬ a1 = b1) := hy
      clear hy
      go_enter Try.func38, Try.ntmps38
      go_wp2
      go_ret
      exact ⟨ret_bool (by have := HYY.out; unfold inn; rw [Bool.eq_iff_iff]; simp only [decide_eq_true_eq, Bool.false_eq_true, false_iff]; omega), below2 _ _ _⟩

/-- It is further in than the best so far. -/
def btr : Option Sp → Sp → Bool
  | none, _ => true
  | some y, x => inn x y
/-- The innermost one so far. -/
def cmS : List Sp → Sp → Sp → Option Sp → Option Sp
  | [], _, _, best => best
  | x :: r, a, b, best => if (hld x a && hld x b && btr best x) = true then cmS r a b (some x) else cmS r a b best
theorem cmS_at {L : List Sp} {i : Nat} {x : Sp} (a b : Sp) (best : Option Sp) (h : L[i]? = some x) : cmS (L.drop i) a b best = if (hld x a && hld x b && btr best x) = true then cmS (L.drop (i + 1)) a b (some x) else cmS (L.drop (i + 1)) a b best := by
  have hlt := (List.getElem?_eq_some_iff.1 h).1
  have e : L.drop i = x :: L.drop (i + 1) := by
    rw [List.drop_eq_getElem_cons hlt, (List.getElem?_eq_some_iff.1 h).2]
  rw [e]
  rfl
def spZ : Sp := ⟨0, 0, 0⟩
/-- What lies in memory while Common goes. -/
structure ComS (w wr : World) (a b y : Sp) : Prop where
  bel : Below w.heap.size w wr
  ca : IsCells wr w.heap.size (sv a)
  cb : IsCells wr (w.heap.size + 1) (sv b)
  cr : IsCells wr (w.heap.size + 1 + 1) (sv spZ)
  cy : IsCells wr (w.heap.size + 1 + 1 + 1) (sv y)
theorem ComS.below {w wr w' : World} {a b y : Sp} (h : ComS w wr a b y) {B : Nat} (hb : Below B wr w') (hB : w.heap.size + 1 + 1 + 1 < B) : ComS w w' a b y :=
  ⟨h.bel.trans (hb.mono (by omega)), h.ca.of_block (hb.block _ (by omega)), h.cb.of_block (hb.block _ (by omega)), h.cr.of_block (hb.block _ (by omega)), h.cy.of_block (hb.block _ (by omega))⟩
theorem ComS.put {w wr : World} {a b y : Sp} (h : ComS w wr a b y) (x : Sp) : ComS w (((wr.setCell ⟨w.heap.size + 1 + 1 + 1, 0, none⟩ (.int .u64 x.b)).setCell ⟨w.heap.size + 1 + 1 + 1, 1, none⟩ (.int .u64 x.e)).setCell ⟨w.heap.size + 1 + 1 + 1, 2, none⟩ (.int .i64 x.l)) a b x := by
  refine ⟨((h.bel.setCell (by show _ ≤ _; simp; omega) _).setCell (by show _ ≤ _; simp; omega) _).setCell (by show _ ≤ _; simp; omega) _, ?_, ?_, ?_, ?_⟩
  · exact ((h.ca.other (by simp; omega) _).other (by simp; omega) _).other (by simp; omega) _
  · exact ((h.cb.other (by simp) _).other (by simp) _).other (by simp) _
  · exact ((h.cr.other (by simp) _).other (by simp) _).other (by simp) _
  · exact ((h.cy.set 0 _).set 1 _).set 2 _
theorem coms_start (w : World) (a b : Sp) : ComS w ((((w.alloc (.cells (sv a) 24)).alloc (.cells (sv b) 24)).alloc (.cells (sv spZ) 24)).alloc (.cells (sv spZ) 24)) a b spZ := by
  refine ⟨(below3 w _ _ _).alloc (by simp; omega) _, ?_, ?_, ?_, ?_⟩
  · exact (((isCells_new w _ _).alloc _).alloc _).alloc _
  · have := ((isCells_new (w.alloc (.cells (sv a) 24)) (sv b) 24).alloc (.cells (sv spZ) 24)).alloc (.cells (sv spZ) 24)
    simpa using this
  · have := (isCells_new ((w.alloc (.cells (sv a) 24)).alloc (.cells (sv b) 24)) (sv spZ) 24).alloc (.cells (sv spZ) 24)
    simpa using this
  · have := isCells_new (((w.alloc (.cells (sv a) 24)).alloc (.cells (sv b) 24)).alloc (.cells (sv spZ) 24)) (sv spZ) 24
    simpa using this
def comV (best : Option Sp) : Sp := best.getD spZ

set_option maxRecDepth 100000 in
set_option maxHeartbeats 2000000 in
theorem com_walk (w : World) (la : Option Addr) (L : List Sp) (cap : Nat) (a b : Sp) (h : SpsAt w w.heap.size la L) (hl : L.length ≤ 9000000000000) :
    Calls Try.prog 25 #[.slice la L.length cap, .agg (sv a), .agg (sv b)] w fun e w' => e = .returned (.tuple #[.agg (sv (comV (cmS L a b none))), .bool (cmS L a b none).isSome]) ∧ Below w.heap.size w w' := by
  have HA : Hid (SpsAt w w.heap.size la L) := h
  have h1 := fun (W : World) (x : Sp) => holds_any W x a
  have h2 := fun (W : World) (x : Sp) => holds_any W x b
  have h3 := fun (W : World) (x y : Sp) => inner_any W x y
  have HY : Hid (cmS L a b none = cmS L a b none) := rfl
  generalize hy : cmS L a b none = y at HY ⊢
  have HS0 : Hid (ComS w ((((w.alloc (.cells (sv a) 24)).alloc (.cells (sv b) 24)).alloc (.cells (sv spZ) 24)).alloc (.cells (sv spZ) 24)) a b spZ) := coms_start w a b
  have HY0 : Hid (cmS (L.drop 0) a b none = y) := hy
  have HAT : Hid (∀ i x best, L[i]? = some x → cmS (L.drop i) a b best = if (hld x a && hld x b && btr best x) = true then cmS (L.drop (i + 1)) a b (some x) else cmS (L.drop (i + 1)) a b best) := fun i x best hx => cmS_at a b best hx
  have HEND : Hid (∀ i best, L.length ≤ i → cmS (L.drop i) a b best = best) := fun i best hi => by rw [List.drop_eq_nil_of_le hi]; rfl
  clear h hy HY
  have ea : sv a = #[.int .u64 a.b, .int .u64 a.e, .int .i64 a.l] := rfl
  have eb : sv b = #[.int .u64 b.b, .int .u64 b.e, .int .i64 b.l] := rfl
  rw [ea, eb]
  have h1' : ∀ W (x : Sp), Calls Try.prog 37 #[.agg #[.int .u64 x.b, .int .u64 x.e, .int .i64 x.l], .agg #[.int .u64 a.b, .int .u64 a.e, .int .i64 a.l]] W fun e w' => e = .returned (.bool (hld x a)) ∧ Below W.heap.size W w' := h1
  have h2' : ∀ W (x : Sp), Calls Try.prog 37 #[.agg #[.int .u64 x.b, .int .u64 x.e, .int .i64 x.l], .agg #[.int .u64 b.b, .int .u64 b.e, .int .i64 b.l]] W fun e w' => e = .returned (.bool (hld x b)) ∧ Below W.heap.size W w' := h2
  have h3' : ∀ W (x y : Sp), Calls Try.prog 38 #[.agg #[.int .u64 x.b, .int .u64 x.e, .int .i64 x.l], .agg #[.int .u64 y.b, .int .u64 y.e, .int .i64 y.l]] W fun e w' => e = .returned (.bool (inn x y)) ∧ Below W.heap.size W w' := h3
  clear ea eb h1 h2 h3
  go_enter Try.func25, Try.ntmps25
  go_wp2
  go_loopw [14, 9] (fun v f wr => ∃ (i : Nat) (best : Option Sp), i ≤ L.length ∧ v = .int .i64 (i : Int) ∧ f = .bool best.isSome ∧ Hid (ComS w wr a b (comV best)) ∧ Hid (cmS (L.drop i) a b best = y)) (fun v _ _ => L.length - (intOf v).toNat)
  case atStart => exact ⟨0, none, by omega, rfl, rfl, HS0, HY0⟩
  case round =>
    obtain ⟨i, best, hi, rfl, rfl, HC, HG⟩ := hrel
    by_cases hlt : i < L.length
    · obtain ⟨x, hx⟩ : ∃ x, L[i]? = some x := ⟨_, List.getElem?_eq_getElem hlt⟩
      have HST := HAT.out i x best hx
      rw [HG.out] at HST
      obtain ⟨lb, lo, rfl, hbl, hc0, hc1, hc2⟩ := (HA.out.below HC.out.bel (Nat.le_refl _)) i x hx
      have hsz := HC.out.cy.lt
      have HC1 : Hid (ComS w (wr.alloc (.cells #[.int .u64 x.b, .int .u64 x.e, .int .i64 x.l] 24)) a b (comV best)) := HC.out.below (below1 wr _) hsz
      have hcx : Hid (IsCells (wr.alloc (.cells #[.int .u64 x.b, .int .u64 x.e, .int .i64 x.l] 24)) wr.heap.size #[.int .u64 x.b, .int .u64 x.e, .int .i64 x.l]) := isCells_new wr _ _
      have hW1 : wr.heap.size < (wr.alloc (.cells #[.int .u64 x.b, .int .u64 x.e, .int .i64 x.l] 24)).heap.size := by simp
      have k1 := h1' (wr.alloc (.cells #[.int .u64 x.b, .int .u64 x.e, .int .i64 x.l] 24)) x
      have k2 := fun W => h2' W x
      have k3 := fun W => h3' W x (comV best)
      have hwl : w.heap.size < wr.heap.size := by omega
      have ha0 : wr.cell? ⟨w.heap.size, 0, none⟩ = some (.int .u64 a.b) := HC.out.ca.cell 0
      have ha1 : wr.cell? ⟨w.heap.size, 1, none⟩ = some (.int .u64 a.e) := HC.out.ca.cell 1
      have ha2 : wr.cell? ⟨w.heap.size, 2, none⟩ = some (.int .i64 a.l) := HC.out.ca.cell 2
      clear HG hx h1' h2' h3' HC
      go_wp2_with fail
      with_reducible refine (Calls.bel_first k1).mono ?_
      rintro e _ ⟨rfl, u, rfl⟩
      clear hc0 hc1 hc2 k1 ha0 ha1 ha2
      generalize wr.alloc (.cells #[.int .u64 x.b, .int .u64 x.e, .int .i64 x.l] 24) = W1 at *
      generalize wr.heap.size = G at *
      have hx0 : ∀ v : Bel W1, v.w.cell? ⟨G, 0, none⟩ = some (.int .u64 x.b) := fun v => by rw [v.cell _ _ hW1]; exact hcx.out.cell 0
      have hx1 : ∀ v : Bel W1, v.w.cell? ⟨G, 1, none⟩ = some (.int .u64 x.e) := fun v => by rw [v.cell _ _ hW1]; exact hcx.out.cell 1
      have hx2 : ∀ v : Bel W1, v.w.cell? ⟨G, 2, none⟩ = some (.int .i64 x.l) := fun v => by rw [v.cell _ _ hW1]; exact hcx.out.cell 2
      have hb0 : ∀ v : Bel W1, v.w.cell? ⟨w.heap.size + 1, 0, none⟩ = some (.int .u64 b.b) := fun v => by rw [v.cell _ _ (by omega)]; exact HC1.out.cb.cell 0
      have hb1 : ∀ v : Bel W1, v.w.cell? ⟨w.heap.size + 1, 1, none⟩ = some (.int .u64 b.e) := fun v => by rw [v.cell _ _ (by omega)]; exact HC1.out.cb.cell 1
      have hb2 : ∀ v : Bel W1, v.w.cell? ⟨w.heap.size + 1, 2, none⟩ = some (.int .i64 b.l) := fun v => by rw [v.cell _ _ (by omega)]; exact HC1.out.cb.cell 2
      have hy0 : ∀ v : Bel W1, v.w.cell? ⟨w.heap.size + 1 + 1 + 1, 0, none⟩ = some (.int .u64 (comV best).b) := fun v => by rw [v.cell _ _ (by omega)]; exact HC1.out.cy.cell 0
      have hy1 : ∀ v : Bel W1, v.w.cell? ⟨w.heap.size + 1 + 1 + 1, 1, none⟩ = some (.int .u64 (comV best).e) := fun v => by rw [v.cell _ _ (by omega)]; exact HC1.out.cy.cell 1
      have hy2 : ∀ v : Bel W1, v.w.cell? ⟨w.heap.size + 1 + 1 + 1, 2, none⟩ = some (.int .i64 (comV best).l) := fun v => by rw [v.cell _ _ (by omega)]; exact HC1.out.cy.cell 2
      have fy0 : ∀ v : Bel W1, v.w.frozen? ⟨w.heap.size + 1 + 1 + 1, 0, none⟩ = false := fun v => by rw [v.fz _ _ (by omega)]; exact HC1.out.cy.frozen 0
      have fy1 : ∀ v : Bel W1, v.w.frozen? ⟨w.heap.size + 1 + 1 + 1, 1, none⟩ = false := fun v => by rw [v.fz _ _ (by omega)]; exact HC1.out.cy.frozen 1
      have fy2 : ∀ v : Bel W1, v.w.frozen? ⟨w.heap.size + 1 + 1 + 1, 2, none⟩ = false := fun v => by rw [v.fz _ _ (by omega)]; exact HC1.out.cy.frozen 2
      have HCV : Hid (∀ v : Bel W1, ComS w v.w a b (comV best)) := fun v => HC1.out.below v.h (by omega)
      cases hz1 : hld x a
      · rw [hz1] at HST
        simp only [Bool.false_and, Bool.false_eq_true, if_false] at HST
        have HE : Hid (cmS (L.drop (i + 1)) a b best = y) := HST.symm
        clear HST hz1
        go_wp2
        go_roundw
        case rel => exact ⟨i + 1, best, by omega, by go_num, rfl, HCV.out u, HE⟩
        case measure => simp [intOf]; omega
      · rw [hz1] at HST
        cases hz2 : hld x b
        · rw [hz2] at HST k2
          simp only [Bool.and_false, Bool.false_and, Bool.false_eq_true, if_false] at HST
          have HE : Hid (cmS (L.drop (i + 1)) a b best = y) := HST.symm
          clear HST hz1 hz2
          go_wp2_with (go_at_call 37; with_reducible refine (Calls.bel_of (k2 _)).mono ?_; rintro e _ ⟨rfl, u2, rfl⟩)
          go_roundw
          case rel => exact ⟨i + 1, best, by omega, by go_num, rfl, HCV.out u2, HE⟩
          case measure => simp [intOf]; omega
        · rw [hz2] at HST k2
          cases best with
          | none =>
            simp only [Bool.and_true, btr, if_true] at HST
            have HE : Hid (cmS (L.drop (i + 1)) a b (some x) = y) := HST.symm
            clear HST hz1 hz2
            simp only [Option.isSome_none] at *
            go_wp2_with (go_at_call 37; with_reducible refine (Calls.bel_of (k2 _)).mono ?_; rintro e _ ⟨rfl, u2, rfl⟩)
            go_roundw
            case rel => exact ⟨i + 1, some x, by omega, by go_num, rfl, (HCV.out u2).put x, HE⟩
            case measure => simp [intOf]; omega
          | some q =>
            simp only [Bool.and_true, Bool.true_and, btr] at HST
            simp only [Option.isSome_some] at *
            have k3' : ∀ W, Calls Try.prog 38 #[.agg #[.int .u64 x.b, .int .u64 x.e, .int .i64 x.l], .agg #[.int .u64 (comV (some q)).b, .int .u64 (comV (some q)).e, .int .i64 (comV (some q)).l]] W fun e w' => e = .returned (.bool (inn x q)) ∧ Below W.heap.size W w' := k3
            clear k3
            cases hz3 : inn x q
            · rw [hz3] at HST k3'
              simp only [Bool.false_eq_true, if_false] at HST
              have HE : Hid (cmS (L.drop (i + 1)) a b (some q) = y) := HST.symm
              clear HST hz1 hz2 hz3
              go_wp2_with (first | (go_at_call 37; with_reducible refine (Calls.bel_of (k2 _)).mono ?_; rintro e _ ⟨rfl, u2, rfl⟩) | (go_at_call 38; with_reducible refine (Calls.bel_of (k3' _)).mono ?_; rintro e _ ⟨rfl, u3, rfl⟩))
              go_roundw
              case rel => exact ⟨i + 1, some q, by omega, by go_num, rfl, HCV.out u3, HE⟩
              case measure => simp [intOf]; omega
            · rw [hz3] at HST k3'
              simp only [if_true] at HST
              have HE : Hid (cmS (L.drop (i + 1)) a b (some x) = y) := HST.symm
              clear HST hz1 hz2 hz3
              go_wp2_with (first | (go_at_call 37; with_reducible refine (Calls.bel_of (k2 _)).mono ?_; rintro e _ ⟨rfl, u2, rfl⟩) | (go_at_call 38; with_reducible refine (Calls.bel_of (k3' _)).mono ?_; rintro e _ ⟨rfl, u3, rfl⟩))
              go_roundw
              case rel => exact ⟨i + 1, some x, by omega, by go_num, rfl, (HCV.out u3).put x, HE⟩
              case measure => simp [intOf]; omega
    · have HN : Hid (best = y) := by show _ = _; rw [← HG.out, HEND.out i best (by omega)]
      have hy0 := HC.out.cy.cell 0
      have hy1 := HC.out.cy.cell 1
      have hy2 := HC.out.cy.cell 2
      have hr0 := HC.out.cr.cell 0
      have hr1 := HC.out.cr.cell 1
      have hr2 := HC.out.cr.cell 2
      have fr0 := HC.out.cr.frozen 0
      have fr1 := HC.out.cr.frozen 1
      have fr2 := HC.out.cr.frozen 2
      have hlt' := HC.out.cr.lt
      simp [sv] at hy0 hy1 hy2 hr0 hr1 hr2
      go_wp2
      have hb' : best = y := HN.out
      subst hb'
      have hfin := ((HC.out.cr.set 0 (.int .u64 (comV best).b)).set 1 (.int .u64 (comV best).e)).set 2 (.int .i64 (comV best).l)
      have q0 := hfin.cell 0
      have q1 := hfin.cell 1
      have q2 := hfin.cell 2
      simp [sv] at q0 q1 q2
      exact bodyPost_ret (v := .tuple #[.agg (sv (comV best)), .bool best.isSome]) (by simp [results, Try.results25, go_sem, q0, q1, q2, sv]) rfl ⟨rfl, ((HC.out.bel.setCell (by show _ ≤ _; simp; omega) _).setCell (by show _ ≤ _; simp; omega) _).setCell (by show _ ≤ _; simp; omega) _⟩

end Go.Proofs.Ytfhbfilmejegcaa
