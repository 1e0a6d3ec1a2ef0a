/- Check in plain, spans in rows, and the program's Check. -/
import Derived.Test.YtfhbfilmejegcaaStk
namespace Go.Proofs.Ytfhbfilmejegcaa
open Go.RowKit
set_option linter.unusedVariables false

/-- Its beginning is not above that of the one ahead. -/
def low (pv : Option Int) (x : Sp) : Bool := match pv with | none => false | some p => decide (x.b ≤ p)
def chkS : List Sp → Option Int → List Sp → Int → Int × Int
  | [], _, _, _ => (0, 0)
  | x :: r, pv, st, i => if val x = false then (i, 110) else if low pv x = true then (i, 71) else if nst (pop x.b st) x = true then chkS r (some x.b) (pop x.b st ++ [x]) (i + 1) else (i, 111)
def chkP (L : List Sp) : Int × Int := if 8192 < L.length then (0, 2) else chkS L none [] 0

def pvAt (L : List Sp) (i : Nat) : Option Int := if i = 0 then none else (L[i - 1]?).map (·.b)
theorem chkS_at {L : List Sp} {i : Nat} {x : Sp} (st : List Sp) (h : L[i]? = some x) :
    chkS (L.drop i) (pvAt L i) st i = if val x = false then ((i : Int), 110) else if low (pvAt L i) x = true then ((i : Int), 71) else if nst (pop x.b st) x = true then chkS (L.drop (i + 1)) (pvAt L (i + 1)) (pop x.b st ++ [x]) ((i + 1 : Nat) : Int) else ((i : Int), 111) := by
  have hlt := (List.getElem?_eq_some_iff.1 h).1
  have e : L.drop i = x :: L.drop (i + 1) := by
    rw [List.drop_eq_getElem_cons hlt, (List.getElem?_eq_some_iff.1 h).2]
  have e2 : pvAt L (i + 1) = some x.b := by simp [pvAt, h]
  rw [e, e2, chkS]
  rfl

/-- Spans in memory, wherever they begin. -/
def SpsAt (w : World) (B : Nat) (a : Option Addr) (L : List Sp) : Prop :=
  ∀ i x, L[i]? = some x → ∃ b o, a = some ⟨b, o, none⟩ ∧ b < B ∧ w.cell? ⟨b, o + i * 3, none⟩ = some (.int .u64 x.b) ∧ w.cell? ⟨b, o + i * 3 + 1, none⟩ = some (.int .u64 x.e) ∧ w.cell? ⟨b, o + i * 3 + 2, none⟩ = some (.int .i64 x.l)
theorem SpsAt.below {w w' : World} {B : Nat} {a : Option Addr} {L : List Sp} (h : SpsAt w B a L) {B' : Nat} (hb : Below B' w w') (hB : B ≤ B') : SpsAt w' B a L := by
  intro i x hx
  obtain ⟨b, o, h1, h2, h3, h4, h5⟩ := h i x hx
  exact ⟨b, o, h1, h2, (hb.cell (p := ⟨b, _, none⟩) (show b < B' by omega)).trans h3, (hb.cell (p := ⟨b, _, none⟩) (show b < B' by omega)).trans h4, (hb.cell (p := ⟨b, _, none⟩) (show b < B' by omega)).trans h5⟩

def spCells : List Sp → List Value
  | [] => []
  | x :: r => .int .u64 x.b :: .int .u64 x.e :: .int .i64 x.l :: spCells r
theorem spCells_length : ∀ l, (spCells l).length = l.length * 3
  | [] => rfl
  | x :: r => by simp [spCells, spCells_length r]; omega
theorem spCells_one : ∀ l, ∀ u ∈ spCells l, u.oneCell' = true
  | [], u, h => by simp [spCells] at h
  | p :: r, u, h => by
    simp only [spCells, List.mem_cons] at h
    rcases h with rfl | rfl | rfl | h
    · rfl
    · rfl
    · rfl
    · exact spCells_one r u h
theorem spCells_append : ∀ l m, spCells (l ++ m) = spCells l ++ spCells m
  | [], m => rfl
  | x :: r, m => by simp [spCells, spCells_append r m]
theorem spCells_take : ∀ (l : List Sp) (m : Nat), spCells (l.take m) = (spCells l).take (m * 3)
  | [], m => by simp [spCells]
  | x :: r, 0 => by simp [spCells]
  | x :: r, m + 1 => by
    rw [show (m + 1) * 3 = m * 3 + 3 from by omega]
    simp [spCells, spCells_take r m]
theorem spCells_get : ∀ (l : List Sp) (i : Nat) (x : Sp), l[i]? = some x → (spCells l)[i * 3]? = some (.int .u64 x.b) ∧ (spCells l)[i * 3 + 1]? = some (.int .u64 x.e) ∧ (spCells l)[i * 3 + 2]? = some (.int .i64 x.l)
  | [], i, x, h => by simp at h
  | y :: r, 0, x, h => by
    simp at h
    subst h
    exact ⟨rfl, rfl, rfl⟩
  | y :: r, i + 1, x, h => by
    have := spCells_get r i x (by simpa using h)
    rw [show (i + 1) * 3 = i * 3 + 3 from by omega]
    simpa [spCells] using this

theorem row_stk {w : World} {base : Nat} {e : TypeId} {a : Option Addr} {cap : Nat} {st : List Sp} (h : w.ownsRow base e 3 (.slice a st.length cap) st.length (spCells st)) : StkAt w a st ∧ st.length ≤ cap := by
  obtain ⟨hc, hl, hcell⟩ := row_cell h
  refine ⟨fun i x hx => ?_, hc⟩
  obtain ⟨g1, g2, g3⟩ := spCells_get st i x hx
  obtain ⟨g, rfl, hb, hlt, c1⟩ := hcell _ _ g1
  obtain ⟨g', e', _, _, c2⟩ := hcell _ _ g2
  cases e'
  obtain ⟨g', e', _, _, c3⟩ := hcell _ _ g3
  cases e'
  exact ⟨g, rfl, hlt, c1, c2, c3⟩

theorem own_take {w : World} {base : Nat} {e : TypeId} {size : Nat} {a : Option Addr} {n m cap : Nat} {xs : List Value} (h : w.ownsRow base e size (.slice a n cap) n xs) (hm : m ≤ n) : w.ownsRow base e size (.slice a m cap) m (xs.take (m * size)) := by
  have hms : m * size ≤ n * size := Nat.mul_le_mul_right _ hm
  refine ⟨by rw [List.length_take, h.1]; omega, ?_⟩
  rcases h.2 with ⟨e1, e2⟩ | ⟨g, cap', cur, e1, hb, hh, h1, h2, h3, h4⟩
  · simp only [Value.slice.injEq] at e1
    obtain ⟨rfl, _, rfl⟩ := e1
    have : m = 0 := by omega
    subst this
    exact .inl ⟨rfl, rfl⟩
  · simp only [Value.slice.injEq, true_and] at e1
    obtain ⟨rfl, rfl⟩ := e1
    exact .inr ⟨g, cap, cur, rfl, hb, hh, by omega, h2, h3, by rw [← h4, List.take_take, Nat.min_eq_left hms]⟩

theorem pop_len {b : Int} {st : List Sp} : (pop b st).length ≤ st.length := by
  unfold pop
  rw [List.length_reverse]
  have := (List.dropWhile_sublist (fun x : Sp => decide (x.e < b)) (l := st.reverse)).length_le
  rw [List.length_reverse] at this
  exact this
theorem ret_two {y : Int × Int} {p q : Int} (h : y = (p, q)) : Ending.returned (.tuple #[.int .i64 p, .int .i64 q]) = .returned (.tuple #[.int .i64 y.1, .int .i64 y.2]) := by rw [h]
theorem one_news (w : World) (x : Sp) : ∀ j u, (spCells [x])[j]? = some u → ∃ ad, (some ⟨w.heap.size, 0, none⟩ : Option Addr) = some ad ∧ (w.alloc (.cells #[.int .u64 x.b, .int .u64 x.e, .int .i64 x.l] 24)).cell? (ad.add j) = some u := by
  intro j u hu
  refine ⟨_, rfl, ?_⟩
  have e : (⟨w.heap.size, 0, none⟩ : Addr).add j = ⟨w.heap.size, j, none⟩ := by unfold Addr.add; split <;> simp_all
  rw [e, (isCells_new w _ 24).cell]
  simpa [spCells] using hu
theorem info24 : InfoOf Try.prog 24 (.agg #[.int .u64 0, .int .u64 0, .int .i64 0]) 3 24 := by unfold InfoOf; kernel_rfl

set_option maxRecDepth 100000 in
theorem check_long (w : World) (a : Option Addr) (n cap : Nat) (h : 8192 < n) : Calls Try.prog 23 #[.slice a n cap] w fun e w' => e = .returned (.tuple #[.int .i64 0, .int .i64 2]) ∧ w' = w := by
  go_enter Try.func23, Try.ntmps23
  go_wp2
  go_ret2
  exact ⟨rfl, rfl⟩

set_option maxRecDepth 100000 in
set_option maxHeartbeats 2000000 in
theorem check_walk (w : World) (a : Option Addr) (L : List Sp) (cap : Nat) (h : SpsAt w w.heap.size a L) (hl : L.length ≤ 8192) (y : Int × Int) (hy : chkS L none [] 0 = y) :
    Calls Try.prog 23 #[.slice a L.length cap] w fun e w' => e = .returned (.tuple #[.int .i64 y.1, .int .i64 y.2]) ∧ Below w.heap.size w w' := by
  have HY : Hid (chkS L none [] 0 = y) := hy
  have HA : Hid (SpsAt w w.heap.size a L) := h
  clear hy h
  go_enter Try.func23, Try.ntmps23
  go_wp2
  go_loopw [12, 4] (fun v o wr => ∃ (i : Nat) (st : List Sp) (oa : Option Addr) (oc : Nat), i ≤ L.length ∧ v = .int .i64 (i : Int) ∧ o = .slice oa st.length oc ∧ st.length ≤ i ∧ Hid (wr.ownsRow w.heap.size 24 3 (.slice oa st.length oc) st.length (spCells st)) ∧ Hid (chkS (L.drop i) (pvAt L i) st i = y) ∧ Hid (Below w.heap.size w wr)) (fun v _ _ => L.length - (intOf v).toNat)
  case atStart => exact ⟨0, [], none, 0, by omega, rfl, rfl, Nat.le_refl _, ⟨rfl, .inl ⟨rfl, rfl⟩⟩, HY, Below.refl _ _⟩
  case round =>
    obtain ⟨i, st, oa, oc, hi, rfl, rfl, hsl, HO, HG, HB⟩ := hrel
    have hws := HB.out.size
    by_cases hlt : i < L.length
    · obtain ⟨x, hx⟩ : ∃ x, L[i]? = some x := ⟨_, List.getElem?_eq_getElem hlt⟩
      have HS := chkS_at st hx
      obtain ⟨b, o, rfl, hbl, hc0, hc1, hc2⟩ := (HA.out.below HB.out (Nat.le_refl _)) i x hx
      have hbr : b < wr.heap.size := by omega
      have hcv := fun W => val_any W x
      obtain ⟨x1, x2, x3⟩ := x
      unfold sv at hcv
      simp only at *
      have HB1 : Hid (Below w.heap.size w (wr.alloc (.cells #[.int .u64 x1, .int .u64 x2, .int .i64 x3] 24))) := HB.out.alloc hws _
      have HO1 : Hid ((wr.alloc (.cells #[.int .u64 x1, .int .u64 x2, .int .i64 x3] 24)).ownsRow w.heap.size 24 3 (.slice oa st.length oc) st.length (spCells st)) := own_of_block HO.out (fun k hk => Below.heap_alloc _ _ _ (own_block_lt HO.out k hk).2)
      have hq0 : ∀ u : Bel (wr.alloc (.cells #[.int .u64 x1, .int .u64 x2, .int .i64 x3] 24)), u.w.cell? ⟨wr.heap.size, 0, none⟩ = some (.int .u64 x1) := fun u => by rw [u.cell _ _ (by simp)]; simp [go_sem]
      have hq1 : ∀ u : Bel (wr.alloc (.cells #[.int .u64 x1, .int .u64 x2, .int .i64 x3] 24)), u.w.cell? ⟨wr.heap.size, 1, none⟩ = some (.int .u64 x2) := fun u => by rw [u.cell _ _ (by simp)]; simp [go_sem]
      have hq2 : ∀ u : Bel (wr.alloc (.cells #[.int .u64 x1, .int .u64 x2, .int .i64 x3] 24)), u.w.cell? ⟨wr.heap.size, 2, none⟩ = some (.int .i64 x3) := fun u => by rw [u.cell _ _ (by simp)]; simp [go_sem]
      cases hv : val ⟨x1, x2, x3⟩
      · rw [hv, if_pos rfl, HG.out] at HS
        rw [hv] at hcv
        have HE : Hid (y = ((i : Int), 110)) := HS
        clear HS hx
        go_wp2_with fail
        with_reducible refine (Calls.bel_first (hcv _)).mono ?_
        rintro e _ ⟨rfl, u, rfl⟩
        go_wp2
        go_ret2
        exact ⟨ret_two HE.out, rel_end HB1.out u⟩
      · rw [hv, if_neg (by decide), HG.out] at HS
        rw [hv] at hcv
        have HAB : Hid (SpsAt (wr.alloc (.cells #[.int .u64 x1, .int .u64 x2, .int .i64 x3] 24)) w.heap.size (some ⟨b, o, none⟩) L) := HA.out.below HB1.out (Nat.le_refl _)
        have hW1 : w.heap.size ≤ (wr.alloc (.cells #[.int .u64 x1, .int .u64 x2, .int .i64 x3] 24)).heap.size := HB1.out.size
        go_wp2_with fail
        with_reducible refine (Calls.bel_first (hcv _)).mono ?_
        rintro e _ ⟨rfl, u, rfl⟩
        clear hcv HO HG HB hws hbr hc0 hc1 hc2 HA
        generalize wr.alloc (.cells #[.int .u64 x1, .int .u64 x2, .int .i64 x3] 24) = W1 at *
        generalize wr.heap.size = G at *
        have HLOW : Hid (∀ j, i = j + 1 → ∃ q : Int, low (pvAt L i) ⟨x1, x2, x3⟩ = decide (x1 ≤ q) ∧ ∀ W : Bel W1, W.w.cell? ⟨b, o + j * 3, none⟩ = some (.int .u64 q)) := by
          intro j hj
          obtain ⟨q, hq⟩ : ∃ q, L[j]? = some q := ⟨_, List.getElem?_eq_getElem (by omega)⟩
          obtain ⟨b', o', he, hb', hc, _, _⟩ := HAB.out j q hq
          simp only [Option.some.injEq, Addr.mk.injEq, and_true] at he
          obtain ⟨rfl, rfl⟩ := he
          exact ⟨q.b, by subst hj; simp [pvAt, hq, low], fun W => by rw [W.cell _ _ (by omega)]; exact hc⟩
        have HLOW0 : Hid (i = 0 → low (pvAt L i) ⟨x1, x2, x3⟩ = false) := by intro h0; subst h0; rfl
        generalize low (pvAt L i) ⟨x1, x2, x3⟩ = lw at *
        clear hx
        by_cases hi0 : i = 0
        · have hl0 := HLOW0.out hi0
          subst hl0
          rw [if_neg (by decide)] at HS
          have HI : Hid (i = 0) := hi0
          have hdec : decide ((0 : Int) < (i : Int)) = false := by rw [hi0]; rfl
          have hdec' : decide (0 < i) = false := by rw [hi0]; rfl
          clear hi0 HLOW HLOW0
          go_wp2_with fail
          refine wp_region_belOf u (by kernel_rfl) (by kernel_rfl) ?_
          intro hne
          repeat go_big_quiet_step (fail)
          refine wpQuiet_nil ?_
          rintro _ ⟨v, rfl⟩
          go_wp2_with fail
          obtain ⟨hst1, hst2⟩ := row_stk (own_of_block HO1.out (w' := v.w) (fun k hk => v.h.block k (own_block_lt HO1.out k hk).2))
          with_reducible refine (nend_any v.w oa st oc x1 hst1 hst2 (by omega)).mono ?_
          rintro e _ ⟨m, hm, hpop, rfl, rfl⟩
          rw [hpop] at HS
          have HO2 := own_take (own_of_block HO1.out (w' := v.w) (fun k hk => v.h.block k (own_block_lt HO1.out k hk).2)) hm
          rw [← spCells_take] at HO2
          have HO5 := own_take HO1.out hm
          rw [← spCells_take] at HO5
          have hml : (st.take m).length = m := by rw [List.length_take]; omega
          have hm2 : m ≤ i := by omega
          generalize st.take m = s2 at *
          subst hml
          have HO3 : Hid (v.w.ownsRow w.heap.size 24 3 (.slice oa s2.length oc) s2.length (spCells s2)) := HO2
          have HO1s : Hid (W1.ownsRow w.heap.size 24 3 (.slice oa s2.length oc) s2.length (spCells s2)) := HO5
          obtain ⟨hs1, hs2⟩ := row_stk HO2
          have hcn := nests_any v.w oa s2 oc ⟨x1, x2, x3⟩ hs1 hs2 (by omega)
          unfold sv at hcn
          clear hst1 hst2 hpop HO2 HO5 hs1
          have hq0v := hq0 v
          have hq1v := hq1 v
          have hq2v := hq2 v
          simp only at hcn
          cases hns : nst s2 ⟨x1, x2, x3⟩
          · rw [hns, if_neg (by decide)] at HS
            rw [hns] at hcn
            have HE : Hid (y = ((i : Int), 111)) := HS
            clear HS hns
            go_wp2_with fail
            with_reducible refine (Calls.bel_of hcn).mono ?_
            rintro e _ ⟨rfl, u2, rfl⟩
            go_wp2
            go_ret2
            exact ⟨ret_two HE.out, rel_end HB1.out u2⟩
          · rw [hns, if_pos rfl] at HS
            rw [hns] at hcn
            have HE : Hid (chkS (L.drop (i + 1)) (pvAt L (i + 1)) (s2 ++ [⟨x1, x2, x3⟩]) ((i + 1 : Nat) : Int) = y) := HS.symm
            clear HS hns
            go_wp2_with fail
            with_reducible refine (Calls.bel_of hcn).mono ?_
            rintro e _ ⟨rfl, u2, rfl⟩
            have hz2 : w.heap.size ≤ u2.w.heap.size := Nat.le_trans hW1 u2.h.size
            have HO4 : Hid ((u2.w.alloc (.cells #[.int .u64 x1, .int .u64 x2, .int .i64 x3] 24)).ownsRow w.heap.size 24 3 (.slice oa s2.length oc) s2.length (spCells s2)) := own_of_block HO1s.out (fun k hk => (Below.heap_alloc _ _ _ (Nat.lt_of_lt_of_le (own_block_lt HO1s.out k hk).2 u2.h.size)).trans (u2.h.block k (own_block_lt HO1s.out k hk).2))
            have tok : True := trivial
            go_wp2_with (at_builtin; have _t := tok; refine wpList_app (by rfl) _ _ (by rfl) Try.underlying31 info24 rfl (by decide) w.heap.size (.slice oa s2.length oc) s2.length (spCells s2) (by rfl) HO4.out (some ⟨u2.w.heap.size, 0, none⟩) 1 1 (spCells [⟨x1, x2, x3⟩]) (by rfl) (by rfl) (one_news u2.w _) (spCells_one _) (by unfold maxLen; omega) (by omega) (by simp; omega) ?_; intro v1 w1 hown1 hg1 _ hat1; obtain ⟨va, vc, hvv⟩ := own_slice hown1; subst hvv; clear tok _t)
            go_roundw
            case rel =>
              have HBx : Below w.heap.size w w1 := ((rel_end HB1.out u2).alloc hz2 _).grown hg1 (by simp; omega) (fun k hk => (own_block_lt HO4.out k hk).1)
              exact ⟨i + 1, s2 ++ [⟨x1, x2, x3⟩], va, vc, by omega, by go_num, by simp, by simp; omega, by show World.ownsRow _ _ _ _ _ _ _; rw [spCells_append, List.length_append]; exact hown1, HE, HBx⟩
            case measure => simp [intOf]; omega
        · obtain ⟨j, hj⟩ : ∃ j, i = j + 1 := ⟨i - 1, by omega⟩
          obtain ⟨q, hlw, hcq⟩ := HLOW.out j hj
          subst hlw
          subst hj
          have hdec : decide ((0 : Int) < ((j + 1 : Nat) : Int)) = true := by simp
          have hdec' : decide (0 < j + 1) = true := by simp
          have hi1 : ((j + 1 : Nat) : Int) - 1 = (j : Int) := by omega
          have hi2 : (j : Int) + 1 - 1 = (j : Int) := by omega
          have hi3 : (j : Int) < ((L.length : Nat) : Int) := by omega
          have hi4 : (0 : Int) ≤ (j : Int) := by omega
          clear hi0 HLOW HLOW0
          by_cases hle : x1 ≤ q
          · rw [if_pos (by simpa using hle)] at HS
            have HE : Hid (y = (((j + 1 : Nat) : Int), 71)) := HS
            have hleb : decide (x1 ≤ q) = true := by simpa using hle
            clear HS hle
            go_wp2_with fail
            refine wp_region_belOf u (by kernel_rfl) (by kernel_rfl) ?_
            intro hne
            repeat go_big_quiet_step (fail)
            refine wpQuiet_nil ?_
            rintro _ ⟨v, rfl⟩
            go_wp2
            go_ret2
            exact ⟨ret_two HE.out, rel_end HB1.out v⟩
          · rw [if_neg (by simpa using hle)] at HS
            have hleb : decide (x1 ≤ q) = false := by simpa using hle
            clear hle
            go_wp2_with fail
            refine wp_region_belOf u (by kernel_rfl) (by kernel_rfl) ?_
            intro hne
            repeat go_big_quiet_step (fail)
            refine wpQuiet_nil ?_
            rintro _ ⟨v, rfl⟩
            go_wp2_with fail
            obtain ⟨hst1, hst2⟩ := row_stk (own_of_block HO1.out (w' := v.w) (fun k hk => v.h.block k (own_block_lt HO1.out k hk).2))
            with_reducible refine (nend_any v.w oa st oc x1 hst1 hst2 (by omega)).mono ?_
            rintro e _ ⟨m, hm, hpop, rfl, rfl⟩
            rw [hpop] at HS
            have HO2 := own_take (own_of_block HO1.out (w' := v.w) (fun k hk => v.h.block k (own_block_lt HO1.out k hk).2)) hm
            rw [← spCells_take] at HO2
            have HO5 := own_take HO1.out hm
            rw [← spCells_take] at HO5
            have hml : (st.take m).length = m := by rw [List.length_take]; omega
            have hm2 : m ≤ j + 1 := by omega
            generalize st.take m = s2 at *
            subst hml
            have HO3 : Hid (v.w.ownsRow w.heap.size 24 3 (.slice oa s2.length oc) s2.length (spCells s2)) := HO2
            have HO1s : Hid (W1.ownsRow w.heap.size 24 3 (.slice oa s2.length oc) s2.length (spCells s2)) := HO5
            obtain ⟨hs1, hs2⟩ := row_stk HO2
            have hcn := nests_any v.w oa s2 oc ⟨x1, x2, x3⟩ hs1 hs2 (by omega)
            unfold sv at hcn
            clear hst1 hst2 hpop HO2 HO5 hs1
            have hq0v := hq0 v
            have hq1v := hq1 v
            have hq2v := hq2 v
            simp only at hcn
            cases hns : nst s2 ⟨x1, x2, x3⟩
            · rw [hns, if_neg (by decide)] at HS
              rw [hns] at hcn
              have HE : Hid (y = (((j + 1 : Nat) : Int), 111)) := HS
              clear HS hns
              go_wp2_with fail
              with_reducible refine (Calls.bel_of hcn).mono ?_
              rintro e _ ⟨rfl, u2, rfl⟩
              go_wp2
              go_ret2
              exact ⟨ret_two HE.out, rel_end HB1.out u2⟩
            · rw [hns, if_pos rfl] at HS
              rw [hns] at hcn
              have HE : Hid (chkS (L.drop (j + 1 + 1)) (pvAt L (j + 1 + 1)) (s2 ++ [⟨x1, x2, x3⟩]) ((j + 1 + 1 : Nat) : Int) = y) := HS.symm
              clear HS hns
              go_wp2_with fail
              with_reducible refine (Calls.bel_of hcn).mono ?_
              rintro e _ ⟨rfl, u2, rfl⟩
              have hz2 : w.heap.size ≤ u2.w.heap.size := Nat.le_trans hW1 u2.h.size
              have HO4 : Hid ((u2.w.alloc (.cells #[.int .u64 x1, .int .u64 x2, .int .i64 x3] 24)).ownsRow w.heap.size 24 3 (.slice oa s2.length oc) s2.length (spCells s2)) := own_of_block HO1s.out (fun k hk => (Below.heap_alloc _ _ _ (Nat.lt_of_lt_of_le (own_block_lt HO1s.out k hk).2 u2.h.size)).trans (u2.h.block k (own_block_lt HO1s.out k hk).2))
              have tok : True := trivial
              go_wp2_with (at_builtin; have _t := tok; refine wpList_app (by rfl) _ _ (by rfl) Try.underlying31 info24 rfl (by decide) w.heap.size (.slice oa s2.length oc) s2.length (spCells s2) (by rfl) HO4.out (some ⟨u2.w.heap.size, 0, none⟩) 1 1 (spCells [⟨x1, x2, x3⟩]) (by rfl) (by rfl) (one_news u2.w _) (spCells_one _) (by unfold maxLen; omega) (by omega) (by simp; omega) ?_; intro v1 w1 hown1 hg1 _ hat1; obtain ⟨va, vc, hvv⟩ := own_slice hown1; subst hvv; clear tok _t)
              go_roundw
              case rel =>
                have HBx : Below w.heap.size w w1 := ((rel_end HB1.out u2).alloc hz2 _).grown hg1 (by simp; omega) (fun k hk => (own_block_lt HO4.out k hk).1)
                exact ⟨(j + 1) + 1, s2 ++ [⟨x1, x2, x3⟩], va, vc, by omega, by go_num, by simp, by simp; omega, by show World.ownsRow _ _ _ _ _ _ _; rw [spCells_append, List.length_append]; exact hown1, HE, HBx⟩
              case measure => simp [intOf]; omega
    · have HN : Hid (y = (0, 0)) := by
        show _ = _
        rw [← HG.out, List.drop_eq_nil_of_le (by omega)]
        cases pvAt L i <;> rfl
      go_wp2
      go_ret2
      exact ⟨ret_two HN.out, HB.out⟩

end Go.Proofs.Ytfhbfilmejegcaa
