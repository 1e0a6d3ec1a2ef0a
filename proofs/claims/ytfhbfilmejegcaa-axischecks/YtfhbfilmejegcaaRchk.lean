/- The document's Check. -/
import Derived.Test.YtfhbfilmejegcaaChk
namespace Go.Proofs.Ytfhbfilmejegcaa
open Go.RowKit
set_option linter.unusedVariables false

set_option maxRecDepth 100000 in
theorem rcheck_long (w : World) (a : Option Addr) (n cap : Nat) (h : 8192 < n) : Calls Try.prog 24 #[.slice a n cap] w fun e w' => e = .returned (.tuple #[.int .i64 0, .int .i64 2]) ∧ w' = w := by
  go_enter Try.func24, Try.ntmps24
  go_wp2
  go_ret2
  exact ⟨rfl, rfl⟩

/-- Its last one's end is above x's, its level is how many there are. -/
theorem nst_nil (x : Sp) : nst [] x = decide (x.l = 0) := by simp [nst]
theorem nst_ref {s : List Sp} {k : Nat} {t x : Sp} (hk : s.length = k + 1) (h : s[k]? = some t) (hb : t.b < x.b) : nst s x = (!decide (t.e ≤ x.e) && decide (x.l = ((k + 1 : Nat) : Int))) := by
  rw [nst_last hk h]
  unfold anc
  rw [Bool.eq_iff_iff]
  simp only [Bool.and_eq_true, decide_eq_true_eq, Bool.not_eq_true', decide_eq_false_iff_not]
  omega
theorem stk_new {L : List Sp} {i : Nat} {x : Sp} {s : List Sp} (hx : L[i]? = some x) (h : ∀ t ∈ s, t.b < x.b) : ∀ t ∈ s ++ [x], ∃ p, pvAt L (i + 1) = some p ∧ t.b ≤ p := by
  intro t ht
  refine ⟨x.b, by simp [pvAt, hx], ?_⟩
  rw [List.mem_append] at ht
  rcases ht with ht | ht
  · have := h t ht; omega
  · simp at ht; subst ht; omega
theorem low_lt {L : List Sp} {i : Nat} {x : Sp} {st : List Sp} (h : ∀ t ∈ st, ∃ p, pvAt L i = some p ∧ t.b ≤ p) (hl : low (pvAt L i) x = false) : ∀ t ∈ st, t.b < x.b := by
  intro t ht
  obtain ⟨p, hp, hle⟩ := h t ht
  rw [hp] at hl
  simp [low] at hl
  omega
theorem grown_cell {W w6 : World} {row : Option Nat} {X j : Nat} {v : Value} (hg : W.grownBy w6 row) (h : W.cell? ⟨X, j, none⟩ = some v) (hx : X < W.heap.size) (hr : some X ≠ row) : w6.cell? ⟨X, j, none⟩ = some v := by
  rw [World.cell?_of_block (w := W) (hg.block X hx hr)]
  exact h

theorem stk_news {z W : World} {B e : Nat} {oa : Option Addr} {n oc : Nat} {xs : List Value} (h : z.ownsRow B e 3 (.slice oa n oc) n xs) (hb : Below z.heap.size z W) : ∀ j u, xs[j]? = some u → ∃ ad, oa = some ad ∧ W.cell? (ad.add j) = some u := by
  intro j u hu
  obtain ⟨-, -, hc⟩ := row_cell h
  obtain ⟨g, rfl, -, hg, hcell⟩ := hc j u hu
  refine ⟨_, rfl, ?_⟩
  have e : (⟨g, 0, none⟩ : Addr).add j = ⟨g, j, none⟩ := by unfold Addr.add; split <;> simp_all
  rw [e]
  exact (hb.cell (p := ⟨g, j, none⟩) hg).trans hcell
/-- Cells of one span, at a block. -/
def OneAt (W : World) (X : Nat) (x : Sp) : Prop := X < W.heap.size ∧ W.cell? ⟨X, 0, none⟩ = some (.int .u64 x.b) ∧ W.cell? ⟨X, 1, none⟩ = some (.int .u64 x.e) ∧ W.cell? ⟨X, 2, none⟩ = some (.int .i64 x.l)
theorem one_far {W w6 : World} {row : Option Nat} {X : Nat} {x : Sp} (hg : W.grownBy w6 row) (h : OneAt W X x) (hr : some X ≠ row) : ∀ j u, (spCells [x])[j]? = some u → ∃ ad, (some ⟨X, 0, none⟩ : Option Addr) = some ad ∧ w6.cell? (ad.add j) = some u := by
  intro j u hu
  refine ⟨_, rfl, ?_⟩
  have e : (⟨X, 0, none⟩ : Addr).add j = ⟨X, j, none⟩ := by unfold Addr.add; split <;> simp_all
  rw [e]
  obtain ⟨h0, h1, h2, h3⟩ := h
  match j, hu with
  | 0, hu => simp [spCells] at hu; subst hu; exact grown_cell hg h1 h0 hr
  | 1, hu => simp [spCells] at hu; subst hu; exact grown_cell hg h2 h0 hr
  | 2, hu => simp [spCells] at hu; subst hu; exact grown_cell hg h3 h0 hr
  | j + 3, hu => simp [spCells] at hu
theorem two_rows (z : World) (x : Sp) :
    Hid (Below z.heap.size z (z.alloc (.cells #[] 24)).drew ∧ (z.alloc (.cells #[] 24)).drew.ownsRow z.heap.size 24 3 (.slice (some ⟨z.heap.size, 0, none⟩) 0 0) 0 []) ∧
    Hid (Below z.heap.size z ((z.alloc (.cells #[] 24)).alloc (.cells #[.int .u64 x.b, .int .u64 x.e, .int .i64 x.l] 24)).drew ∧ ((z.alloc (.cells #[] 24)).alloc (.cells #[.int .u64 x.b, .int .u64 x.e, .int .i64 x.l] 24)).drew.ownsRow z.heap.size 24 3 (.slice (some ⟨z.heap.size, 0, none⟩) 0 0) 0 [] ∧ OneAt ((z.alloc (.cells #[] 24)).alloc (.cells #[.int .u64 x.b, .int .u64 x.e, .int .i64 x.l] 24)).drew (z.heap.size + 1) x) ∧
    Hid (Below z.heap.size z ((z.alloc (.cells #[.int .u64 x.b, .int .u64 x.e, .int .i64 x.l] 24)).alloc (.cells #[] 24)).drew ∧ ((z.alloc (.cells #[.int .u64 x.b, .int .u64 x.e, .int .i64 x.l] 24)).alloc (.cells #[] 24)).drew.ownsRow z.heap.size 24 3 (.slice (some ⟨z.heap.size + 1, 0, none⟩) 0 0) 0 [] ∧ OneAt ((z.alloc (.cells #[.int .u64 x.b, .int .u64 x.e, .int .i64 x.l] 24)).alloc (.cells #[] 24)).drew z.heap.size x) := by
  have o1 := own_new z 24 3
  refine ⟨⟨(below1 z _).drew, own_of_block o1 (fun _ _ => rfl)⟩, ⟨(below2 z _ _).drew, own_of_block o1 (fun k hk => ?_), ?_⟩, ⟨(below2 z _ _).drew, ?_, ?_⟩⟩
  · exact Below.heap_alloc _ _ _ (own_block_lt o1 k hk).2
  · have c := isCells_new (z.alloc (.cells #[] 24)) #[.int .u64 x.b, .int .u64 x.e, .int .i64 x.l] 24
    rw [show (z.alloc (.cells #[] 24)).heap.size = z.heap.size + 1 from by simp] at c
    exact ⟨c.lt, c.cell 0, c.cell 1, c.cell 2⟩
  · have o2 := own_new (z.alloc (.cells #[.int .u64 x.b, .int .u64 x.e, .int .i64 x.l] 24)) 24 3
    rw [show (z.alloc (.cells #[.int .u64 x.b, .int .u64 x.e, .int .i64 x.l] 24)).heap.size = z.heap.size + 1 from by simp] at o2
    exact own_of_block (own_base o2 (fun k hk => Nat.le_trans (Nat.le_succ _) (own_block_lt o2 k hk).1)) (fun _ _ => rfl)
  · have c := (isCells_new z #[.int .u64 x.b, .int .u64 x.e, .int .i64 x.l] 24).alloc (.cells #[] 24)
    exact ⟨c.lt, c.cell 0, c.cell 1, c.cell 2⟩

set_option maxRecDepth 100000 in
set_option maxHeartbeats 4000000 in
theorem rcheck_walk (w : World) (a : Option Addr) (L : List Sp) (cap : Nat) (h : SpsAt w w.heap.size a L) (hl : L.length ≤ 8192) (y : Int × Int) (hy : chkS L none [] 0 = y) :
    Calls Try.prog 24 #[.slice a L.length cap] w fun e w' => e = .returned (.tuple #[.int .i64 y.1, .int .i64 y.2]) ∧ Below w.heap.size w w' := by
  have HY : Hid (chkS L none [] 0 = y) := hy
  have HA : Hid (SpsAt w w.heap.size a L) := h
  clear hy h
  go_enter Try.func24, Try.ntmps24
  go_wp2
  go_loopw [5, 4] (fun v o wr => ∃ (i : Nat) (st : List Sp) (oa : Option Addr) (oc : Nat), i ≤ L.length ∧ v = .int .i64 (i : Int) ∧ o = .slice oa st.length oc ∧ st.length ≤ i ∧ Hid (wr.ownsRow w.heap.size 24 3 (.slice oa st.length oc) st.length (spCells st)) ∧ Hid (chkS (L.drop i) (pvAt L i) st i = y) ∧ Hid (Below w.heap.size w wr) ∧ Hid (∀ t ∈ st, ∃ p, pvAt L i = some p ∧ t.b ≤ p)) (fun v _ _ => L.length - (intOf v).toNat)
  case atStart => exact ⟨0, [], some ⟨w.heap.size, 0, none⟩, 0, by omega, rfl, rfl, Nat.le_refl _, own_new w 24 3, HY, below1 _ _, fun t ht => by cases ht⟩
  case round =>
    obtain ⟨i, st, oa, oc, hi, rfl, rfl, hsl, HO, HG, HB, HV⟩ := hrel
    have hws := HB.out.size
    by_cases hlt : i < L.length
    · obtain ⟨x, hx⟩ : ∃ x, L[i]? = some x := ⟨_, List.getElem?_eq_getElem hlt⟩
      have HS := chkS_at st hx
      have HNEW : Hid (∀ s : List Sp, (∀ t ∈ s, t.b < x.b) → ∀ t ∈ s ++ [x], ∃ p, pvAt L (i + 1) = some p ∧ t.b ≤ p) := fun s hs => stk_new hx hs
      have HLT : Hid (low (pvAt L i) x = false → ∀ t ∈ st, t.b < x.b) := low_lt HV.out
      obtain ⟨b, o, rfl, hbl, hc0, hc1, hc2⟩ := (HA.out.below HB.out (Nat.le_refl _)) i x hx
      have hbr : b < wr.heap.size := by omega
      have hcv := fun W => rval_any W x
      obtain ⟨x1, x2, x3⟩ := x
      unfold sv at hcv
      simp only at *
      have HB1 : Hid (Below w.heap.size w (wr.alloc (.cells #[.int .u64 x1, .int .u64 x2, .int .i64 x3] 24))) := HB.out.alloc hws _
      have HO1 : Hid ((wr.alloc (.cells #[.int .u64 x1, .int .u64 x2, .int .i64 x3] 24)).ownsRow w.heap.size 24 3 (.slice oa st.length oc) st.length (spCells st)) := own_of_block HO.out (fun k hk => Below.heap_alloc _ _ _ (own_block_lt HO.out k hk).2)
      have hq0 : ∀ u : Bel (wr.alloc (.cells #[.int .u64 x1, .int .u64 x2, .int .i64 x3] 24)), u.w.cell? ⟨wr.heap.size, 0, none⟩ = some (.int .u64 x1) := fun u => by rw [u.cell _ _ (by simp)]; simp [go_sem]
      have hq1 : ∀ u : Bel (wr.alloc (.cells #[.int .u64 x1, .int .u64 x2, .int .i64 x3] 24)), u.w.cell? ⟨wr.heap.size, 1, none⟩ = some (.int .u64 x2) := fun u => by rw [u.cell _ _ (by simp)]; simp [go_sem]
      have hq2 : ∀ u : Bel (wr.alloc (.cells #[.int .u64 x1, .int .u64 x2, .int .i64 x3] 24)), u.w.cell? ⟨wr.heap.size, 2, none⟩ = some (.int .i64 x3) := fun u => by rw [u.cell _ _ (by simp)]; simp [go_sem]
      have hG : wr.heap.size < (wr.alloc (.cells #[.int .u64 x1, .int .u64 x2, .int .i64 x3] 24)).heap.size := by simp
      cases hv : val ⟨x1, x2, x3⟩
      · rw [hv, if_pos rfl, HG.out] at HS
        rw [hv] at hcv
        have HE : Hid (y = ((i : Int), 110)) := HS
        clear HS hx
        go_wp2_with fail
        with_reducible refine (Calls.bel_first (hcv _)).mono ?_
        rintro e _ ⟨rfl, u, rfl⟩
        go_wp2
        go_ret2
        exact ⟨ret_two HE.out, rel_end HB1.out u⟩
      · rw [hv, if_neg (by decide), HG.out] at HS
        rw [hv] at hcv
        have HAB : Hid (SpsAt (wr.alloc (.cells #[.int .u64 x1, .int .u64 x2, .int .i64 x3] 24)) w.heap.size (some ⟨b, o, none⟩) L) := HA.out.below HB1.out (Nat.le_refl _)
        have hW1 : w.heap.size ≤ (wr.alloc (.cells #[.int .u64 x1, .int .u64 x2, .int .i64 x3] 24)).heap.size := HB1.out.size
        go_wp2_with fail
        with_reducible refine (Calls.bel_first (hcv _)).mono ?_
        rintro e _ ⟨rfl, u, rfl⟩
        clear hcv HO HG HB hws hbr hc0 hc1 hc2 HA HV
        generalize wr.alloc (.cells #[.int .u64 x1, .int .u64 x2, .int .i64 x3] 24) = W1 at *
        generalize wr.heap.size = G at *
        have HLOW : Hid (∀ j, i = j + 1 → ∃ q : Int, low (pvAt L i) ⟨x1, x2, x3⟩ = decide (x1 ≤ q) ∧ ∀ W : Bel W1, W.w.cell? ⟨b, o + j * 3, none⟩ = some (.int .u64 q)) := by
          intro j hj
          obtain ⟨q, hq⟩ : ∃ q, L[j]? = some q := ⟨_, List.getElem?_eq_getElem (by omega)⟩
          obtain ⟨b', o', he, hb', hc, _, _⟩ := HAB.out j q hq
          simp only [Option.some.injEq, Addr.mk.injEq, and_true] at he
          obtain ⟨rfl, rfl⟩ := he
          exact ⟨q.b, by subst hj; simp [pvAt, hq, low], fun W => by rw [W.cell _ _ (by omega)]; exact hc⟩
        have HLOW0 : Hid (i = 0 → low (pvAt L i) ⟨x1, x2, x3⟩ = false) := by intro h0; subst h0; rfl
        generalize low (pvAt L i) ⟨x1, x2, x3⟩ = lw at *
        have HSTK : Hid (∀ W : Bel W1, StkAt W.w oa st) := fun W => (row_stk (own_of_block HO1.out (w' := W.w) (fun k hk => W.h.block k (own_block_lt HO1.out k hk).2))).1
        have hoc : st.length ≤ oc := (row_stk HO1.out).2
        clear hx HAB
        by_cases hi0 : i = 0
        · have hl0 := HLOW0.out hi0
          subst hl0
          rw [if_neg (by decide)] at HS
          have HI : Hid (i = 0) := hi0
          have hdec : decide ((0 : Int) < (i : Int)) = false := by rw [hi0]; rfl
          have hdec' : decide (0 < i) = false := by rw [hi0]; rfl
          clear hi0 HLOW HLOW0
          go_wp2_with fail
          refine wp_region_belOf u (by kernel_rfl) (by kernel_rfl) ?_
          intro hne
          repeat go_big_quiet_step (fail)
          refine wpQuiet_nil ?_
          rintro _ ⟨v, rfl⟩
          have HT : Hid (∀ t ∈ st, t.b < x1) := HLT.out (by simp)
          clear HLT
          go_wp2_with fail
          go_loopw [4] (fun o wr => ∃ (n : Nat) (v : Bel W1), n ≤ st.length ∧ o = .slice oa n oc ∧ wr = v.w ∧ Hid (pop x1 st = pop x1 (st.take n))) (fun o _ => match o with | .slice _ n _ => n | _ => 0)
          case atStart => exact ⟨st.length, v, Nat.le_refl _, rfl, rfl, by show _ = _; rw [List.take_length]⟩
          case round =>
            obtain ⟨n, v, hn, rfl, rfl, HP⟩ := hrel
            by_cases hn0 : n = 0
            · subst hn0
              have HP0 : Hid (pop x1 st = []) := by show _ = _; rw [HP.out]; rfl
              rw [HP0.out, nst_nil] at HS
              clear HP
              go_wp2_with fail
              refine wp_region_belOf v (by kernel_rfl) (by kernel_rfl) ?_
              intro hne
              repeat go_big_quiet_step (fail)
              refine wpQuiet_nil ?_
              rintro _ ⟨v2, rfl⟩
              by_cases hlv : x3 = 0
              · have hlb : (x3 != 0) = false := by rw [hlv]; rfl
                rw [if_pos (by simpa using hlv)] at HS
                obtain ⟨s2, hs2e⟩ : ∃ s2 : List Sp, s2 = [] := ⟨[], rfl⟩
                have HE : Hid (chkS (L.drop (i + 1)) (pvAt L (i + 1)) (s2 ++ [⟨x1, x2, x3⟩]) ((i + 1 : Nat) : Int) = y) := by show _ = _; rw [hs2e]; exact HS.symm
                have HO2 : Hid (W1.ownsRow w.heap.size 24 3 (.slice oa s2.length oc) s2.length (spCells s2)) := by
                  have := own_take HO1.out (Nat.zero_le _)
                  rw [← spCells_take] at this
                  rw [hs2e]
                  exact this
                have HN2 : Hid (∀ t ∈ s2 ++ [⟨x1, x2, x3⟩], ∃ p, pvAt L (i + 1) = some p ∧ t.b ≤ p) := HNEW.out s2 (fun t ht => by rw [hs2e] at ht; cases ht)
                have hs2 : s2.length ≤ i := by rw [hs2e]; exact Nat.zero_le _
                have HZ0 : Hid (∀ oa : Option Addr, (Value.slice oa 0 oc) = .slice oa s2.length oc) := by rw [hs2e]; exact fun _ => rfl
                clear HS hlv hs2e
                go_wp2_with fail
                refine wp_region_belOf v2 (by kernel_rfl) (by kernel_rfl) ?_
                intro hne
                repeat go_big_quiet_step (fail)
                refine wpQuiet_nil ?_
                rintro _ ⟨v3, rfl⟩
                rw [HZ0.out]
                clear hne HSTK HP0
                have hqa := hq0 v3
                have hqb := hq1 v3
                have hqc := hq2 v3
                have hG3 : G < v3.w.heap.size := Nat.lt_of_lt_of_le hG v3.h.size
                have hG4 : ¬ v3.w.heap.size = G := by omega
                have hG5 : ¬ G = v3.w.heap.size := by omega
                have hG6 : ¬ v3.w.heap.size + 1 = G := by omega
                have hG7 : ¬ G = v3.w.heap.size + 1 := by omega
                have hz3 : w.heap.size ≤ v3.w.heap.size := Nat.le_trans hW1 v3.h.size
                have HO3 : Hid (v3.w.ownsRow w.heap.size 24 3 (.slice oa s2.length oc) s2.length (spCells s2)) := own_of_block HO2.out (fun k hk => v3.h.block k (own_block_lt HO2.out k hk).2)
                have HBz : Hid (Below w.heap.size w v3.w) := rel_end HB1.out v3
                go_wp2_with fail
                clear hq0 hq1 hq2
                generalize v3.w = z at *
                have HNN : Hid (∀ W, Below z.heap.size z W → ∀ j u, (spCells s2)[j]? = some u → ∃ ad, oa = some ad ∧ W.cell? (ad.add j) = some u) := fun W hb => stk_news HO3.out hb
                have hs8 : s2.length ≤ 8192 := by omega
                have HLc : Hid ((spCells s2).length = s2.length * 3) := spCells_length _
                obtain ⟨HW1, HW2, HW3⟩ := two_rows z ⟨x1, x2, x3⟩
                have tok1 : True := trivial
                have tok2 : True := trivial
                go_region_held3 (fun W => W.cell? ⟨G, 0, none⟩ = some (.int .u64 x1) ∧ W.cell? ⟨G, 1, none⟩ = some (.int .u64 x2) ∧ W.cell? ⟨G, 2, none⟩ = some (.int .i64 x3)) (go_keep)
                  (first
                    | (have _t := tok1; refine step_app (by rfl) _ _ (by rfl) Try.underlying31 info24 rfl (by decide) z.heap.size (.slice (some ⟨z.heap.size, 0, none⟩) 0 0) 0 [] (by rfl) HW1.out.2 oa s2.length oc (spCells s2) (by rfl) HLc.out (HNN.out _ HW1.out.1) (spCells_one _) (by unfold maxLen; omega) (by omega) HW1.out.1.size ?_; intro v1 w6 hown1 hg1 _ hat1; obtain ⟨va1, vc1, hv1⟩ := own_slice hown1; subst hv1; rw [Nat.zero_add, List.nil_append] at hown1; rw [Nat.zero_add]; have HR1 : Hid (w6.ownsRow z.heap.size 24 3 (.slice va1 s2.length vc1) s2.length (spCells s2)) := hown1; have HB6 : Hid (Below z.heap.size z w6) := HW1.out.1.grown hg1 HW1.out.1.size (fun k hk => by simp only [Value.ownBlock, Option.some.injEq] at hk; omega); have h60 : w6.cell? ⟨G, 0, none⟩ = some (.int .u64 x1) := (HB6.out.cell (p := ⟨G, 0, none⟩) hG3).trans hqa; have h61 : w6.cell? ⟨G, 1, none⟩ = some (.int .u64 x2) := (HB6.out.cell (p := ⟨G, 1, none⟩) hG3).trans hqb; have h62 : w6.cell? ⟨G, 2, none⟩ = some (.int .i64 x3) := (HB6.out.cell (p := ⟨G, 2, none⟩) hG3).trans hqc; have hG6 : G < w6.heap.size := Nat.lt_of_lt_of_le hG3 HB6.out.size; have HB7 : Hid (Below z.heap.size z (w6.alloc (.cells #[.int .u64 x1, .int .u64 x2, .int .i64 x3] 24))) := HB6.out.alloc HB6.out.size _; have HR2 : Hid ((w6.alloc (.cells #[.int .u64 x1, .int .u64 x2, .int .i64 x3] 24)).ownsRow z.heap.size 24 3 (.slice va1 s2.length vc1) s2.length (spCells s2)) := own_of_block hown1 (fun k hk => Below.heap_alloc _ _ _ (own_block_lt hown1 k hk).2); have HN2x : Hid (∀ j u, (spCells [⟨x1, x2, x3⟩])[j]? = some u → ∃ ad, (some ⟨w6.heap.size, 0, none⟩ : Option Addr) = some ad ∧ (w6.alloc (.cells #[.int .u64 x1, .int .u64 x2, .int .i64 x3] 24)).cell? (ad.add j) = some u) := one_news w6 ⟨x1, x2, x3⟩; clear hown1 hg1 hat1 tok1 _t)
                    | (have _t := tok1; refine step_app (by rfl) _ _ (by rfl) Try.underlying31 info24 rfl (by decide) z.heap.size (.slice (some ⟨z.heap.size, 0, none⟩) 0 0) 0 [] (by rfl) HW2.out.2.1 oa s2.length oc (spCells s2) (by rfl) HLc.out (HNN.out _ HW2.out.1) (spCells_one _) (by unfold maxLen; omega) (by omega) HW2.out.1.size ?_; intro v1 w6 hown1 hg1 _ hat1; obtain ⟨va1, vc1, hv1⟩ := own_slice hown1; subst hv1; rw [Nat.zero_add, List.nil_append] at hown1; rw [Nat.zero_add]; have HB7 : Hid (Below z.heap.size z w6) := HW2.out.1.grown hg1 HW2.out.1.size (fun k hk => by simp only [Value.ownBlock, Option.some.injEq] at hk; omega); have h60 : w6.cell? ⟨G, 0, none⟩ = some (.int .u64 x1) := (HB7.out.cell (p := ⟨G, 0, none⟩) hG3).trans hqa; have h61 : w6.cell? ⟨G, 1, none⟩ = some (.int .u64 x2) := (HB7.out.cell (p := ⟨G, 1, none⟩) hG3).trans hqb; have h62 : w6.cell? ⟨G, 2, none⟩ = some (.int .i64 x3) := (HB7.out.cell (p := ⟨G, 2, none⟩) hG3).trans hqc; have HR2 : Hid (w6.ownsRow z.heap.size 24 3 (.slice va1 s2.length vc1) s2.length (spCells s2)) := hown1; have HN2x : Hid (∀ j u, (spCells [⟨x1, x2, x3⟩])[j]? = some u → ∃ ad, (some ⟨z.heap.size + 1, 0, none⟩ : Option Addr) = some ad ∧ w6.cell? (ad.add j) = some u) := one_far hg1 HW2.out.2.2 (by simp [Value.ownBlock]); clear hown1 hg1 hat1 tok1 _t)
                    | (have _t := tok1; refine step_app (by rfl) _ _ (by rfl) Try.underlying31 info24 rfl (by decide) z.heap.size (.slice (some ⟨z.heap.size + 1, 0, none⟩) 0 0) 0 [] (by rfl) HW3.out.2.1 oa s2.length oc (spCells s2) (by rfl) HLc.out (HNN.out _ HW3.out.1) (spCells_one _) (by unfold maxLen; omega) (by omega) HW3.out.1.size ?_; intro v1 w6 hown1 hg1 _ hat1; obtain ⟨va1, vc1, hv1⟩ := own_slice hown1; subst hv1; rw [Nat.zero_add, List.nil_append] at hown1; rw [Nat.zero_add]; have HB7 : Hid (Below z.heap.size z w6) := HW3.out.1.grown hg1 HW3.out.1.size (fun k hk => by simp only [Value.ownBlock, Option.some.injEq] at hk; omega); have h60 : w6.cell? ⟨G, 0, none⟩ = some (.int .u64 x1) := (HB7.out.cell (p := ⟨G, 0, none⟩) hG3).trans hqa; have h61 : w6.cell? ⟨G, 1, none⟩ = some (.int .u64 x2) := (HB7.out.cell (p := ⟨G, 1, none⟩) hG3).trans hqb; have h62 : w6.cell? ⟨G, 2, none⟩ = some (.int .i64 x3) := (HB7.out.cell (p := ⟨G, 2, none⟩) hG3).trans hqc; have HR2 : Hid (w6.ownsRow z.heap.size 24 3 (.slice va1 s2.length vc1) s2.length (spCells s2)) := hown1; have HN2x : Hid (∀ j u, (spCells [⟨x1, x2, x3⟩])[j]? = some u → ∃ ad, (some ⟨z.heap.size, 0, none⟩ : Option Addr) = some ad ∧ w6.cell? (ad.add j) = some u) := one_far hg1 HW3.out.2.2 (by simp [Value.ownBlock]); clear hown1 hg1 hat1 tok1 _t)
                    | (have _t := tok2; refine step_app (by rfl) _ _ (by rfl) Try.underlying31 info24 rfl (by decide) z.heap.size (.slice va1 s2.length vc1) s2.length (spCells s2) (by rfl) HR2.out _ 1 1 (spCells [⟨x1, x2, x3⟩]) (by rfl) (by rfl) HN2x.out (spCells_one _) (by unfold maxLen; omega) (by omega) HB7.out.size ?_; intro v2x w7 hown2 hg2 _ hat2; obtain ⟨va2, vc2, hv2⟩ := own_slice hown2; subst hv2; have HR3 : Hid (w7.ownsRow z.heap.size 24 3 (.slice va2 (s2.length + 1) vc2) (s2.length + 1) (spCells s2 ++ spCells [⟨x1, x2, x3⟩])) := hown2; have HB8 : Hid (Below z.heap.size z w7) := HB7.out.grown hg2 HB7.out.size (fun k hk => (own_block_lt HR2.out k hk).1); have h70 : w7.cell? ⟨G, 0, none⟩ = some (.int .u64 x1) := (HB8.out.cell (p := ⟨G, 0, none⟩) hG3).trans hqa; have h71 : w7.cell? ⟨G, 1, none⟩ = some (.int .u64 x2) := (HB8.out.cell (p := ⟨G, 1, none⟩) hG3).trans hqb; have h72 : w7.cell? ⟨G, 2, none⟩ = some (.int .i64 x3) := (HB8.out.cell (p := ⟨G, 2, none⟩) hG3).trans hqc; clear hown2 hg2 hat2 tok2 _t))
                all_goals
                  go_wp2
                  go_roundw
                  case rel =>
                    have HBx : Below w.heap.size w w7 := HBz.out.trans (HB8.out.mono hz3)
                    exact ⟨i + 1, s2 ++ [⟨x1, x2, x3⟩], va2, vc2, by omega, by go_num, by simp, by simp; omega, by show World.ownsRow _ _ _ _ _ _ _; rw [spCells_append, List.length_append]; exact own_base HR3.out (fun k hk => Nat.le_trans hz3 (own_block_lt HR3.out k hk).1), HE, HBx, HN2⟩
                  case measure => simp [intOf]; omega
              · have hlb : (x3 != 0) = true := by simpa using hlv
                rw [if_neg (by simpa using hlv)] at HS
                have HE : Hid (y = (((i : Nat) : Int), 111)) := HS
                clear HS hlv
                go_wp2_with fail
                refine wp_region_belOf v2 (by kernel_rfl) (by kernel_rfl) ?_
                intro hne
                repeat go_big_quiet_step (fail)
                refine wpQuiet_nil ?_
                rintro _ ⟨v3, rfl⟩
                go_wp2
                go_ret2
                exact ⟨ret_two HE.out, rel_end HB1.out v3⟩
            · obtain ⟨k, rfl⟩ : ∃ k, n = k + 1 := ⟨n - 1, by omega⟩
              obtain ⟨t, ht⟩ : ∃ t, st[k]? = some t := ⟨_, List.getElem?_eq_getElem (by omega)⟩
              obtain ⟨g, hoa, -⟩ := HSTK.out v k t ht
              have HTK : Hid (st.take (k + 1) = st.take k ++ [t]) := take_snoc ht
              have hk0 : ∀ W : Bel W1, W.w.cell? ⟨g, k * 3 + 1, none⟩ = some (.int .u64 t.e) := fun W => by
                obtain ⟨g', e1, _, _, e2, _⟩ := HSTK.out W k t ht
                rw [hoa] at e1
                cases e1
                exact e2
              have hd1 : decide (0 < k + 1) = true := by simp
              have hd2 : decide ((0 : Int) < (k : Int) + 1) = true := by rw [decide_eq_true_eq]; omega
              have hd3 : (k : Int) + 1 - 1 = (k : Int) := by omega
              have hd4 : (0 : Int) ≤ (k : Int) := by omega
              have hd5 : (k : Int) < (k : Int) + 1 := by omega
              have htb : t.b < x1 := HT.out t (List.mem_of_getElem? ht)
              subst hoa
              by_cases hpl : t.e < x1
              · have hplb : decide (t.e < x1) = true := by simpa using hpl
                have HP2 : Hid (pop x1 st = pop x1 (st.take k)) := by show _ = _; rw [HP.out, HTK.out, pop_lt hpl]
                clear hpl HP htb hn0 ht
                go_wp2_with fail
                refine wp_region_belOf v (by kernel_rfl) (by kernel_rfl) ?_
                intro hne
                repeat go_big_quiet_step (fail)
                refine wpQuiet_nil ?_
                rintro _ ⟨v2, rfl⟩
                go_wp2
                go_roundw
                case rel => exact ⟨k, v2, by omega, rfl, rfl, HP2⟩
                case measure => simp
              · have hplb : decide (t.e < x1) = false := by simpa using hpl
                have HP2 : pop x1 st = st.take (k + 1) := by rw [HP.out, HTK.out, pop_ge hpl]
                rw [HP2] at HS
                have hsl2 : (st.take (k + 1)).length = k + 1 := by rw [List.length_take]; omega
                have hst2 : (st.take (k + 1))[k]? = some t := by rw [List.getElem?_take_of_lt (by omega)]; exact ht
                have hnst := nst_ref (x := ⟨x1, x2, x3⟩) hsl2 hst2 htb
                rw [hnst] at HS
                clear hpl HP hnst hn0 htb HP2 hst2
                go_wp2_with fail
                refine wp_region_belOf v (by kernel_rfl) (by kernel_rfl) ?_
                intro hne
                repeat go_big_quiet_step (fail)
                refine wpQuiet_nil ?_
                rintro _ ⟨v2, rfl⟩
                by_cases hte : t.e ≤ x2
                · have hteb : decide (t.e ≤ x2) = true := by simpa using hte
                  rw [if_neg (by simp [hte])] at HS
                  have HE : Hid (y = (((i : Nat) : Int), 111)) := HS
                  clear HS hte
                  go_wp2_with fail
                  refine wp_region_belOf v2 (by kernel_rfl) (by kernel_rfl) ?_
                  intro hne
                  repeat go_big_quiet_step (fail)
                  refine wpQuiet_nil ?_
                  rintro _ ⟨v3, rfl⟩
                  go_wp2
                  go_ret2
                  exact ⟨ret_two HE.out, rel_end HB1.out v3⟩
                · have hteb : decide (t.e ≤ x2) = false := by simpa using hte
                  by_cases hlv : x3 = (k : Int) + 1
                  · have hlb : (x3 != (k : Int) + 1) = false := by simpa using hlv
                    rw [if_pos (by simp [hteb]; omega)] at HS
                    have HE : Hid (chkS (L.drop (i + 1)) (pvAt L (i + 1)) (st.take (k + 1) ++ [⟨x1, x2, x3⟩]) ((i + 1 : Nat) : Int) = y) := HS.symm
                    clear HS hlv hte
                    go_wp2_with fail
                    refine wp_region_belOf v2 (by kernel_rfl) (by kernel_rfl) ?_
                    intro hne
                    repeat go_big_quiet_step (fail)
                    refine wpQuiet_nil ?_
                    rintro _ ⟨v3, rfl⟩
                    have HO2 : Hid (W1.ownsRow w.heap.size 24 3 (.slice (some ⟨g, 0, none⟩) (st.take (k + 1)).length oc) (st.take (k + 1)).length (spCells (st.take (k + 1)))) := by
                      have := own_take HO1.out hn
                      rw [← spCells_take] at this
                      rw [hsl2]
                      exact this
                    have HN2 : Hid (∀ t ∈ st.take (k + 1) ++ [⟨x1, x2, x3⟩], ∃ p, pvAt L (i + 1) = some p ∧ t.b ≤ p) := HNEW.out _ (fun t ht => HT.out t (List.mem_of_mem_take ht))
                    have hs2 : (st.take (k + 1)).length ≤ i := by omega
                    have HSL2 : Hid (k + 1 = (st.take (k + 1)).length) := hsl2.symm
                    clear hsl2
                    rw [HSL2.out]
                    generalize st.take (k + 1) = s2 at *
                    generalize (some ⟨g, 0, none⟩ : Option Addr) = oa at *
                    clear hne HSTK
                    have hqa := hq0 v3
                    have hqb := hq1 v3
                    have hqc := hq2 v3
                    have hG3 : G < v3.w.heap.size := Nat.lt_of_lt_of_le hG v3.h.size
                    have hG4 : ¬ v3.w.heap.size = G := by omega
                    have hG5 : ¬ G = v3.w.heap.size := by omega
                    have hG6 : ¬ v3.w.heap.size + 1 = G := by omega
                    have hG7 : ¬ G = v3.w.heap.size + 1 := by omega
                    have hz3 : w.heap.size ≤ v3.w.heap.size := Nat.le_trans hW1 v3.h.size
                    have HO3 : Hid (v3.w.ownsRow w.heap.size 24 3 (.slice oa s2.length oc) s2.length (spCells s2)) := own_of_block HO2.out (fun k hk => v3.h.block k (own_block_lt HO2.out k hk).2)
                    have HBz : Hid (Below w.heap.size w v3.w) := rel_end HB1.out v3
                    go_wp2_with fail
                    clear hq0 hq1 hq2
                    generalize v3.w = z at *
                    have HNN : Hid (∀ W, Below z.heap.size z W → ∀ j u, (spCells s2)[j]? = some u → ∃ ad, oa = some ad ∧ W.cell? (ad.add j) = some u) := fun W hb => stk_news HO3.out hb
                    have hs8 : s2.length ≤ 8192 := by omega
                    have HLc : Hid ((spCells s2).length = s2.length * 3) := spCells_length _
                    obtain ⟨HW1, HW2, HW3⟩ := two_rows z ⟨x1, x2, x3⟩
                    have tok1 : True := trivial
                    have tok2 : True := trivial
                    go_region_held3 (fun W => W.cell? ⟨G, 0, none⟩ = some (.int .u64 x1) ∧ W.cell? ⟨G, 1, none⟩ = some (.int .u64 x2) ∧ W.cell? ⟨G, 2, none⟩ = some (.int .i64 x3)) (go_keep)
                      (first
                        | (have _t := tok1; refine step_app (by rfl) _ _ (by rfl) Try.underlying31 info24 rfl (by decide) z.heap.size (.slice (some ⟨z.heap.size, 0, none⟩) 0 0) 0 [] (by rfl) HW1.out.2 oa s2.length oc (spCells s2) (by rfl) HLc.out (HNN.out _ HW1.out.1) (spCells_one _) (by unfold maxLen; omega) (by omega) HW1.out.1.size ?_; intro v1 w6 hown1 hg1 _ hat1; obtain ⟨va1, vc1, hv1⟩ := own_slice hown1; subst hv1; rw [Nat.zero_add, List.nil_append] at hown1; rw [Nat.zero_add]; have HR1 : Hid (w6.ownsRow z.heap.size 24 3 (.slice va1 s2.length vc1) s2.length (spCells s2)) := hown1; have HB6 : Hid (Below z.heap.size z w6) := HW1.out.1.grown hg1 HW1.out.1.size (fun k hk => by simp only [Value.ownBlock, Option.some.injEq] at hk; omega); have h60 : w6.cell? ⟨G, 0, none⟩ = some (.int .u64 x1) := (HB6.out.cell (p := ⟨G, 0, none⟩) hG3).trans hqa; have h61 : w6.cell? ⟨G, 1, none⟩ = some (.int .u64 x2) := (HB6.out.cell (p := ⟨G, 1, none⟩) hG3).trans hqb; have h62 : w6.cell? ⟨G, 2, none⟩ = some (.int .i64 x3) := (HB6.out.cell (p := ⟨G, 2, none⟩) hG3).trans hqc; have hG6 : G < w6.heap.size := Nat.lt_of_lt_of_le hG3 HB6.out.size; have HB7 : Hid (Below z.heap.size z (w6.alloc (.cells #[.int .u64 x1, .int .u64 x2, .int .i64 x3] 24))) := HB6.out.alloc HB6.out.size _; have HR2 : Hid ((w6.alloc (.cells #[.int .u64 x1, .int .u64 x2, .int .i64 x3] 24)).ownsRow z.heap.size 24 3 (.slice va1 s2.length vc1) s2.length (spCells s2)) := own_of_block hown1 (fun k hk => Below.heap_alloc _ _ _ (own_block_lt hown1 k hk).2); have HN2x : Hid (∀ j u, (spCells [⟨x1, x2, x3⟩])[j]? = some u → ∃ ad, (some ⟨w6.heap.size, 0, none⟩ : Option Addr) = some ad ∧ (w6.alloc (.cells #[.int .u64 x1, .int .u64 x2, .int .i64 x3] 24)).cell? (ad.add j) = some u) := one_news w6 ⟨x1, x2, x3⟩; clear hown1 hg1 hat1 tok1 _t)
                        | (have _t := tok1; refine step_app (by rfl) _ _ (by rfl) Try.underlying31 info24 rfl (by decide) z.heap.size (.slice (some ⟨z.heap.size, 0, none⟩) 0 0) 0 [] (by rfl) HW2.out.2.1 oa s2.length oc (spCells s2) (by rfl) HLc.out (HNN.out _ HW2.out.1) (spCells_one _) (by unfold maxLen; omega) (by omega) HW2.out.1.size ?_; intro v1 w6 hown1 hg1 _ hat1; obtain ⟨va1, vc1, hv1⟩ := own_slice hown1; subst hv1; rw [Nat.zero_add, List.nil_append] at hown1; rw [Nat.zero_add]; have HB7 : Hid (Below z.heap.size z w6) := HW2.out.1.grown hg1 HW2.out.1.size (fun k hk => by simp only [Value.ownBlock, Option.some.injEq] at hk; omega); have h60 : w6.cell? ⟨G, 0, none⟩ = some (.int .u64 x1) := (HB7.out.cell (p := ⟨G, 0, none⟩) hG3).trans hqa; have h61 : w6.cell? ⟨G, 1, none⟩ = some (.int .u64 x2) := (HB7.out.cell (p := ⟨G, 1, none⟩) hG3).trans hqb; have h62 : w6.cell? ⟨G, 2, none⟩ = some (.int .i64 x3) := (HB7.out.cell (p := ⟨G, 2, none⟩) hG3).trans hqc; have HR2 : Hid (w6.ownsRow z.heap.size 24 3 (.slice va1 s2.length vc1) s2.length (spCells s2)) := hown1; have HN2x : Hid (∀ j u, (spCells [⟨x1, x2, x3⟩])[j]? = some u → ∃ ad, (some ⟨z.heap.size + 1, 0, none⟩ : Option Addr) = some ad ∧ w6.cell? (ad.add j) = some u) := one_far hg1 HW2.out.2.2 (by simp [Value.ownBlock]); clear hown1 hg1 hat1 tok1 _t)
                        | (have _t := tok1; refine step_app (by rfl) _ _ (by rfl) Try.underlying31 info24 rfl (by decide) z.heap.size (.slice (some ⟨z.heap.size + 1, 0, none⟩) 0 0) 0 [] (by rfl) HW3.out.2.1 oa s2.length oc (spCells s2) (by rfl) HLc.out (HNN.out _ HW3.out.1) (spCells_one _) (by unfold maxLen; omega) (by omega) HW3.out.1.size ?_; intro v1 w6 hown1 hg1 _ hat1; obtain ⟨va1, vc1, hv1⟩ := own_slice hown1; subst hv1; rw [Nat.zero_add, List.nil_append] at hown1; rw [Nat.zero_add]; have HB7 : Hid (Below z.heap.size z w6) := HW3.out.1.grown hg1 HW3.out.1.size (fun k hk => by simp only [Value.ownBlock, Option.some.injEq] at hk; omega); have h60 : w6.cell? ⟨G, 0, none⟩ = some (.int .u64 x1) := (HB7.out.cell (p := ⟨G, 0, none⟩) hG3).trans hqa; have h61 : w6.cell? ⟨G, 1, none⟩ = some (.int .u64 x2) := (HB7.out.cell (p := ⟨G, 1, none⟩) hG3).trans hqb; have h62 : w6.cell? ⟨G, 2, none⟩ = some (.int .i64 x3) := (HB7.out.cell (p := ⟨G, 2, none⟩) hG3).trans hqc; have HR2 : Hid (w6.ownsRow z.heap.size 24 3 (.slice va1 s2.length vc1) s2.length (spCells s2)) := hown1; have HN2x : Hid (∀ j u, (spCells [⟨x1, x2, x3⟩])[j]? = some u → ∃ ad, (some ⟨z.heap.size, 0, none⟩ : Option Addr) = some ad ∧ w6.cell? (ad.add j) = some u) := one_far hg1 HW3.out.2.2 (by simp [Value.ownBlock]); clear hown1 hg1 hat1 tok1 _t)
                        | (have _t := tok2; refine step_app (by rfl) _ _ (by rfl) Try.underlying31 info24 rfl (by decide) z.heap.size (.slice va1 s2.length vc1) s2.length (spCells s2) (by rfl) HR2.out _ 1 1 (spCells [⟨x1, x2, x3⟩]) (by rfl) (by rfl) HN2x.out (spCells_one _) (by unfold maxLen; omega) (by omega) HB7.out.size ?_; intro v2x w7 hown2 hg2 _ hat2; obtain ⟨va2, vc2, hv2⟩ := own_slice hown2; subst hv2; have HR3 : Hid (w7.ownsRow z.heap.size 24 3 (.slice va2 (s2.length + 1) vc2) (s2.length + 1) (spCells s2 ++ spCells [⟨x1, x2, x3⟩])) := hown2; have HB8 : Hid (Below z.heap.size z w7) := HB7.out.grown hg2 HB7.out.size (fun k hk => (own_block_lt HR2.out k hk).1); have h70 : w7.cell? ⟨G, 0, none⟩ = some (.int .u64 x1) := (HB8.out.cell (p := ⟨G, 0, none⟩) hG3).trans hqa; have h71 : w7.cell? ⟨G, 1, none⟩ = some (.int .u64 x2) := (HB8.out.cell (p := ⟨G, 1, none⟩) hG3).trans hqb; have h72 : w7.cell? ⟨G, 2, none⟩ = some (.int .i64 x3) := (HB8.out.cell (p := ⟨G, 2, none⟩) hG3).trans hqc; clear hown2 hg2 hat2 tok2 _t))
                    all_goals
                      go_wp2
                      go_roundw
                      case rel =>
                        have HBx : Below w.heap.size w w7 := HBz.out.trans (HB8.out.mono hz3)
                        exact ⟨i + 1, s2 ++ [⟨x1, x2, x3⟩], va2, vc2, by omega, by go_num, by simp, by simp; omega, by show World.ownsRow _ _ _ _ _ _ _; rw [spCells_append, List.length_append]; exact own_base HR3.out (fun k hk => Nat.le_trans hz3 (own_block_lt HR3.out k hk).1), HE, HBx, HN2⟩
                      case measure => simp [intOf]; omega
                  · have hlb : (x3 != (k : Int) + 1) = true := by simpa using hlv
                    rw [if_neg (by simp [hteb]; omega)] at HS
                    have HE : Hid (y = (((i : Nat) : Int), 111)) := HS
                    clear HS hlv hte
                    go_wp2_with fail
                    refine wp_region_belOf v2 (by kernel_rfl) (by kernel_rfl) ?_
                    intro hne
                    repeat go_big_quiet_step (fail)
                    refine wpQuiet_nil ?_
                    rintro _ ⟨v3, rfl⟩
                    go_wp2
                    go_ret2
                    exact ⟨ret_two HE.out, rel_end HB1.out v3⟩
        · obtain ⟨j, hj⟩ : ∃ j, i = j + 1 := ⟨i - 1, by omega⟩
          obtain ⟨q, hlw, hcq⟩ := HLOW.out j hj
          subst hlw
          subst hj
          have hdec : decide ((0 : Int) < ((j + 1 : Nat) : Int)) = true := by simp
          have hdec' : decide (0 < j + 1) = true := by simp
          have hi1 : ((j + 1 : Nat) : Int) - 1 = (j : Int) := by omega
          have hi2 : (j : Int) + 1 - 1 = (j : Int) := by omega
          have hi3 : (j : Int) < ((L.length : Nat) : Int) := by omega
          have hi4 : (0 : Int) ≤ (j : Int) := by omega
          clear hi0 HLOW HLOW0
          by_cases hle : x1 ≤ q
          · rw [if_pos (by simpa using hle)] at HS
            have HE : Hid (y = (((j + 1 : Nat) : Int), 71)) := HS
            have hleb : decide (x1 ≤ q) = true := by simpa using hle
            clear HS hle
            go_wp2_with fail
            refine wp_region_belOf u (by kernel_rfl) (by kernel_rfl) ?_
            intro hne
            repeat go_big_quiet_step (fail)
            refine wpQuiet_nil ?_
            rintro _ ⟨v, rfl⟩
            go_wp2
            go_ret2
            exact ⟨ret_two HE.out, rel_end HB1.out v⟩
          · have hleb : decide (x1 ≤ q) = false := by simpa using hle
            rw [hleb] at HS HLT
            rw [if_neg (by decide)] at HS
            clear hle
            go_wp2_with fail
            refine wp_region_belOf u (by kernel_rfl) (by kernel_rfl) ?_
            intro hne
            repeat go_big_quiet_step (fail)
            refine wpQuiet_nil ?_
            rintro _ ⟨v, rfl⟩
            have HT : Hid (∀ t ∈ st, t.b < x1) := HLT.out (by simp)
            clear HLT
            go_wp2_with fail
            go_loopw [4] (fun o wr => ∃ (n : Nat) (v : Bel W1), n ≤ st.length ∧ o = .slice oa n oc ∧ wr = v.w ∧ Hid (pop x1 st = pop x1 (st.take n))) (fun o _ => match o with | .slice _ n _ => n | _ => 0)
            case atStart => exact ⟨st.length, v, Nat.le_refl _, rfl, rfl, by show _ = _; rw [List.take_length]⟩
            case round =>
              obtain ⟨n, v, hn, rfl, rfl, HP⟩ := hrel
              by_cases hn0 : n = 0
              · subst hn0
                have HP0 : Hid (pop x1 st = []) := by show _ = _; rw [HP.out]; rfl
                rw [HP0.out, nst_nil] at HS
                clear HP
                go_wp2_with fail
                refine wp_region_belOf v (by kernel_rfl) (by kernel_rfl) ?_
                intro hne
                repeat go_big_quiet_step (fail)
                refine wpQuiet_nil ?_
                rintro _ ⟨v2, rfl⟩
                by_cases hlv : x3 = 0
                · have hlb : (x3 != 0) = false := by rw [hlv]; rfl
                  rw [if_pos (by simpa using hlv)] at HS
                  obtain ⟨s2, hs2e⟩ : ∃ s2 : List Sp, s2 = [] := ⟨[], rfl⟩
                  have HE : Hid (chkS (L.drop ((j + 1) + 1)) (pvAt L ((j + 1) + 1)) (s2 ++ [⟨x1, x2, x3⟩]) (((j + 1) + 1 : Nat) : Int) = y) := by show _ = _; rw [hs2e]; exact HS.symm
                  have HO2 : Hid (W1.ownsRow w.heap.size 24 3 (.slice oa s2.length oc) s2.length (spCells s2)) := by
                    have := own_take HO1.out (Nat.zero_le _)
                    rw [← spCells_take] at this
                    rw [hs2e]
                    exact this
                  have HN2 : Hid (∀ t ∈ s2 ++ [⟨x1, x2, x3⟩], ∃ p, pvAt L ((j + 1) + 1) = some p ∧ t.b ≤ p) := HNEW.out s2 (fun t ht => by rw [hs2e] at ht; cases ht)
                  have hs2 : s2.length ≤ (j + 1) := by rw [hs2e]; exact Nat.zero_le _
                  have HZ0 : Hid (∀ oa : Option Addr, (Value.slice oa 0 oc) = .slice oa s2.length oc) := by rw [hs2e]; exact fun _ => rfl
                  clear HS hlv hs2e
                  go_wp2_with fail
                  refine wp_region_belOf v2 (by kernel_rfl) (by kernel_rfl) ?_
                  intro hne
                  repeat go_big_quiet_step (fail)
                  refine wpQuiet_nil ?_
                  rintro _ ⟨v3, rfl⟩
                  rw [HZ0.out]
                  clear hne HSTK HP0
                  have hqa := hq0 v3
                  have hqb := hq1 v3
                  have hqc := hq2 v3
                  have hG3 : G < v3.w.heap.size := Nat.lt_of_lt_of_le hG v3.h.size
                  have hG4 : ¬ v3.w.heap.size = G := by omega
                  have hG5 : ¬ G = v3.w.heap.size := by omega
                  have hG6 : ¬ v3.w.heap.size + 1 = G := by omega
                  have hG7 : ¬ G = v3.w.heap.size + 1 := by omega
                  have hz3 : w.heap.size ≤ v3.w.heap.size := Nat.le_trans hW1 v3.h.size
                  have HO3 : Hid (v3.w.ownsRow w.heap.size 24 3 (.slice oa s2.length oc) s2.length (spCells s2)) := own_of_block HO2.out (fun k hk => v3.h.block k (own_block_lt HO2.out k hk).2)
                  have HBz : Hid (Below w.heap.size w v3.w) := rel_end HB1.out v3
                  go_wp2_with fail
                  clear hq0 hq1 hq2
                  generalize v3.w = z at *
                  have HNN : Hid (∀ W, Below z.heap.size z W → ∀ j u, (spCells s2)[j]? = some u → ∃ ad, oa = some ad ∧ W.cell? (ad.add j) = some u) := fun W hb => stk_news HO3.out hb
                  have hs8 : s2.length ≤ 8192 := by omega
                  have HLc : Hid ((spCells s2).length = s2.length * 3) := spCells_length _
                  obtain ⟨HW1, HW2, HW3⟩ := two_rows z ⟨x1, x2, x3⟩
                  have tok1 : True := trivial
                  have tok2 : True := trivial
                  go_region_held3 (fun W => W.cell? ⟨G, 0, none⟩ = some (.int .u64 x1) ∧ W.cell? ⟨G, 1, none⟩ = some (.int .u64 x2) ∧ W.cell? ⟨G, 2, none⟩ = some (.int .i64 x3)) (go_keep)
                    (first
                      | (have _t := tok1; refine step_app (by rfl) _ _ (by rfl) Try.underlying31 info24 rfl (by decide) z.heap.size (.slice (some ⟨z.heap.size, 0, none⟩) 0 0) 0 [] (by rfl) HW1.out.2 oa s2.length oc (spCells s2) (by rfl) HLc.out (HNN.out _ HW1.out.1) (spCells_one _) (by unfold maxLen; omega) (by omega) HW1.out.1.size ?_; intro v1 w6 hown1 hg1 _ hat1; obtain ⟨va1, vc1, hv1⟩ := own_slice hown1; subst hv1; rw [Nat.zero_add, List.nil_append] at hown1; rw [Nat.zero_add]; have HR1 : Hid (w6.ownsRow z.heap.size 24 3 (.slice va1 s2.length vc1) s2.length (spCells s2)) := hown1; have HB6 : Hid (Below z.heap.size z w6) := HW1.out.1.grown hg1 HW1.out.1.size (fun k hk => by simp only [Value.ownBlock, Option.some.injEq] at hk; omega); have h60 : w6.cell? ⟨G, 0, none⟩ = some (.int .u64 x1) := (HB6.out.cell (p := ⟨G, 0, none⟩) hG3).trans hqa; have h61 : w6.cell? ⟨G, 1, none⟩ = some (.int .u64 x2) := (HB6.out.cell (p := ⟨G, 1, none⟩) hG3).trans hqb; have h62 : w6.cell? ⟨G, 2, none⟩ = some (.int .i64 x3) := (HB6.out.cell (p := ⟨G, 2, none⟩) hG3).trans hqc; have hG6 : G < w6.heap.size := Nat.lt_of_lt_of_le hG3 HB6.out.size; have HB7 : Hid (Below z.heap.size z (w6.alloc (.cells #[.int .u64 x1, .int .u64 x2, .int .i64 x3] 24))) := HB6.out.alloc HB6.out.size _; have HR2 : Hid ((w6.alloc (.cells #[.int .u64 x1, .int .u64 x2, .int .i64 x3] 24)).ownsRow z.heap.size 24 3 (.slice va1 s2.length vc1) s2.length (spCells s2)) := own_of_block hown1 (fun k hk => Below.heap_alloc _ _ _ (own_block_lt hown1 k hk).2); have HN2x : Hid (∀ j u, (spCells [⟨x1, x2, x3⟩])[j]? = some u → ∃ ad, (some ⟨w6.heap.size, 0, none⟩ : Option Addr) = some ad ∧ (w6.alloc (.cells #[.int .u64 x1, .int .u64 x2, .int .i64 x3] 24)).cell? (ad.add j) = some u) := one_news w6 ⟨x1, x2, x3⟩; clear hown1 hg1 hat1 tok1 _t)
                      | (have _t := tok1; refine step_app (by rfl) _ _ (by rfl) Try.underlying31 info24 rfl (by decide) z.heap.size (.slice (some ⟨z.heap.size, 0, none⟩) 0 0) 0 [] (by rfl) HW2.out.2.1 oa s2.length oc (spCells s2) (by rfl) HLc.out (HNN.out _ HW2.out.1) (spCells_one _) (by unfold maxLen; omega) (by omega) HW2.out.1.size ?_; intro v1 w6 hown1 hg1 _ hat1; obtain ⟨va1, vc1, hv1⟩ := own_slice hown1; subst hv1; rw [Nat.zero_add, List.nil_append] at hown1; rw [Nat.zero_add]; have HB7 : Hid (Below z.heap.size z w6) := HW2.out.1.grown hg1 HW2.out.1.size (fun k hk => by simp only [Value.ownBlock, Option.some.injEq] at hk; omega); have h60 : w6.cell? ⟨G, 0, none⟩ = some (.int .u64 x1) := (HB7.out.cell (p := ⟨G, 0, none⟩) hG3).trans hqa; have h61 : w6.cell? ⟨G, 1, none⟩ = some (.int .u64 x2) := (HB7.out.cell (p := ⟨G, 1, none⟩) hG3).trans hqb; have h62 : w6.cell? ⟨G, 2, none⟩ = some (.int .i64 x3) := (HB7.out.cell (p := ⟨G, 2, none⟩) hG3).trans hqc; have HR2 : Hid (w6.ownsRow z.heap.size 24 3 (.slice va1 s2.length vc1) s2.length (spCells s2)) := hown1; have HN2x : Hid (∀ j u, (spCells [⟨x1, x2, x3⟩])[j]? = some u → ∃ ad, (some ⟨z.heap.size + 1, 0, none⟩ : Option Addr) = some ad ∧ w6.cell? (ad.add j) = some u) := one_far hg1 HW2.out.2.2 (by simp [Value.ownBlock]); clear hown1 hg1 hat1 tok1 _t)
                      | (have _t := tok1; refine step_app (by rfl) _ _ (by rfl) Try.underlying31 info24 rfl (by decide) z.heap.size (.slice (some ⟨z.heap.size + 1, 0, none⟩) 0 0) 0 [] (by rfl) HW3.out.2.1 oa s2.length oc (spCells s2) (by rfl) HLc.out (HNN.out _ HW3.out.1) (spCells_one _) (by unfold maxLen; omega) (by omega) HW3.out.1.size ?_; intro v1 w6 hown1 hg1 _ hat1; obtain ⟨va1, vc1, hv1⟩ := own_slice hown1; subst hv1; rw [Nat.zero_add, List.nil_append] at hown1; rw [Nat.zero_add]; have HB7 : Hid (Below z.heap.size z w6) := HW3.out.1.grown hg1 HW3.out.1.size (fun k hk => by simp only [Value.ownBlock, Option.some.injEq] at hk; omega); have h60 : w6.cell? ⟨G, 0, none⟩ = some (.int .u64 x1) := (HB7.out.cell (p := ⟨G, 0, none⟩) hG3).trans hqa; have h61 : w6.cell? ⟨G, 1, none⟩ = some (.int .u64 x2) := (HB7.out.cell (p := ⟨G, 1, none⟩) hG3).trans hqb; have h62 : w6.cell? ⟨G, 2, none⟩ = some (.int .i64 x3) := (HB7.out.cell (p := ⟨G, 2, none⟩) hG3).trans hqc; have HR2 : Hid (w6.ownsRow z.heap.size 24 3 (.slice va1 s2.length vc1) s2.length (spCells s2)) := hown1; have HN2x : Hid (∀ j u, (spCells [⟨x1, x2, x3⟩])[j]? = some u → ∃ ad, (some ⟨z.heap.size, 0, none⟩ : Option Addr) = some ad ∧ w6.cell? (ad.add j) = some u) := one_far hg1 HW3.out.2.2 (by simp [Value.ownBlock]); clear hown1 hg1 hat1 tok1 _t)
                      | (have _t := tok2; refine step_app (by rfl) _ _ (by rfl) Try.underlying31 info24 rfl (by decide) z.heap.size (.slice va1 s2.length vc1) s2.length (spCells s2) (by rfl) HR2.out _ 1 1 (spCells [⟨x1, x2, x3⟩]) (by rfl) (by rfl) HN2x.out (spCells_one _) (by unfold maxLen; omega) (by omega) HB7.out.size ?_; intro v2x w7 hown2 hg2 _ hat2; obtain ⟨va2, vc2, hv2⟩ := own_slice hown2; subst hv2; have HR3 : Hid (w7.ownsRow z.heap.size 24 3 (.slice va2 (s2.length + 1) vc2) (s2.length + 1) (spCells s2 ++ spCells [⟨x1, x2, x3⟩])) := hown2; have HB8 : Hid (Below z.heap.size z w7) := HB7.out.grown hg2 HB7.out.size (fun k hk => (own_block_lt HR2.out k hk).1); have h70 : w7.cell? ⟨G, 0, none⟩ = some (.int .u64 x1) := (HB8.out.cell (p := ⟨G, 0, none⟩) hG3).trans hqa; have h71 : w7.cell? ⟨G, 1, none⟩ = some (.int .u64 x2) := (HB8.out.cell (p := ⟨G, 1, none⟩) hG3).trans hqb; have h72 : w7.cell? ⟨G, 2, none⟩ = some (.int .i64 x3) := (HB8.out.cell (p := ⟨G, 2, none⟩) hG3).trans hqc; clear hown2 hg2 hat2 tok2 _t))
                  all_goals
                    go_wp2
                    go_roundw
                    case rel =>
                      have HBx : Below w.heap.size w w7 := HBz.out.trans (HB8.out.mono hz3)
                      exact ⟨(j + 1) + 1, s2 ++ [⟨x1, x2, x3⟩], va2, vc2, by omega, by go_num, by simp, by simp; omega, by show World.ownsRow _ _ _ _ _ _ _; rw [spCells_append, List.length_append]; exact own_base HR3.out (fun k hk => Nat.le_trans hz3 (own_block_lt HR3.out k hk).1), HE, HBx, HN2⟩
                    case measure => simp [intOf]; omega
                · have hlb : (x3 != 0) = true := by simpa using hlv
                  rw [if_neg (by simpa using hlv)] at HS
                  have HE : Hid (y = (((j + 1 : Nat) : Int), 111)) := HS
                  clear HS hlv
                  go_wp2_with fail
                  refine wp_region_belOf v2 (by kernel_rfl) (by kernel_rfl) ?_
                  intro hne
                  repeat go_big_quiet_step (fail)
                  refine wpQuiet_nil ?_
                  rintro _ ⟨v3, rfl⟩
                  go_wp2
                  go_ret2
                  exact ⟨ret_two HE.out, rel_end HB1.out v3⟩
              · obtain ⟨k, rfl⟩ : ∃ k, n = k + 1 := ⟨n - 1, by omega⟩
                obtain ⟨t, ht⟩ : ∃ t, st[k]? = some t := ⟨_, List.getElem?_eq_getElem (by omega)⟩
                obtain ⟨g, hoa, -⟩ := HSTK.out v k t ht
                have HTK : Hid (st.take (k + 1) = st.take k ++ [t]) := take_snoc ht
                have hk0 : ∀ W : Bel W1, W.w.cell? ⟨g, k * 3 + 1, none⟩ = some (.int .u64 t.e) := fun W => by
                  obtain ⟨g', e1, _, _, e2, _⟩ := HSTK.out W k t ht
                  rw [hoa] at e1
                  cases e1
                  exact e2
                have hd1 : decide (0 < k + 1) = true := by simp
                have hd2 : decide ((0 : Int) < (k : Int) + 1) = true := by rw [decide_eq_true_eq]; omega
                have hd3 : (k : Int) + 1 - 1 = (k : Int) := by omega
                have hd4 : (0 : Int) ≤ (k : Int) := by omega
                have hd5 : (k : Int) < (k : Int) + 1 := by omega
                have htb : t.b < x1 := HT.out t (List.mem_of_getElem? ht)
                subst hoa
                by_cases hpl : t.e < x1
                · have hplb : decide (t.e < x1) = true := by simpa using hpl
                  have HP2 : Hid (pop x1 st = pop x1 (st.take k)) := by show _ = _; rw [HP.out, HTK.out, pop_lt hpl]
                  clear hpl HP htb hn0 ht
                  go_wp2_with fail
                  refine wp_region_belOf v (by kernel_rfl) (by kernel_rfl) ?_
                  intro hne
                  repeat go_big_quiet_step (fail)
                  refine wpQuiet_nil ?_
                  rintro _ ⟨v2, rfl⟩
                  go_wp2
                  go_roundw
                  case rel => exact ⟨k, v2, by omega, rfl, rfl, HP2⟩
                  case measure => simp
                · have hplb : decide (t.e < x1) = false := by simpa using hpl
                  have HP2 : pop x1 st = st.take (k + 1) := by rw [HP.out, HTK.out, pop_ge hpl]
                  rw [HP2] at HS
                  have hsl2 : (st.take (k + 1)).length = k + 1 := by rw [List.length_take]; omega
                  have hst2 : (st.take (k + 1))[k]? = some t := by rw [List.getElem?_take_of_lt (by omega)]; exact ht
                  have hnst := nst_ref (x := ⟨x1, x2, x3⟩) hsl2 hst2 htb
                  rw [hnst] at HS
                  clear hpl HP hnst hn0 htb HP2 hst2
                  go_wp2_with fail
                  refine wp_region_belOf v (by kernel_rfl) (by kernel_rfl) ?_
                  intro hne
                  repeat go_big_quiet_step (fail)
                  refine wpQuiet_nil ?_
                  rintro _ ⟨v2, rfl⟩
                  by_cases hte : t.e ≤ x2
                  · have hteb : decide (t.e ≤ x2) = true := by simpa using hte
                    rw [if_neg (by simp [hte])] at HS
                    have HE : Hid (y = (((j + 1 : Nat) : Int), 111)) := HS
                    clear HS hte
                    go_wp2_with fail
                    refine wp_region_belOf v2 (by kernel_rfl) (by kernel_rfl) ?_
                    intro hne
                    repeat go_big_quiet_step (fail)
                    refine wpQuiet_nil ?_
                    rintro _ ⟨v3, rfl⟩
                    go_wp2
                    go_ret2
                    exact ⟨ret_two HE.out, rel_end HB1.out v3⟩
                  · have hteb : decide (t.e ≤ x2) = false := by simpa using hte
                    by_cases hlv : x3 = (k : Int) + 1
                    · have hlb : (x3 != (k : Int) + 1) = false := by simpa using hlv
                      rw [if_pos (by simp [hteb]; omega)] at HS
                      have HE : Hid (chkS (L.drop ((j + 1) + 1)) (pvAt L ((j + 1) + 1)) (st.take (k + 1) ++ [⟨x1, x2, x3⟩]) (((j + 1) + 1 : Nat) : Int) = y) := HS.symm
                      clear HS hlv hte
                      go_wp2_with fail
                      refine wp_region_belOf v2 (by kernel_rfl) (by kernel_rfl) ?_
                      intro hne
                      repeat go_big_quiet_step (fail)
                      refine wpQuiet_nil ?_
                      rintro _ ⟨v3, rfl⟩
                      have HO2 : Hid (W1.ownsRow w.heap.size 24 3 (.slice (some ⟨g, 0, none⟩) (st.take (k + 1)).length oc) (st.take (k + 1)).length (spCells (st.take (k + 1)))) := by
                        have := own_take HO1.out hn
                        rw [← spCells_take] at this
                        rw [hsl2]
                        exact this
                      have HN2 : Hid (∀ t ∈ st.take (k + 1) ++ [⟨x1, x2, x3⟩], ∃ p, pvAt L ((j + 1) + 1) = some p ∧ t.b ≤ p) := HNEW.out _ (fun t ht => HT.out t (List.mem_of_mem_take ht))
                      have hs2 : (st.take (k + 1)).length ≤ (j + 1) := by omega
                      have HSL2 : Hid (k + 1 = (st.take (k + 1)).length) := hsl2.symm
                      clear hsl2
                      rw [HSL2.out]
                      generalize st.take (k + 1) = s2 at *
                      generalize (some ⟨g, 0, none⟩ : Option Addr) = oa at *
                      clear hne HSTK
                      have hqa := hq0 v3
                      have hqb := hq1 v3
                      have hqc := hq2 v3
                      have hG3 : G < v3.w.heap.size := Nat.lt_of_lt_of_le hG v3.h.size
                      have hG4 : ¬ v3.w.heap.size = G := by omega
                      have hG5 : ¬ G = v3.w.heap.size := by omega
                      have hG6 : ¬ v3.w.heap.size + 1 = G := by omega
                      have hG7 : ¬ G = v3.w.heap.size + 1 := by omega
                      have hz3 : w.heap.size ≤ v3.w.heap.size := Nat.le_trans hW1 v3.h.size
                      have HO3 : Hid (v3.w.ownsRow w.heap.size 24 3 (.slice oa s2.length oc) s2.length (spCells s2)) := own_of_block HO2.out (fun k hk => v3.h.block k (own_block_lt HO2.out k hk).2)
                      have HBz : Hid (Below w.heap.size w v3.w) := rel_end HB1.out v3
                      go_wp2_with fail
                      clear hq0 hq1 hq2
                      generalize v3.w = z at *
                      have HNN : Hid (∀ W, Below z.heap.size z W → ∀ j u, (spCells s2)[j]? = some u → ∃ ad, oa = some ad ∧ W.cell? (ad.add j) = some u) := fun W hb => stk_news HO3.out hb
                      have hs8 : s2.length ≤ 8192 := by omega
                      have HLc : Hid ((spCells s2).length = s2.length * 3) := spCells_length _
                      obtain ⟨HW1, HW2, HW3⟩ := two_rows z ⟨x1, x2, x3⟩
                      have tok1 : True := trivial
                      have tok2 : True := trivial
                      go_region_held3 (fun W => W.cell? ⟨G, 0, none⟩ = some (.int .u64 x1) ∧ W.cell? ⟨G, 1, none⟩ = some (.int .u64 x2) ∧ W.cell? ⟨G, 2, none⟩ = some (.int .i64 x3)) (go_keep)
                        (first
                          | (have _t := tok1; refine step_app (by rfl) _ _ (by rfl) Try.underlying31 info24 rfl (by decide) z.heap.size (.slice (some ⟨z.heap.size, 0, none⟩) 0 0) 0 [] (by rfl) HW1.out.2 oa s2.length oc (spCells s2) (by rfl) HLc.out (HNN.out _ HW1.out.1) (spCells_one _) (by unfold maxLen; omega) (by omega) HW1.out.1.size ?_; intro v1 w6 hown1 hg1 _ hat1; obtain ⟨va1, vc1, hv1⟩ := own_slice hown1; subst hv1; rw [Nat.zero_add, List.nil_append] at hown1; rw [Nat.zero_add]; have HR1 : Hid (w6.ownsRow z.heap.size 24 3 (.slice va1 s2.length vc1) s2.length (spCells s2)) := hown1; have HB6 : Hid (Below z.heap.size z w6) := HW1.out.1.grown hg1 HW1.out.1.size (fun k hk => by simp only [Value.ownBlock, Option.some.injEq] at hk; omega); have h60 : w6.cell? ⟨G, 0, none⟩ = some (.int .u64 x1) := (HB6.out.cell (p := ⟨G, 0, none⟩) hG3).trans hqa; have h61 : w6.cell? ⟨G, 1, none⟩ = some (.int .u64 x2) := (HB6.out.cell (p := ⟨G, 1, none⟩) hG3).trans hqb; have h62 : w6.cell? ⟨G, 2, none⟩ = some (.int .i64 x3) := (HB6.out.cell (p := ⟨G, 2, none⟩) hG3).trans hqc; have hG6 : G < w6.heap.size := Nat.lt_of_lt_of_le hG3 HB6.out.size; have HB7 : Hid (Below z.heap.size z (w6.alloc (.cells #[.int .u64 x1, .int .u64 x2, .int .i64 x3] 24))) := HB6.out.alloc HB6.out.size _; have HR2 : Hid ((w6.alloc (.cells #[.int .u64 x1, .int .u64 x2, .int .i64 x3] 24)).ownsRow z.heap.size 24 3 (.slice va1 s2.length vc1) s2.length (spCells s2)) := own_of_block hown1 (fun k hk => Below.heap_alloc _ _ _ (own_block_lt hown1 k hk).2); have HN2x : Hid (∀ j u, (spCells [⟨x1, x2, x3⟩])[j]? = some u → ∃ ad, (some ⟨w6.heap.size, 0, none⟩ : Option Addr) = some ad ∧ (w6.alloc (.cells #[.int .u64 x1, .int .u64 x2, .int .i64 x3] 24)).cell? (ad.add j) = some u) := one_news w6 ⟨x1, x2, x3⟩; clear hown1 hg1 hat1 tok1 _t)
                          | (have _t := tok1; refine step_app (by rfl) _ _ (by rfl) Try.underlying31 info24 rfl (by decide) z.heap.size (.slice (some ⟨z.heap.size, 0, none⟩) 0 0) 0 [] (by rfl) HW2.out.2.1 oa s2.length oc (spCells s2) (by rfl) HLc.out (HNN.out _ HW2.out.1) (spCells_one _) (by unfold maxLen; omega) (by omega) HW2.out.1.size ?_; intro v1 w6 hown1 hg1 _ hat1; obtain ⟨va1, vc1, hv1⟩ := own_slice hown1; subst hv1; rw [Nat.zero_add, List.nil_append] at hown1; rw [Nat.zero_add]; have HB7 : Hid (Below z.heap.size z w6) := HW2.out.1.grown hg1 HW2.out.1.size (fun k hk => by simp only [Value.ownBlock, Option.some.injEq] at hk; omega); have h60 : w6.cell? ⟨G, 0, none⟩ = some (.int .u64 x1) := (HB7.out.cell (p := ⟨G, 0, none⟩) hG3).trans hqa; have h61 : w6.cell? ⟨G, 1, none⟩ = some (.int .u64 x2) := (HB7.out.cell (p := ⟨G, 1, none⟩) hG3).trans hqb; have h62 : w6.cell? ⟨G, 2, none⟩ = some (.int .i64 x3) := (HB7.out.cell (p := ⟨G, 2, none⟩) hG3).trans hqc; have HR2 : Hid (w6.ownsRow z.heap.size 24 3 (.slice va1 s2.length vc1) s2.length (spCells s2)) := hown1; have HN2x : Hid (∀ j u, (spCells [⟨x1, x2, x3⟩])[j]? = some u → ∃ ad, (some ⟨z.heap.size + 1, 0, none⟩ : Option Addr) = some ad ∧ w6.cell? (ad.add j) = some u) := one_far hg1 HW2.out.2.2 (by simp [Value.ownBlock]); clear hown1 hg1 hat1 tok1 _t)
                          | (have _t := tok1; refine step_app (by rfl) _ _ (by rfl) Try.underlying31 info24 rfl (by decide) z.heap.size (.slice (some ⟨z.heap.size + 1, 0, none⟩) 0 0) 0 [] (by rfl) HW3.out.2.1 oa s2.length oc (spCells s2) (by rfl) HLc.out (HNN.out _ HW3.out.1) (spCells_one _) (by unfold maxLen; omega) (by omega) HW3.out.1.size ?_; intro v1 w6 hown1 hg1 _ hat1; obtain ⟨va1, vc1, hv1⟩ := own_slice hown1; subst hv1; rw [Nat.zero_add, List.nil_append] at hown1; rw [Nat.zero_add]; have HB7 : Hid (Below z.heap.size z w6) := HW3.out.1.grown hg1 HW3.out.1.size (fun k hk => by simp only [Value.ownBlock, Option.some.injEq] at hk; omega); have h60 : w6.cell? ⟨G, 0, none⟩ = some (.int .u64 x1) := (HB7.out.cell (p := ⟨G, 0, none⟩) hG3).trans hqa; have h61 : w6.cell? ⟨G, 1, none⟩ = some (.int .u64 x2) := (HB7.out.cell (p := ⟨G, 1, none⟩) hG3).trans hqb; have h62 : w6.cell? ⟨G, 2, none⟩ = some (.int .i64 x3) := (HB7.out.cell (p := ⟨G, 2, none⟩) hG3).trans hqc; have HR2 : Hid (w6.ownsRow z.heap.size 24 3 (.slice va1 s2.length vc1) s2.length (spCells s2)) := hown1; have HN2x : Hid (∀ j u, (spCells [⟨x1, x2, x3⟩])[j]? = some u → ∃ ad, (some ⟨z.heap.size, 0, none⟩ : Option Addr) = some ad ∧ w6.cell? (ad.add j) = some u) := one_far hg1 HW3.out.2.2 (by simp [Value.ownBlock]); clear hown1 hg1 hat1 tok1 _t)
                          | (have _t := tok2; refine step_app (by rfl) _ _ (by rfl) Try.underlying31 info24 rfl (by decide) z.heap.size (.slice va1 s2.length vc1) s2.length (spCells s2) (by rfl) HR2.out _ 1 1 (spCells [⟨x1, x2, x3⟩]) (by rfl) (by rfl) HN2x.out (spCells_one _) (by unfold maxLen; omega) (by omega) HB7.out.size ?_; intro v2x w7 hown2 hg2 _ hat2; obtain ⟨va2, vc2, hv2⟩ := own_slice hown2; subst hv2; have HR3 : Hid (w7.ownsRow z.heap.size 24 3 (.slice va2 (s2.length + 1) vc2) (s2.length + 1) (spCells s2 ++ spCells [⟨x1, x2, x3⟩])) := hown2; have HB8 : Hid (Below z.heap.size z w7) := HB7.out.grown hg2 HB7.out.size (fun k hk => (own_block_lt HR2.out k hk).1); have h70 : w7.cell? ⟨G, 0, none⟩ = some (.int .u64 x1) := (HB8.out.cell (p := ⟨G, 0, none⟩) hG3).trans hqa; have h71 : w7.cell? ⟨G, 1, none⟩ = some (.int .u64 x2) := (HB8.out.cell (p := ⟨G, 1, none⟩) hG3).trans hqb; have h72 : w7.cell? ⟨G, 2, none⟩ = some (.int .i64 x3) := (HB8.out.cell (p := ⟨G, 2, none⟩) hG3).trans hqc; clear hown2 hg2 hat2 tok2 _t))
                      all_goals
                        go_wp2
                        go_roundw
                        case rel =>
                          have HBx : Below w.heap.size w w7 := HBz.out.trans (HB8.out.mono hz3)
                          exact ⟨(j + 1) + 1, s2 ++ [⟨x1, x2, x3⟩], va2, vc2, by omega, by go_num, by simp, by simp; omega, by show World.ownsRow _ _ _ _ _ _ _; rw [spCells_append, List.length_append]; exact own_base HR3.out (fun k hk => Nat.le_trans hz3 (own_block_lt HR3.out k hk).1), HE, HBx, HN2⟩
                        case measure => simp [intOf]; omega
                    · have hlb : (x3 != (k : Int) + 1) = true := by simpa using hlv
                      rw [if_neg (by simp [hteb]; omega)] at HS
                      have HE : Hid (y = (((j + 1 : Nat) : Int), 111)) := HS
                      clear HS hlv hte
                      go_wp2_with fail
                      refine wp_region_belOf v2 (by kernel_rfl) (by kernel_rfl) ?_
                      intro hne
                      repeat go_big_quiet_step (fail)
                      refine wpQuiet_nil ?_
                      rintro _ ⟨v3, rfl⟩
                      go_wp2
                      go_ret2
                      exact ⟨ret_two HE.out, rel_end HB1.out v3⟩
    · have HN : Hid (y = (0, 0)) := by
        show _ = _
        rw [← HG.out, List.drop_eq_nil_of_le (by omega)]
        cases pvAt L i <;> rfl
      go_wp2
      go_ret2
      exact ⟨ret_two HN.out, HB.out⟩

end Go.Proofs.Ytfhbfilmejegcaa
