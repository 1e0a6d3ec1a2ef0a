/- Attributes with a further one, by the document. -/
import Derived.Test.YtmifejkddgcbmabGreatB09
namespace Go.Proofs.YtmifejkddgcbmabGreat
open Go.RowKit
set_option linter.unusedVariables false
set_option linter.unusedSimpArgs false
attribute [local go_sem] Bel.cell Bel.fz

def sliceAt2 (b o c k : Nat) : Option Addr := if c = k then some ⟨b, o, none⟩ else some ⟨b, o + k * 2, none⟩
theorem ite_sliceAt2 (b o c k : Nat) : (if c = k then some (⟨b, o, none⟩ : Addr) else some ⟨b, o + k * 2, none⟩) = sliceAt2 b o c k := rfl
theorem sliceAt2_zero (b o c : Nat) : sliceAt2 b o c 0 = some ⟨b, o, none⟩ := by unfold sliceAt2; split <;> simp
attribute [local go_sem] ite_sliceAt2 sliceAt2_zero

theorem AttrsR.takeA {w : World} {R : Nat → Prop} {a : Option Addr} {l : List Att} (h : AttrsR w R a l) (k : Nat) : AttrsR w R a (l.take k) := by
  intro i p hp
  by_cases e : i < k
  · rw [List.getElem?_take_of_lt e] at hp
    exact h i p hp
  · rw [List.getElem?_eq_none (by simp; omega)] at hp; cases hp
theorem AttrsR.dropA {w : World} {R : Nat → Prop} {b o c : Nat} {l : List Att} (h : AttrsR w R (some ⟨b, o, none⟩) l) (hc : l.length ≤ c) (k : Nat) : AttrsR w R (sliceAt2 b o c k) (l.drop k) := by
  intro i p hp
  rw [List.getElem?_drop] at hp
  have hlt := (List.getElem?_eq_some_iff.1 hp).1
  obtain ⟨b', o', e, hR, h1, h2⟩ := h (k + i) p hp
  simp only [Option.some.injEq, Addr.mk.injEq, and_true] at e
  obtain ⟨rfl, rfl⟩ := e
  refine ⟨b, o + k * 2, by unfold sliceAt2; rw [if_neg (by omega)], hR, ?_, ?_⟩
  · rw [← h1]; congr 2; omega
  · rw [← h2]; congr 2; omega
theorem AttrsR.newsA {w : World} {R : Nat → Prop} {a : Option Addr} {l : List Att} (h : AttrsR w R a l) : ∀ j u, (attrCells l)[j]? = some u → ∃ ad, a = some ad ∧ w.cell? (ad.add j) = some u := by
  intro j u hu
  have hj := (List.getElem?_eq_some_iff.1 hu).1
  rw [attrCells_length] at hj
  obtain ⟨p, hp⟩ : ∃ p, l[j / 2]? = some p := ⟨_, List.getElem?_eq_getElem (by omega)⟩
  obtain ⟨b, o, rfl, -, c1, c2⟩ := h _ p hp
  obtain ⟨e1, e2⟩ := attrCells_get l _ p hp
  refine ⟨_, rfl, ?_⟩
  rw [addr_plus]
  rcases Nat.mod_two_eq_zero_or_one j with hm | hm
  · rw [show j / 2 * 2 = j by omega] at e1 c1
    rw [c1, ← e1]; exact hu
  · rw [show j / 2 * 2 + 1 = j by omega] at e2
    rw [show o + j / 2 * 2 + 1 = o + j by omega] at c2
    rw [c2, ← e2]; exact hu

/-- What 'with' tells: k is the place. -/
def WithPost (w : World) (la : Option Addr) (lcap : Nat) (L : List Att) (a : Att) (e : Ending) (w' : World) : Prop := Below w.heap.size w w' ∧ ∃ k, k ≤ L.length ∧ (∀ i p, i < k → L[i]? = some p → ltA p a = true) ∧ (∀ p, L[k]? = some p → ltA p a = false) ∧
  ((∃ p, L[k]? = some p ∧ p.1.toList = a.1.toList) ∧ e = .returned (.tuple #[.slice la L.length lcap, .bool false]) ∨
   (∀ p, L[k]? = some p → p.1.toList ≠ a.1.toList) ∧ ∃ ma mcap, e = .returned (.tuple #[.slice ma (L.length + 1) mcap, .bool true]) ∧ w'.ownsRow w.heap.size 84 2 (.slice ma (L.length + 1) mcap) (L.length + 1) (attrCells (L.take k ++ a :: L.drop k)))

set_option maxRecDepth 100000 in
set_option maxHeartbeats 4000000 in
theorem qwith_some (w : World) (R : Nat → Prop) (g o : Nat) (lcap : Nat) (L : List Att) (hL : AttrsR w R (some ⟨g, o, none⟩) L) (hR : ∀ k, R k → k < w.heap.size) (hn : L.length ≤ 32) (hcap : L.length ≤ lcap) (a1 a2 : ByteArray) :
    Calls Tryz.prog 109 #[.slice (some ⟨g, o, none⟩) L.length lcap, .agg #[.string a1, .string a2]] w (WithPost w (some ⟨g, o, none⟩) lcap L (a1, a2)) := by
  have HL : Hid (∀ W, Below w.heap.size w W → AttrsR W R (some ⟨g, o, none⟩) L) := fun W hb => hL.to (fun _ h => h) (fun b o hr => hb.cell (p := ⟨b, o, none⟩) (hR b hr))
  have HRR : Hid (∀ k, R k → k < w.heap.size) := hR
  have HB1 : Hid (Below w.heap.size w (w.alloc (.cells #[.string a1, .string a2] 84))) := below_new w _
  have m1 : (w.alloc (.cells #[.string a1, .string a2] 84)).cell? ⟨w.heap.size, 0, none⟩ = some (.string a1) := by rw [(isCells_new w _ 84).cell]; rfl
  have m2 : (w.alloc (.cells #[.string a1, .string a2] 84)).cell? ⟨w.heap.size, 1, none⟩ = some (.string a2) := by rw [(isCells_new w _ 84).cell]; rfl
  have m3 : w.heap.size < (w.alloc (.cells #[.string a1, .string a2] 84)).heap.size := by simp
  clear hL hR
  go_enter Tryz.func109, Tryz.ntmps109
  go_wp2
  generalize (w.alloc (.cells #[.string a1, .string a2] 84)) = w1 at *
  go_loopw [6] (fun v wr => ∃ j : Nat, j ≤ L.length ∧ v = .int .i64 (j : Int) ∧ Hid (∀ i p, i < j → L[i]? = some p → ltA p (a1, a2) = true) ∧ Hid (Below w1.heap.size w1 wr)) (fun v _ => L.length - (intOf v).toNat)
  case atStart => exact ⟨0, by omega, rfl, fun i p h => absurd h (by omega), Below.refl _ _⟩
  case round =>
    obtain ⟨j, hj, rfl, HJ, HBr⟩ := hrel
    have n1 : wr.cell? ⟨w.heap.size, 0, none⟩ = some (.string a1) := (HBr.out.cell (p := ⟨w.heap.size, 0, none⟩) m3).trans m1
    have n2 : wr.cell? ⟨w.heap.size, 1, none⟩ = some (.string a2) := (HBr.out.cell (p := ⟨w.heap.size, 1, none⟩) m3).trans m2
    have n3 : w.heap.size < wr.heap.size := Nat.lt_of_lt_of_le m3 HBr.out.size
    by_cases hlt : j < L.length
    · obtain ⟨q, hq⟩ : ∃ q, L[j]? = some q := ⟨_, List.getElem?_eq_getElem hlt⟩
      have HW : Hid (Below w.heap.size w wr) := HB1.out.trans (HBr.out.mono HB1.out.size)
      obtain ⟨g', o', e, hRg, d1, d2⟩ := HL.out _ HW.out j q hq
      simp only [Option.some.injEq, Addr.mk.injEq, and_true] at e
      obtain ⟨rfl, rfl⟩ := e
      have hgl : g < wr.heap.size := Nat.lt_of_lt_of_le (HRR.out g hRg) HW.out.size
      have HQ : Hid (L[j]? = some q) := hq
      obtain ⟨q1, q2⟩ := q
      simp only at d1 d2
      have i0 : (0 : Int) ≤ (j : Int) := by omega
      have i1 : (j : Int) < (L.length : Int) := by omega
      clear m1 m2 m3 hq hRg
      cases hcmp : Op.bytesLess q1.toList a1.toList
      · have HLT : Hid (ltA (q1, q2) (a1, a2) = false) := hcmp
        have HKL : Hid (∀ p, L[j]? = some p → ltA p (a1, a2) = false) := fun p hp => by rw [HQ.out] at hp; cases hp; exact hcmp
        go_wp2
        refine wp_region_bel (by kernel_rfl) (by kernel_rfl) ?_
        intro hne
        repeat go_big_quiet_step (fail)
        refine wpQuiet_nil ?_
        rintro _ ⟨u, rfl⟩
        have HBu : Hid (Below wr.heap.size wr u.w) := u.h
        have e1 : u.w.cell? ⟨w.heap.size, 0, none⟩ = some (.string a1) := (HBu.out.cell (p := ⟨w.heap.size, 0, none⟩) n3).trans n1
        have e2 : u.w.cell? ⟨w.heap.size, 1, none⟩ = some (.string a2) := (HBu.out.cell (p := ⟨w.heap.size, 1, none⟩) n3).trans n2
        have e3 : u.w.cell? ⟨g, o + j * 2, none⟩ = some (.string q1) := (HBu.out.cell (p := ⟨g, o + j * 2, none⟩) hgl).trans d1
        have e4 : u.w.cell? ⟨g, o + j * 2 + 1, none⟩ = some (.string q2) := (HBu.out.cell (p := ⟨g, o + j * 2 + 1, none⟩) hgl).trans d2
        have e5 : w.heap.size < u.w.heap.size := Nat.lt_of_lt_of_le n3 HBu.out.size
        have e6 : g < u.w.heap.size := Nat.lt_of_lt_of_le hgl HBu.out.size
        have HWu : Hid (Below w.heap.size w u.w) := HW.out.trans (HBu.out.mono HW.out.size)
        clear n1 n2 n3 d1 d2 hgl
        generalize u.w = wu at *
        clear hcmp
        cases heq : (q1.toList == a1.toList)
        · have HNE : Hid (∀ p, L[j]? = some p → p.1.toList ≠ a1.toList) := fun p hp => by rw [HQ.out] at hp; cases hp; exact beq_eq_false_iff_ne.1 heq
          go_wp2
          refine wp_region_bel (by kernel_rfl) (by kernel_rfl) ?_
          intro hne
          repeat go_big_quiet_step (fail)
          refine wpQuiet_nil ?_
          rintro _ ⟨u2, rfl⟩
          have HW2 : Hid (Below w.heap.size w u2.w) := HWu.out.trans (u2.h.mono HWu.out.size)
          have f1 : u2.w.cell? ⟨w.heap.size, 0, none⟩ = some (.string a1) := (u2.h.cell (p := ⟨w.heap.size, 0, none⟩) e5).trans e1
          have f2 : u2.w.cell? ⟨w.heap.size, 1, none⟩ = some (.string a2) := (u2.h.cell (p := ⟨w.heap.size, 1, none⟩) e5).trans e2
          have f5 : w.heap.size < u2.w.heap.size := Nat.lt_of_lt_of_le e5 u2.h.size
          clear e1 e2 e3 e4 e5 e6
          generalize u2.w = w5 at *
          have HA5 : Hid (∀ W, Below w5.heap.size w5 W → AttrsR W R (some ⟨g, o, none⟩) L) := fun W hb => HL.out W (HW2.out.trans (hb.mono HW2.out.size))
          have hb6 : Below w5.heap.size w5 (w5.alloc (.cells #[] 84)) := below_new w5 _
          have HN1 : Hid (∀ m u, (attrCells (L.take j))[m]? = some u → ∃ ad, some (⟨g, o, none⟩ : Addr) = some ad ∧ (w5.alloc (.cells #[] 84)).cell? (ad.add m) = some u) := ((HA5.out _ hb6).takeA j).newsA
          have HN2 : Hid (∀ W, Below w5.heap.size w5 W → ∀ m u, (attrCells (L.drop j))[m]? = some u → ∃ ad, some (⟨g, o + j * 2, none⟩ : Addr) = some ad ∧ W.cell? (ad.add m) = some u) := fun W hb => by
            have := ((HA5.out _ hb).dropA hcap j).newsA
            rwa [show sliceAt2 g o lcap j = some ⟨g, o + j * 2, none⟩ by unfold sliceAt2; rw [if_neg (by omega)]] at this
          have hT1 : Hid ((attrCells (L.take j)).length = j * 2) := by show _ = _; rw [attrCells_length]; simp; omega
          have hT2 : Hid ((attrCells (L.drop j)).length = (L.length - j) * 2) := by show _ = _; rw [attrCells_length]; simp
          have HB6 : Hid (Below w5.heap.size w5 (w5.alloc (.cells #[] 84))) := hb6
          have HAP : Hid (attrCells (L.take j ++ (a1, a2) :: L.drop j) = attrCells (L.take j) ++ attrCells [(a1, a2)] ++ attrCells (L.drop j)) := by
            show _ = _
            rw [← attrCells_app, ← attrCells_app]; simp
          have i2 : (j : Int) ≤ (L.length : Int) := by omega
          have i3 : (j : Int) ≤ (lcap : Int) := by omega
          have i4 : (L.length : Int) ≤ (lcap : Int) := by omega
          have i5 : ((L.length : Int) - (j : Int)).toNat = L.length - j := by omega
          clear hb6 HA5 heq
          have tok1 : True := trivial
          have tok2 : True := trivial
          have tok3 : True := trivial
          go_wp2_with (at_builtin; first
            | (have _t := tok1; refine wpList_app rfl _ _ rfl Tryz.underlying32 infoA rfl (by decide) w5.heap.size (.slice (some ⟨w5.heap.size, 0, none⟩) 0 0) 0 [] rfl (own_new w5 84 2) (some ⟨g, o, none⟩) j lcap (attrCells (L.take j)) rfl hT1.out HN1.out (attrCells_one _) (by unfold maxLen; omega) (by omega) (by simp) ?_; intro v1 w6 hown1 hg1 _ hat1; clear tok1 _t; obtain ⟨va1, vc1, hv1⟩ := own_slice hown1; subst hv1; rw [Nat.zero_add, List.nil_append] at hown1; rw [Nat.zero_add]; have HO1 : Hid (w6.ownsRow w5.heap.size 84 2 (.slice va1 j vc1) j (attrCells (L.take j))) := hown1; have HB7 : Hid (Below w5.heap.size w5 w6) := HB6.out.grown hg1 (by simp) (fun k hk => by simp only [Value.ownBlock, Option.some.injEq] at hk; omega); have g1 : w6.cell? ⟨w.heap.size, 0, none⟩ = some (.string a1) := (HB7.out.cell (p := ⟨w.heap.size, 0, none⟩) f5).trans f1; have g2 : w6.cell? ⟨w.heap.size, 1, none⟩ = some (.string a2) := (HB7.out.cell (p := ⟨w.heap.size, 1, none⟩) f5).trans f2; have g5 : w.heap.size < w6.heap.size := Nat.lt_of_lt_of_le f5 HB7.out.size; clear hown1 hg1 hat1 f1 f2; have hs6 := HB7.out.size)
            | (have _t := tok2; refine wpList_app rfl _ _ rfl Tryz.underlying32 infoA rfl (by decide) w5.heap.size (.slice va1 j vc1) j (attrCells (L.take j)) rfl (own_of_block HO1.out (fun k hk => Below.heap_alloc _ _ _ (own_block_lt HO1.out k hk).2)) (some ⟨w6.heap.size, 0, none⟩) 1 1 (attrCells [(a1, a2)]) rfl rfl (by have := news_new w6 #[.string a1, .string a2] 84; simpa [attrCells] using this) (attrCells_one _) (by unfold maxLen; omega) (by omega) (by simp; omega) ?_; intro v2 w7 hown2 hg2 _ hat2; clear tok2 _t; obtain ⟨va2, vc2, hv2⟩ := own_slice hown2; subst hv2; have HO2 : Hid (w7.ownsRow w5.heap.size 84 2 (.slice va2 (j + 1) vc2) (j + 1) (attrCells (L.take j) ++ attrCells [(a1, a2)])) := hown2; have HB8 : Hid (Below w5.heap.size w5 w7) := (HB7.out.trans ((below_new w6 _).mono hs6)).grown hg2 (by simp; omega) (fun k hk => (own_block_lt HO1.out k hk).1); clear hown2 hg2 hat2 g1 g2 g5; have hs7 := HB8.out.size)
            | (have _t := tok3; refine wpList_app rfl _ _ rfl Tryz.underlying32 infoA rfl (by decide) w5.heap.size (.slice va2 (j + 1) vc2) (j + 1) (attrCells (L.take j) ++ attrCells [(a1, a2)]) rfl HO2.out (some ⟨g, o + j * 2, none⟩) (L.length - j) (lcap - j) (attrCells (L.drop j)) rfl hT2.out (HN2.out _ HB8.out) (attrCells_one _) (by unfold maxLen; omega) (by omega) hs7 ?_; intro v3 w8 hown3 hg3 _ hat3; clear tok3 _t; obtain ⟨va3, vc3, hv3⟩ := own_slice hown3; subst hv3; rw [← HAP.out] at hown3; have hNN : j + 1 + (L.length - j) = L.length + 1 := (by omega); rw [hNN] at hown3; rw [hNN]; have HO3 : Hid (w8.ownsRow w5.heap.size 84 2 (.slice va3 (L.length + 1) vc3) (L.length + 1) (attrCells (L.take j ++ (a1, a2) :: L.drop j))) := hown3; have HB9 : Hid (Below w5.heap.size w5 w8) := HB8.out.grown hg3 hs7 (fun k hk => (own_block_lt HO2.out k hk).1); clear hown3 hg3 hat3 hNN))
          go_ret2
          exact ⟨HW2.out.trans (HB9.out.mono HW2.out.size), j, by omega, HJ.out, HKL.out, .inr ⟨HNE.out, _, _, rfl, World.ownsRow.mono HO3.out HW2.out.size⟩⟩
        · have HEQ : Hid (q1.toList = a1.toList) := eq_of_beq heq
          go_wp2
          refine wp_region_bel (by kernel_rfl) (by kernel_rfl) ?_
          intro hne
          repeat go_big_quiet_step (fail)
          refine wpQuiet_nil ?_
          rintro _ ⟨u2, rfl⟩
          have HW2 : Hid (Below w.heap.size w u2.w) := HWu.out.trans (u2.h.mono HWu.out.size)
          go_wp2
          go_ret2
          exact ⟨HW2.out, j, by omega, HJ.out, HKL.out, .inl ⟨⟨_, HQ.out, HEQ.out⟩, rfl⟩⟩
      · go_wp2
        refine wp_region_bel (by kernel_rfl) (by kernel_rfl) ?_
        intro hne
        repeat go_big_quiet_step (fail)
        refine wpQuiet_nil ?_
        rintro _ ⟨u, rfl⟩
        go_wp2
        refine ⟨⟨j + 1, by omega, by go_num, fun i p hi hp => ?_, HBr.out.trans (u.h.mono HBr.out.size)⟩, ?_⟩
        · by_cases e : i = j
          · subst e
            have := HQ.out
            rw [hp] at this
            cases this
            exact hcmp
          · exact HJ.out i p (by omega) hp
        · simp [intOf]; omega
    · have hje : j = L.length := by omega
      have t0 : decide ((j : Int) < (L.length : Int)) = false := by simp; omega
      have t9 : ¬ (j : Int) < (L.length : Int) := by omega
      have HKL : Hid (∀ p, L[j]? = some p → ltA p (a1, a2) = false) := fun p hp => by rw [List.getElem?_eq_none (by omega)] at hp; cases hp
      have HNE : Hid (∀ p, L[j]? = some p → p.1.toList ≠ a1.toList) := fun p hp => by rw [List.getElem?_eq_none (by omega)] at hp; cases hp
      have HW : Hid (Below w.heap.size w wr) := HB1.out.trans (HBr.out.mono HB1.out.size)
      clear m1 m2 m3 hje
      go_wp2
      refine wp_region_bel (by kernel_rfl) (by kernel_rfl) ?_
      intro hne
      repeat go_big_quiet_step (fail)
      refine wpQuiet_nil ?_
      rintro _ ⟨u, rfl⟩
      have HWu : Hid (Below w.heap.size w u.w) := HW.out.trans (u.h.mono HW.out.size)
      have e1 : u.w.cell? ⟨w.heap.size, 0, none⟩ = some (.string a1) := (u.h.cell (p := ⟨w.heap.size, 0, none⟩) n3).trans n1
      have e2 : u.w.cell? ⟨w.heap.size, 1, none⟩ = some (.string a2) := (u.h.cell (p := ⟨w.heap.size, 1, none⟩) n3).trans n2
      have e5 : w.heap.size < u.w.heap.size := Nat.lt_of_lt_of_le n3 u.h.size
      clear n1 n2 n3
      generalize u.w = wu at *
      go_wp2
      refine wp_region_bel (by kernel_rfl) (by kernel_rfl) ?_
      intro hne
      repeat go_big_quiet_step (fail)
      refine wpQuiet_nil ?_
      rintro _ ⟨u2, rfl⟩
      have HW2 : Hid (Below w.heap.size w u2.w) := HWu.out.trans (u2.h.mono HWu.out.size)
      have f1 : u2.w.cell? ⟨w.heap.size, 0, none⟩ = some (.string a1) := (u2.h.cell (p := ⟨w.heap.size, 0, none⟩) e5).trans e1
      have f2 : u2.w.cell? ⟨w.heap.size, 1, none⟩ = some (.string a2) := (u2.h.cell (p := ⟨w.heap.size, 1, none⟩) e5).trans e2
      have f5 : w.heap.size < u2.w.heap.size := Nat.lt_of_lt_of_le e5 u2.h.size
      clear e1 e2 e5
      generalize u2.w = w5 at *
      have HA5 : Hid (∀ W, Below w5.heap.size w5 W → AttrsR W R (some ⟨g, o, none⟩) L) := fun W hb => HL.out W (HW2.out.trans (hb.mono HW2.out.size))
      have hb6 : Below w5.heap.size w5 (w5.alloc (.cells #[] 84)) := below_new w5 _
      have HN1 : Hid (∀ m u, (attrCells (L.take j))[m]? = some u → ∃ ad, some (⟨g, o, none⟩ : Addr) = some ad ∧ (w5.alloc (.cells #[] 84)).cell? (ad.add m) = some u) := ((HA5.out _ hb6).takeA j).newsA
      have HN2 : Hid (∀ W, Below w5.heap.size w5 W → ∀ m u, (attrCells (L.drop j))[m]? = some u → ∃ ad, sliceAt2 g o lcap j = some ad ∧ W.cell? (ad.add m) = some u) := fun W hb => ((HA5.out _ hb).dropA hcap j).newsA
      have hT1 : Hid ((attrCells (L.take j)).length = j * 2) := by show _ = _; rw [attrCells_length]; simp; omega
      have hT2 : Hid ((attrCells (L.drop j)).length = (L.length - j) * 2) := by show _ = _; rw [attrCells_length]; simp
      have HB6 : Hid (Below w5.heap.size w5 (w5.alloc (.cells #[] 84))) := hb6
      have HAP : Hid (attrCells (L.take j ++ (a1, a2) :: L.drop j) = attrCells (L.take j) ++ attrCells [(a1, a2)] ++ attrCells (L.drop j)) := by
          show _ = _
          rw [← attrCells_app, ← attrCells_app]; simp
      have i2 : (j : Int) ≤ (L.length : Int) := by omega
      have i3 : (j : Int) ≤ (lcap : Int) := by omega
      have i4 : (L.length : Int) ≤ (lcap : Int) := by omega
      have i5 : ((L.length : Int) - (j : Int)).toNat = L.length - j := by omega
      clear hb6 HA5
      have tok1 : True := trivial
      have tok2 : True := trivial
      have tok3 : True := trivial
      go_wp2_with (at_builtin; first
          | (have _t := tok1; refine wpList_app rfl _ _ rfl Tryz.underlying32 infoA rfl (by decide) w5.heap.size (.slice (some ⟨w5.heap.size, 0, none⟩) 0 0) 0 [] rfl (own_new w5 84 2) (some ⟨g, o, none⟩) j lcap (attrCells (L.take j)) rfl hT1.out HN1.out (attrCells_one _) (by unfold maxLen; omega) (by omega) (by simp) ?_; intro v1 w6 hown1 hg1 _ hat1; clear tok1 _t; obtain ⟨va1, vc1, hv1⟩ := own_slice hown1; subst hv1; rw [Nat.zero_add, List.nil_append] at hown1; rw [Nat.zero_add]; have HO1 : Hid (w6.ownsRow w5.heap.size 84 2 (.slice va1 j vc1) j (attrCells (L.take j))) := hown1; have HB7 : Hid (Below w5.heap.size w5 w6) := HB6.out.grown hg1 (by simp) (fun k hk => by simp only [Value.ownBlock, Option.some.injEq] at hk; omega); have g1 : w6.cell? ⟨w.heap.size, 0, none⟩ = some (.string a1) := (HB7.out.cell (p := ⟨w.heap.size, 0, none⟩) f5).trans f1; have g2 : w6.cell? ⟨w.heap.size, 1, none⟩ = some (.string a2) := (HB7.out.cell (p := ⟨w.heap.size, 1, none⟩) f5).trans f2; have g5 : w.heap.size < w6.heap.size := Nat.lt_of_lt_of_le f5 HB7.out.size; clear hown1 hg1 hat1 f1 f2; have hs6 := HB7.out.size)
          | (have _t := tok2; refine wpList_app rfl _ _ rfl Tryz.underlying32 infoA rfl (by decide) w5.heap.size (.slice va1 j vc1) j (attrCells (L.take j)) rfl (own_of_block HO1.out (fun k hk => Below.heap_alloc _ _ _ (own_block_lt HO1.out k hk).2)) (some ⟨w6.heap.size, 0, none⟩) 1 1 (attrCells [(a1, a2)]) rfl rfl (by have := news_new w6 #[.string a1, .string a2] 84; simpa [attrCells] using this) (attrCells_one _) (by unfold maxLen; omega) (by omega) (by simp; omega) ?_; intro v2 w7 hown2 hg2 _ hat2; clear tok2 _t; obtain ⟨va2, vc2, hv2⟩ := own_slice hown2; subst hv2; have HO2 : Hid (w7.ownsRow w5.heap.size 84 2 (.slice va2 (j + 1) vc2) (j + 1) (attrCells (L.take j) ++ attrCells [(a1, a2)])) := hown2; have HB8 : Hid (Below w5.heap.size w5 w7) := (HB7.out.trans ((below_new w6 _).mono hs6)).grown hg2 (by simp; omega) (fun k hk => (own_block_lt HO1.out k hk).1); clear hown2 hg2 hat2 g1 g2 g5; have hs7 := HB8.out.size)
          | (have _t := tok3; refine wpList_app rfl _ _ rfl Tryz.underlying32 infoA rfl (by decide) w5.heap.size (.slice va2 (j + 1) vc2) (j + 1) (attrCells (L.take j) ++ attrCells [(a1, a2)]) rfl HO2.out (sliceAt2 g o lcap j) (L.length - j) (lcap - j) (attrCells (L.drop j)) rfl hT2.out (HN2.out _ HB8.out) (attrCells_one _) (by unfold maxLen; omega) (by omega) hs7 ?_; intro v3 w8 hown3 hg3 _ hat3; clear tok3 _t; obtain ⟨va3, vc3, hv3⟩ := own_slice hown3; subst hv3; rw [← HAP.out] at hown3; have hNN : j + 1 + (L.length - j) = L.length + 1 := (by omega); rw [hNN] at hown3; rw [hNN]; have HO3 : Hid (w8.ownsRow w5.heap.size 84 2 (.slice va3 (L.length + 1) vc3) (L.length + 1) (attrCells (L.take j ++ (a1, a2) :: L.drop j))) := hown3; have HB9 : Hid (Below w5.heap.size w5 w8) := HB8.out.grown hg3 hs7 (fun k hk => (own_block_lt HO2.out k hk).1); clear hown3 hg3 hat3 hNN))
      go_ret2
      exact ⟨HW2.out.trans (HB9.out.mono HW2.out.size), j, by omega, HJ.out, HKL.out, .inr ⟨HNE.out, _, _, rfl, World.ownsRow.mono HO3.out HW2.out.size⟩⟩

set_option maxRecDepth 100000 in
set_option maxHeartbeats 4000000 in
theorem qwith_none (w : World) (a1 a2 : ByteArray) :
    Calls Tryz.prog 109 #[.slice none 0 0, .agg #[.string a1, .string a2]] w (WithPost w none 0 [] (a1, a2)) := by
  have HB1 : Hid (Below w.heap.size w (w.alloc (.cells #[.string a1, .string a2] 84))) := below_new w _
  have m1 : (w.alloc (.cells #[.string a1, .string a2] 84)).cell? ⟨w.heap.size, 0, none⟩ = some (.string a1) := by rw [(isCells_new w _ 84).cell]; rfl
  have m2 : (w.alloc (.cells #[.string a1, .string a2] 84)).cell? ⟨w.heap.size, 1, none⟩ = some (.string a2) := by rw [(isCells_new w _ 84).cell]; rfl
  have m3 : w.heap.size < (w.alloc (.cells #[.string a1, .string a2] 84)).heap.size := by simp
  go_enter Tryz.func109, Tryz.ntmps109
  go_wp2
  generalize (w.alloc (.cells #[.string a1, .string a2] 84)) = w1 at *
  go_loopw [6] (fun v wr => v = .int .i64 0 ∧ Hid (Below w1.heap.size w1 wr)) (fun v _ => 0)
  case atStart => exact ⟨rfl, Below.refl _ _⟩
  case round =>
    obtain ⟨rfl, HBr⟩ := hrel
    have n1 : wr.cell? ⟨w.heap.size, 0, none⟩ = some (.string a1) := (HBr.out.cell (p := ⟨w.heap.size, 0, none⟩) m3).trans m1
    have n2 : wr.cell? ⟨w.heap.size, 1, none⟩ = some (.string a2) := (HBr.out.cell (p := ⟨w.heap.size, 1, none⟩) m3).trans m2
    have n3 : w.heap.size < wr.heap.size := Nat.lt_of_lt_of_le m3 HBr.out.size
    have HW : Hid (Below w.heap.size w wr) := HB1.out.trans (HBr.out.mono HB1.out.size)
    clear m1 m2 m3
    go_wp2
    refine wp_region_bel (by kernel_rfl) (by kernel_rfl) ?_
    intro hne
    repeat go_big_quiet_step (fail)
    refine wpQuiet_nil ?_
    rintro _ ⟨u, rfl⟩
    have HWu : Hid (Below w.heap.size w u.w) := HW.out.trans (u.h.mono HW.out.size)
    have e1 : u.w.cell? ⟨w.heap.size, 0, none⟩ = some (.string a1) := (u.h.cell (p := ⟨w.heap.size, 0, none⟩) n3).trans n1
    have e2 : u.w.cell? ⟨w.heap.size, 1, none⟩ = some (.string a2) := (u.h.cell (p := ⟨w.heap.size, 1, none⟩) n3).trans n2
    have e5 : w.heap.size < u.w.heap.size := Nat.lt_of_lt_of_le n3 u.h.size
    clear n1 n2 n3
    generalize u.w = wu at *
    go_wp2
    refine wp_region_bel (by kernel_rfl) (by kernel_rfl) ?_
    intro hne
    repeat go_big_quiet_step (fail)
    refine wpQuiet_nil ?_
    rintro _ ⟨u2, rfl⟩
    have HW2 : Hid (Below w.heap.size w u2.w) := HWu.out.trans (u2.h.mono HWu.out.size)
    have f1 : u2.w.cell? ⟨w.heap.size, 0, none⟩ = some (.string a1) := (u2.h.cell (p := ⟨w.heap.size, 0, none⟩) e5).trans e1
    have f2 : u2.w.cell? ⟨w.heap.size, 1, none⟩ = some (.string a2) := (u2.h.cell (p := ⟨w.heap.size, 1, none⟩) e5).trans e2
    have f5 : w.heap.size < u2.w.heap.size := Nat.lt_of_lt_of_le e5 u2.h.size
    clear e1 e2 e5
    generalize u2.w = w5 at *
    have HB6 : Hid (Below w5.heap.size w5 (w5.alloc (.cells #[] 84))) := below_new w5 _
    have HAP : Hid (attrCells (([] : List Att).take 0 ++ (a1, a2) :: ([] : List Att).drop 0) = attrCells [(a1, a2)]) := rfl
    have tok1 : True := trivial
    have tok2 : True := trivial
    have tok3 : True := trivial
    go_wp2_with (at_builtin; first
      | (have _t := tok1; refine wpList_app rfl _ _ rfl Tryz.underlying32 infoA rfl (by decide) w5.heap.size (.slice (some ⟨w5.heap.size, 0, none⟩) 0 0) 0 [] rfl (own_new w5 84 2) none 0 0 [] rfl rfl (fun m u h => by cases h) (fun u h => by cases h) (by unfold maxLen; omega) (by omega) (by simp) ?_; intro v1 w6 hown1 hg1 _ hat1; clear tok1 _t; obtain ⟨va1, vc1, hv1⟩ := own_slice hown1; subst hv1; have HO1 : Hid (w6.ownsRow w5.heap.size 84 2 (.slice va1 0 vc1) 0 []) := hown1; have HB7 : Hid (Below w5.heap.size w5 w6) := HB6.out.grown hg1 (by simp) (fun k hk => by simp only [Value.ownBlock, Option.some.injEq] at hk; omega); have g1 : w6.cell? ⟨w.heap.size, 0, none⟩ = some (.string a1) := (HB7.out.cell (p := ⟨w.heap.size, 0, none⟩) f5).trans f1; have g2 : w6.cell? ⟨w.heap.size, 1, none⟩ = some (.string a2) := (HB7.out.cell (p := ⟨w.heap.size, 1, none⟩) f5).trans f2; have g5 : w.heap.size < w6.heap.size := Nat.lt_of_lt_of_le f5 HB7.out.size; clear hown1 hg1 hat1 f1 f2; have hs6 := HB7.out.size)
      | (have _t := tok2; refine wpList_app rfl _ _ rfl Tryz.underlying32 infoA rfl (by decide) w5.heap.size (.slice va1 0 vc1) 0 [] rfl (own_of_block HO1.out (fun k hk => Below.heap_alloc _ _ _ (own_block_lt HO1.out k hk).2)) (some ⟨w6.heap.size, 0, none⟩) 1 1 (attrCells [(a1, a2)]) rfl rfl (by have := news_new w6 #[.string a1, .string a2] 84; simpa [attrCells] using this) (attrCells_one _) (by unfold maxLen; omega) (by omega) (by simp; omega) ?_; intro v2 w7 hown2 hg2 _ hat2; clear tok2 _t; obtain ⟨va2, vc2, hv2⟩ := own_slice hown2; subst hv2; rw [Nat.zero_add, List.nil_append] at hown2; rw [Nat.zero_add]; have HO2 : Hid (w7.ownsRow w5.heap.size 84 2 (.slice va2 1 vc2) 1 (attrCells [(a1, a2)])) := hown2; have HB8 : Hid (Below w5.heap.size w5 w7) := (HB7.out.trans ((below_new w6 _).mono hs6)).grown hg2 (by simp; omega) (fun k hk => (own_block_lt HO1.out k hk).1); clear hown2 hg2 hat2 g1 g2 g5; have hs7 := HB8.out.size)
      | (have _t := tok3; have _q := HO2; go_loud (refine wpList_app rfl _ _ rfl Tryz.underlying32 infoA rfl (by decide) w5.heap.size (.slice va2 1 vc2) 1 (attrCells [(a1, a2)]) rfl HO2.out none 0 0 [] rfl rfl (fun m u h => by cases h) (fun u h => by cases h) (by unfold maxLen; omega) (by omega) hs7 ?_); intro v3 w8 hown3 hg3 _ hat3; clear tok3 _t; obtain ⟨va3, vc3, hv3⟩ := own_slice hown3; subst hv3; rw [List.append_nil] at hown3; have HO3 : Hid (w8.ownsRow w5.heap.size 84 2 (.slice va3 1 vc3) 1 (attrCells [(a1, a2)])) := hown3; have HB9 : Hid (Below w5.heap.size w5 w8) := HB8.out.grown hg3 hs7 (fun k hk => (own_block_lt HO2.out k hk).1); clear hown3 hg3 hat3 _q))
    go_ret2
    exact ⟨HW2.out.trans (HB9.out.mono HW2.out.size), 0, by simp, fun i p h => absurd h (by omega), fun p hp => by simp at hp, .inr ⟨fun p hp => by simp at hp, _, _, rfl, World.ownsRow.mono HO3.out HW2.out.size⟩⟩

/-- 'with', of any attributes: nil, or a row. -/
theorem qwith_any (w : World) (R : Nat → Prop) (la : Option Addr) (lcap : Nat) (L : List Att) (hL : AttrsR w R la L) (hR : ∀ k, R k → k < w.heap.size) (hn : L.length ≤ 32) (hcap : L.length ≤ lcap) (hnil : L = [] → la = none ∧ lcap = 0) (a1 a2 : ByteArray) :
    Calls Tryz.prog 109 #[.slice la L.length lcap, .agg #[.string a1, .string a2]] w (WithPost w la lcap L (a1, a2)) := by
  cases L with
  | nil =>
    obtain ⟨rfl, rfl⟩ := hnil rfl
    exact qwith_none w a1 a2
  | cons x r =>
    obtain ⟨g, o, rfl, -, -, -⟩ := hL 0 x rfl
    exact qwith_some w R g o lcap (x :: r) hL hR hn hcap a1 a2

end Go.Proofs.YtmifejkddgcbmabGreat
