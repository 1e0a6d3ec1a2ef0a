/- Attributes by their names: the one order there is; the library's sort of a row of them. -/
import Derived.Test.YtmifejkddgcbmaaGreatA18
import Derived.Sort.Walk0
namespace Go.Proofs.YtmifejkddgcbmaaGreat
open Go.RowKit Go.Shelf Go.Lib Go.Sort
set_option linter.unusedVariables false
set_option linter.unusedSimpArgs false

theorem uniq_sorted {α : Type} {lt : α → α → Prop} (irr : ∀ x, ¬ lt x x) (asym : ∀ x y, lt x y → ¬ lt y x) : ∀ (L1 L2 : List α), L1.Perm L2 → L1.Pairwise lt → L2.Pairwise lt → L1 = L2
  | [], L2, hp, _, _ => (List.Perm.nil_eq hp)
  | a :: r, [], hp, _, _ => by have := hp.length_eq; simp at this
  | a :: r, b :: s, hp, h1, h2 => by
    have hab : a = b := by
      have ha : a ∈ b :: s := hp.mem_iff.1 (List.mem_cons_self ..)
      have hb : b ∈ a :: r := hp.mem_iff.2 (List.mem_cons_self ..)
      rcases List.mem_cons.1 ha with e | e
      · exact e
      · rcases List.mem_cons.1 hb with e' | e'
        · exact e'.symm
        · exact absurd ((List.pairwise_cons.1 h2).1 a e) (asym _ _ ((List.pairwise_cons.1 h1).1 b e'))
    subst hab
    rw [uniq_sorted irr asym r s (List.Perm.cons_inv hp) (List.pairwise_cons.1 h1).2 (List.pairwise_cons.1 h2).2]

theorem ltA_eq (a b : Att) : ltA a b = decide (a.1.toList < b.1.toList) := by unfold ltA; exact bytesLess_eq _ _
/-- No two of one name. -/
def Dist (L : List Att) : Prop := L.Pairwise fun a b => a.1.toList ≠ b.1.toList

theorem ltA_irr (a : Att) : ¬ ltA a a = true := by rw [ltA_eq]; simp [List.lt_irrefl]
theorem ltA_asym (a b : Att) (h : ltA a b = true) : ¬ ltA b a = true := by
  rw [ltA_eq] at *
  simp only [decide_eq_true_eq] at *
  exact List.lt_asymm h
theorem ltA_tri {a b : Att} (h : a.1.toList ≠ b.1.toList) (h2 : ltA b a = false) : ltA a b = true := by
  rw [ltA_eq] at *
  simp only [decide_eq_true_eq, decide_eq_false_iff_not] at *
  exact Decidable.byContradiction fun hn => h (List.le_antisymm (List.not_lt.1 h2) (List.not_lt.1 hn))
theorem sortA_perm (L : List Att) : (sortA L).Perm L := List.mergeSort_perm _ _
theorem Dist.perm {L M : List Att} (h : Dist L) (hp : L.Perm M) : Dist M := hp.pairwise h (fun h => Ne.symm h)
theorem sortA_strict {L : List Att} (h : Dist L) : (sortA L).Pairwise fun a b => ltA a b = true := by
  have hs := List.pairwise_mergeSort (le := fun a b => !(ltA b a)) (l := L) (fun a b c h1 h2 => by
    simp only [Bool.not_eq_true', ltA_eq, decide_eq_false_iff_not, List.not_lt] at *
    exact List.le_trans h1 h2) (fun a b => by
    simp only [Bool.or_eq_true, Bool.not_eq_true', ltA_eq, decide_eq_false_iff_not, List.not_lt]
    exact List.le_total _ _)
  have hd : Dist (sortA L) := h.perm (sortA_perm L).symm
  refine (hd.and hs).imp ?_
  rintro a b ⟨h1, h2⟩
  exact ltA_tri h1 (by simpa using h2)
/-- A row in order, of the same: it is the one. -/
theorem sortA_of {L M : List Att} (h : Dist L) (hp : M.Perm L) (hs : ∀ i j, i < j → j < M.length → ltA M[j]! M[i]! = false) : M = sortA L := by
  have hd : Dist M := h.perm hp.symm
  refine uniq_sorted ltA_irr ltA_asym _ _ (hp.trans (sortA_perm L).symm) ?_ (sortA_strict h)
  rw [List.pairwise_iff_getElem]
  intro i j hi hj hij
  have h1 := hs i j hij hj
  rw [getElem!_pos M i hi, getElem!_pos M j hj] at h1
  exact ltA_tri ((List.pairwise_iff_getElem.1 hd) i j hi hj hij) h1

set_option maxRecDepth 100000 in
theorem isNaN_any (w : World) (x : ByteArray) : Calls Tryz.prog 125 #[.string x] w fun e w' => e = .returned (.bool false) ∧ w' = w := by
  have t1 : (x.toList == x.toList) = true := by simp
  go_enter Tryz.func125, Tryz.ntmps125
  go_wp2
  go_ret
  exact ⟨rfl, rfl⟩

/-- What cmp.Compare tells of two texts. -/
def cmpS (x y : ByteArray) : Int := if Op.bytesLess x.toList y.toList then -1 else if x.toList == y.toList then 0 else 1

set_option maxRecDepth 100000 in
theorem compare_any (w : World) (x y : ByteArray) : Calls Tryz.prog 112 #[.string x, .string y] w fun e w' => e = .returned (.int .i64 (cmpS x y)) ∧ w' = w := by
  have h1 := fun W => isNaN_any W x
  have h2 := fun W => isNaN_any W y
  unfold cmpS
  cases hl : Op.bytesLess x.toList y.toList <;> cases he : (x.toList == y.toList) <;> (
    go_enter Tryz.func112, Tryz.ntmps112
    go_wp2_with fail
    refine (h1 _).mono ?_
    rintro e w1 ⟨rfl, hw1⟩
    obtain rfl := hw1.symm
    go_wp2_with fail
    refine (h2 _).mono ?_
    rintro e w1 ⟨rfl, hw1⟩
    obtain rfl := hw1.symm
    go_wp2
    go_ret
    exact ⟨rfl, rfl⟩)

set_option maxRecDepth 100000 in
theorem cmpA_any (w : World) (x y : Att) : Calls Tryz.prog 111 #[.agg #[.string x.1, .string x.2], .agg #[.string y.1, .string y.2]] w fun e w' => e = .returned (.int .i64 (cmpS x.1 y.1)) ∧ ∃ q os', w' = grow (w.drewN q) os' := by
  have hc := fun W => compare_any W x.1 y.1
  generalize cmpS x.1 y.1 = r at *
  go_enter Tryz.func111, Tryz.ntmps111
  go_wp2_with fail
  refine (hc _).mono ?_
  rintro e w1 ⟨rfl, hw1⟩
  obtain rfl := hw1.symm
  go_wp2
  go_ret
  exact ⟨rfl, 0, _, by rw [alloc_eq_grow, alloc_eq_grow, grow_grow]; rfl⟩

theorem ltOf_cmp (x y : Att) : ltOf (fun x y : Att => cmpS x.1 y.1) x y = ltA x y := by
  show decide (cmpS x.1 y.1 < 0) = Op.bytesLess x.1.toList y.1.toList
  by_cases h1 : Op.bytesLess x.1.toList y.1.toList = true
  · have e : cmpS x.1 y.1 = -1 := by unfold cmpS; rw [if_pos h1]
    rw [e, h1]; rfl
  · rw [Bool.eq_false_iff.2 h1]
    by_cases h2 : (x.1.toList == y.1.toList) = true
    · have e : cmpS x.1 y.1 = 0 := by unfold cmpS; rw [if_neg h1, if_pos h2]
      rw [e]; rfl
    · have e : cmpS x.1 y.1 = 1 := by unfold cmpS; rw [if_neg h1, if_neg h2]
      rw [e]; rfl

theorem swoA : SWO (ltOf (fun x y : Att => cmpS x.1 y.1)) where
  irrefl x := by rw [ltOf_cmp]; simpa using ltA_irr x
  trans x y z h1 h2 := by
    rw [ltOf_cmp, ltA_eq] at *
    simp only [decide_eq_true_eq] at *
    exact List.lt_trans h1 h2
  ntrans x y z h1 h2 := by
    rw [ltOf_cmp, ltA_eq] at *
    simp only [decide_eq_false_iff_not, List.not_lt] at *
    exact List.le_trans h2 h1

theorem flat_at (L : List Att) (t : Nat) (h : t < L.length * 2) : (attrCells L)[t]? = some ((encA (L.toArray[t / 2]!))[t % 2]!) := by
  have hj : t / 2 < L.length := by omega
  obtain ⟨p, hp⟩ : ∃ p, L[t / 2]? = some p := ⟨_, List.getElem?_eq_getElem hj⟩
  obtain ⟨g1, g2⟩ := attrCells_get L _ p hp
  have e : L.toArray[t / 2]! = p := by
    rw [getElem!_pos L.toArray (t / 2) (by simpa using hj)]
    have := (List.getElem?_eq_some_iff.1 hp).2
    simpa using this
  rw [e]
  rcases Nat.mod_two_eq_zero_or_one t with m | m
  · have ej : t / 2 * 2 = t := by omega
    rw [ej] at g1
    rw [m, g1]; rfl
  · have ej : t / 2 * 2 + 1 = t := by omega
    rw [ej] at g2
    rw [m, g2]; rfl

theorem size_list2 (L : List Att) : L.toArray.size = L.length := by simp

set_option maxHeartbeats 1000000 in
theorem sort_any (w : World) (B : Nat) (L : List Att) (a : Option Addr) (cap : Nat) (ho : w.ownsRow B 55 2 (.slice a L.length cap) L.length (attrCells L)) (hd : Dist L) (hn : L.length ≤ 32) :
    Calls Tryz.prog 110 #[.slice a L.length cap, .func (.func 111) #[] #[]] w fun e w' => e = .returned (.tuple #[]) ∧ w'.ownsRow B 55 2 (.slice a L.length cap) L.length (attrCells (sortA L)) ∧ Turn (fun k => B ≤ k) w w' := by
  rcases ho.2 with ⟨e1, e2⟩ | ⟨g, cap', cur, e1, hg, hh, hc1, hc2, hc3, hc4⟩
  · have hL : L = [] := List.length_eq_zero_iff.1 e2
    subst hL
    refine (AnyF.slices_SortFunc_none Tryz.lsort a cap _ w).mono ?_
    rintro e w' ⟨he, hw⟩
    subst hw
    exact ⟨he, by simpa [sortA] using ho, Turn.refl _ _⟩
  · cases e1
    have eg : ∀ args w, (callFunc 111 args).run Tryz.prog w = .ok (.enter 111 args) w := enters_of Tryz.func111 (by kernel_rfl) rfl
    have hlt := (Array.getElem?_eq_some_iff.1 hh).1
    have hcm : CmpLays Tryz.prog 111 #[] encA 2 (fun x y : Att => cmpS x.1 y.1) g 0 L.toArray.size w := fun _ _ _ _ x y => cmpA_any _ x y
    have hH : HoldsK encA 2 w g 0 L.toArray := by
      intro j hj
      rw [size_flatK, size_list2] at hj
      refine ⟨?_, by simp [World.frozen?, hh]⟩
      rw [get_flatK _ _ _ j (by rw [size_list2]; exact hj)]
      have h1 := flat_at L j hj
      rw [← hc4, List.getElem?_take] at h1
      rw [if_pos hj] at h1
      rw [Array.getElem?_toList] at h1
      simp only [World.cell?, hh, Nat.zero_add]
      exact h1
    have hcon := AnyQ.slices_SortFunc Tryz.lsort 2 Tryz.isAgg55 Tryz.sizeOf55 encA (fun _ => rfl) (fun x v hv => by simp [encA] at hv; rcases hv with rfl | rfl <;> rfl) (fun x y : Att => cmpS x.1 y.1) swoA 111 #[] g 0 cap L.toArray w eg hcm hH hlt (by simp; omega)
    refine hcon.mono ?_
    rintro e w' ⟨he, d', n, os, hp, hs, rfl⟩
    have hsz : d'.size = L.length := by rw [hp.1]; simp
    have hperm : d'.toList.Perm L := by
      have := hp.2.2
      have e3 : d'.extract 0 L.toArray.size = d' := by rw [← hp.1]; simp
      have e4 : L.toArray.extract 0 L.toArray.size = L.toArray := by simp
      rw [e3, e4] at this
      simpa using this
    have hso : d'.toList = sortA L := by
      refine sortA_of hd hperm ?_
      intro i j hij hj
      have := hs i j (Nat.zero_le _) hij (by simpa [hsz] using hj)
      rw [ltOf_cmp] at this
      have hj2 : j < d'.size := by simpa using hj
      rw [getElem!_pos d'.toList j hj, getElem!_pos d'.toList i (by omega)]
      rw [getElem!_pos d' j hj2, getElem!_pos d' i (by omega)] at this
      simpa using this
    have hblk : (sortWorldK encA 2 w g 0 n d' os).heap[g]? = some (.cells (putCells id 0 (flatK encA 2 d') cur) 55 (0, 0)) := by
      have hm : (putRowK encA 2 (Sort.ahead w n) g 0 d').heap[g]? = some (.cells (putCells id 0 (flatK encA 2 d') cur) 55 (0, 0)) := by
        simp [putRowK, putRow, mapBlock, Sort.ahead, Array.getElem?_modify, hh, onCells]
      have hl2 := (Array.getElem?_eq_some_iff.1 hm).1
      simp only [sortWorldK, grow, Array.getElem?_append]
      rw [if_pos hl2]; exact hm
    refine ⟨he, ⟨by rw [attrCells_length, ← hso]; simp [hsz], .inr ⟨g, cap, _, rfl, hg, hblk, hc1, hc2, by simp [putCells, hc3], ?_⟩⟩, ?_⟩
    · rw [← hso]
      apply List.ext_getElem?
      intro t
      rw [List.getElem?_take]
      by_cases ht : t < L.length * 2
      · rw [if_pos ht, flat_at d'.toList t (by simp [hsz]; exact ht)]
        have hcs : t < cur.size := by rw [hc3]; omega
        rw [Array.getElem?_toList]
        unfold putCells
        rw [Array.getElem?_mapIdx, Array.getElem?_eq_getElem hcs]
        simp only [Option.map_some]
        rw [if_pos ⟨Nat.zero_le _, by rw [size_flatK, hsz]; omega⟩, Nat.sub_zero, get_flatK _ _ _ t (by rw [hsz]; exact ht)]
        rfl
      · rw [if_neg ht]
        symm
        rw [List.getElem?_eq_none_iff, attrCells_length]
        simp [hsz]; omega
    · refine ⟨rfl, rfl, rfl, by simp [sortWorldK, grow, putRowK, Sort.ahead], fun k hk ha => ?_⟩
      have hne : g ≠ k := fun e => ha (by rw [← e]; exact hg)
      simp only [sortWorldK, grow, Array.getElem?_append]
      rw [if_pos (by simpa [putRowK, Sort.ahead] using hk)]
      simp [putRowK, putRow, mapBlock, Sort.ahead, Array.getElem?_modify, hne]

end Go.Proofs.YtmifejkddgcbmaaGreat
