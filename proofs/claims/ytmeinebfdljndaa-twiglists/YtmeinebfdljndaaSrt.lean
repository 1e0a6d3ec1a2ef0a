/- The library's sort of a row of nodes by where they begin. -/
import Derived.Test.YtmeinebfdljndaaCc
import Derived.Test.YtmeinebfdljndaaShelf
import Derived.Sort.Walk0
namespace Go.Proofs.Ytmeinebfdljndaa
open Go.RowKit Go.Shelf Go.Lib Go.Sort
set_option linter.unusedVariables false

abbrev Tu := Int × Int × Int × Int
def tup (p : Pl) : Tu := (p.n, p.s.b, p.s.e, p.s.l)
def unt (t : Tu) : Pl := ⟨t.1, ⟨t.2.1, t.2.2.1, t.2.2.2⟩⟩
theorem unt_tup (p : Pl) : unt (tup p) = p := rfl
theorem tup_unt (t : Tu) : tup (unt t) = t := rfl
def encT (t : Tu) : List Value := [.int .u64 t.1, .int .u64 t.2.1, .int .u64 t.2.2.1, .int .i64 t.2.2.2]
def cmpB (x y : Int) : Int := if x < y then -1 else if y < x then 1 else 0

set_option maxRecDepth 100000 in
theorem isNaN_any (w : World) (x : Int) : Calls Try.prog 89 #[.int .u64 x] w fun e w' => e = .returned (.bool false) ∧ w' = w := by
  go_enter Try.func89, Try.ntmps89
  go_wp2
  go_ret
  exact ⟨rfl, rfl⟩
set_option maxRecDepth 100000 in
theorem compare_any (w : World) (x y : Int) : Calls Try.prog 63 #[.int .u64 x, .int .u64 y] w fun e w' => e = .returned (.int .i64 (cmpB x y)) ∧ w' = w := by
  have h1 := fun W => isNaN_any W x
  have h2 := fun W => isNaN_any W y
  unfold cmpB
  by_cases hl : x < y
  · rw [if_pos hl]
    go_enter Try.func63, Try.ntmps63
    go_wp2_with fail
    refine (h1 _).mono ?_
    rintro e w1 ⟨rfl, hw1⟩
    obtain rfl := hw1.symm
    go_wp2_with fail
    refine (h2 _).mono ?_
    rintro e w1 ⟨rfl, hw1⟩
    obtain rfl := hw1.symm
    go_wp2
    go_ret
    exact ⟨rfl, rfl⟩
  · rw [if_neg hl]
    by_cases hg : y < x
    · rw [if_pos hg]
      go_enter Try.func63, Try.ntmps63
      go_wp2_with fail
      refine (h1 _).mono ?_
      rintro e w1 ⟨rfl, hw1⟩
      obtain rfl := hw1.symm
      go_wp2_with fail
      refine (h2 _).mono ?_
      rintro e w1 ⟨rfl, hw1⟩
      obtain rfl := hw1.symm
      go_wp2
      go_ret
      exact ⟨rfl, rfl⟩
    · rw [if_neg hg]
      go_enter Try.func63, Try.ntmps63
      go_wp2_with fail
      refine (h1 _).mono ?_
      rintro e w1 ⟨rfl, hw1⟩
      obtain rfl := hw1.symm
      go_wp2_with fail
      refine (h2 _).mono ?_
      rintro e w1 ⟨rfl, hw1⟩
      obtain rfl := hw1.symm
      go_wp2
      go_ret
      exact ⟨rfl, rfl⟩

set_option maxRecDepth 100000 in
theorem cmpT_any (w : World) (x y : Tu) : Calls Try.prog 62 #[.agg (encT x).toArray, .agg (encT y).toArray] w fun e w' => e = .returned (.int .i64 (cmpB x.2.1 y.2.1)) ∧ ∃ q os', w' = grow (w.drewN q) os' := by
  obtain ⟨x1, x2, x3, x4⟩ := x
  obtain ⟨y1, y2, y3, y4⟩ := y
  have hc := fun W => compare_any W x2 y2
  simp only [encT]
  generalize cmpB x2 y2 = r at *
  go_enter Try.func62, Try.ntmps62
  go_wp2_with fail
  refine (hc _).mono ?_
  rintro e w1 ⟨rfl, hw1⟩
  obtain rfl := hw1.symm
  go_wp2
  go_ret
  exact ⟨rfl, 0, _, by rw [alloc_eq_grow, alloc_eq_grow, grow_grow]; rfl⟩

theorem ltOf_cmp (x y : Tu) : ltOf (fun x y : Tu => cmpB x.2.1 y.2.1) x y = decide (x.2.1 < y.2.1) := by
  show decide (cmpB x.2.1 y.2.1 < 0) = decide (x.2.1 < y.2.1)
  unfold cmpB
  by_cases h1 : x.2.1 < y.2.1
  · rw [if_pos h1]; simp [h1]
  · rw [if_neg h1]
    by_cases h2 : y.2.1 < x.2.1
    · rw [if_pos h2]; simp [h1]
    · rw [if_neg h2]; simp [h1]
theorem swoT : SWO (ltOf (fun x y : Tu => cmpB x.2.1 y.2.1)) where
  irrefl x := by rw [ltOf_cmp]; simp
  trans x y z h1 h2 := by
    rw [ltOf_cmp] at *
    simp only [decide_eq_true_eq] at *
    omega
  ntrans x y z h1 h2 := by
    rw [ltOf_cmp] at *
    simp only [decide_eq_false_iff_not] at *
    omega

theorem flat_at (L : List Tu) (t : Nat) (h : t < L.length * 4) : (plCells (L.map unt))[t]? = some ((encT (L.toArray[t / 4]!))[t % 4]!) := by
  have hj : t / 4 < L.length := by omega
  obtain ⟨p, hp⟩ : ∃ p, L[t / 4]? = some p := ⟨_, List.getElem?_eq_getElem hj⟩
  obtain ⟨g1, g2, g3, g4⟩ := plCells_get (L.map unt) (t / 4) (unt p) (by simp [hp])
  have e : L.toArray[t / 4]! = p := by
    rw [getElem!_pos L.toArray (t / 4) (by simpa using hj)]
    have := (List.getElem?_eq_some_iff.1 hp).2
    simpa using this
  rw [e]
  have hm : t % 4 = 0 ∨ t % 4 = 1 ∨ t % 4 = 2 ∨ t % 4 = 3 := by omega
  rcases hm with m | m | m | m
  · rw [show t / 4 * 4 = t by omega] at g1
    rw [m, g1]; rfl
  · rw [show t / 4 * 4 + 1 = t by omega] at g2
    rw [m, g2]; rfl
  · rw [show t / 4 * 4 + 2 = t by omega] at g3
    rw [m, g3]; rfl
  · rw [show t / 4 * 4 + 3 = t by omega] at g4
    rw [m, g4]; rfl
theorem size_list2 (L : List Tu) : L.toArray.size = L.length := by simp
theorem map_back (L : List Pl) : (L.map tup).map unt = L := by
  rw [List.map_map]
  exact List.map_id'' (fun p => unt_tup p) L

set_option maxHeartbeats 1000000 in
theorem sortT_any (w : World) (B : Nat) (L : List Tu) (a : Option Addr) (cap : Nat) (ho : w.ownsRow B 38 4 (.slice a L.length cap) L.length (plCells (L.map unt))) (hn : L.length ≤ 1048576) :
    Calls Try.prog 61 #[.slice a L.length cap, .func (.func 62) #[] #[]] w fun e w' => e = .returned (.tuple #[]) ∧ ∃ M : List Tu, M.Perm L ∧ M.Pairwise (fun x y => x.2.1 ≤ y.2.1) ∧ w'.ownsRow B 38 4 (.slice a L.length cap) L.length (plCells (M.map unt)) ∧ Turn (fun k => B ≤ k) w w' := by
  rcases ho.2 with ⟨e1, e2⟩ | ⟨g, cap', cur, e1, hg, hh, hc1, hc2, hc3, hc4⟩
  · have hL : L = [] := List.length_eq_zero_iff.1 e2
    subst hL
    refine (AnyF.slices_SortFunc_none Try.lsort a cap _ w).mono ?_
    rintro e w' ⟨he, hw⟩
    subst hw
    exact ⟨he, [], List.Perm.refl _, List.Pairwise.nil, ho, Turn.refl _ _⟩
  · cases e1
    have eg : ∀ args w, (callFunc 62 args).run Try.prog w = .ok (.enter 62 args) w := enters_of Try.func62 (by kernel_rfl) rfl
    have hlt := (Array.getElem?_eq_some_iff.1 hh).1
    have hcm : CmpLays Try.prog 62 #[] encT 4 (fun x y : Tu => cmpB x.2.1 y.2.1) g 0 L.toArray.size w := fun _ _ _ _ x y => cmpT_any _ x y
    have hH : HoldsK encT 4 w g 0 L.toArray := by
      intro j hj
      rw [size_flatK, size_list2] at hj
      refine ⟨?_, by simp [World.frozen?, hh]⟩
      rw [get_flatK _ _ _ j (by rw [size_list2]; exact hj)]
      have h1 := flat_at L j hj
      rw [← hc4, List.getElem?_take] at h1
      rw [if_pos hj] at h1
      rw [Array.getElem?_toList] at h1
      simp only [World.cell?, hh, Nat.zero_add]
      exact h1
    have hcon := AnyQ.slices_SortFunc Try.lsort 4 Try.isAgg38 Try.sizeOf38 encT (fun _ => rfl) (fun x v hv => by simp [encT] at hv; rcases hv with rfl | rfl | rfl | rfl <;> rfl) (fun x y : Tu => cmpB x.2.1 y.2.1) swoT 62 #[] g 0 cap L.toArray w eg hcm hH hlt (by simp; omega)
    refine hcon.mono ?_
    rintro e w' ⟨he, d', n, os, hp, hs, rfl⟩
    have hsz : d'.size = L.length := by rw [hp.1]; simp
    have hperm : d'.toList.Perm L := by
      have := hp.2.2
      have e3 : d'.extract 0 L.toArray.size = d' := by rw [← hp.1]; simp
      have e4 : L.toArray.extract 0 L.toArray.size = L.toArray := by simp
      rw [e3, e4] at this
      simpa using this
    have hpw : d'.toList.Pairwise (fun x y => x.2.1 ≤ y.2.1) := by
      rw [List.pairwise_iff_getElem]
      intro i j hi hj hij
      have := hs i j (Nat.zero_le _) hij (by simpa [hsz] using hj)
      rw [ltOf_cmp] at this
      have hj2 : j < d'.size := by simpa using hj
      rw [getElem!_pos d' j hj2, getElem!_pos d' i (by omega)] at this
      simp at this
      simpa using this
    have hblk : (sortWorldK encT 4 w g 0 n d' os).heap[g]? = some (.cells (putCells id 0 (flatK encT 4 d') cur) 38 (0, 0)) := by
      have hm : (putRowK encT 4 (Sort.ahead w n) g 0 d').heap[g]? = some (.cells (putCells id 0 (flatK encT 4 d') cur) 38 (0, 0)) := by
        simp [putRowK, putRow, mapBlock, Sort.ahead, Array.getElem?_modify, hh, onCells]
      have hl2 := (Array.getElem?_eq_some_iff.1 hm).1
      simp only [sortWorldK, grow, Array.getElem?_append]
      rw [if_pos hl2]; exact hm
    refine ⟨he, d'.toList, hperm, hpw, ⟨by rw [plCells_length]; simp [hsz], .inr ⟨g, cap, _, rfl, hg, hblk, hc1, hc2, by simp [putCells, hc3], ?_⟩⟩, ?_⟩
    · apply List.ext_getElem?
      intro t
      rw [List.getElem?_take]
      by_cases ht : t < L.length * 4
      · rw [if_pos ht, flat_at d'.toList t (by simp [hsz]; exact ht)]
        have hcs : t < cur.size := by rw [hc3]; omega
        rw [Array.getElem?_toList]
        unfold putCells
        rw [Array.getElem?_mapIdx, Array.getElem?_eq_getElem hcs]
        simp only [Option.map_some]
        rw [if_pos ⟨Nat.zero_le _, by rw [size_flatK, hsz]; omega⟩, Nat.sub_zero, get_flatK _ _ _ t (by rw [hsz]; exact ht)]
        rfl
      · rw [if_neg ht]
        symm
        rw [List.getElem?_eq_none_iff, plCells_length]
        simp [hsz]; omega
    · refine ⟨rfl, rfl, rfl, by simp [sortWorldK, grow, putRowK, Sort.ahead], fun k hk ha => ?_⟩
      have hne : g ≠ k := fun e => ha (by rw [← e]; exact hg)
      simp only [sortWorldK, grow, Array.getElem?_append]
      rw [if_pos (by simpa [putRowK, Sort.ahead] using hk)]
      simp [putRowK, putRow, mapBlock, Sort.ahead, Array.getElem?_modify, hne]

/-- The library's sort by where they begin. -/
theorem sort_any (w : World) (B : Nat) (L : List Pl) (a : Option Addr) (n cap : Nat) (hl : L.length = n) (ho : w.ownsRow B 38 4 (.slice a n cap) n (plCells L)) (hB : B ≤ w.heap.size) (hn : n ≤ 1048576) :
    Calls Try.prog 61 #[.slice a n cap, .func (.func 62) #[] #[]] w fun e w' => e = .returned (.tuple #[]) ∧ ∃ M : List Pl, M.Perm L ∧ M.Pairwise (fun x y => x.s.b ≤ y.s.b) ∧ w'.ownsRow B 38 4 (.slice a n cap) n (plCells M) ∧ Below B w w' := by
  have hlen : (L.map tup).length = n := by simp [hl]
  have h := sortT_any w B (L.map tup) a cap (by rw [hlen, map_back]; exact ho) (by omega)
  rw [hlen] at h
  refine h.mono ?_
  rintro e w' ⟨he, M, h1, h2, h3, h4⟩
  refine ⟨he, M.map unt, ?_, ?_, h3, h4.below hB (fun k hk => hk)⟩
  · have := h1.map unt
    rwa [map_back] at this
  · rw [List.pairwise_map]
    exact h2.imp (fun {x y} h => h)

end Go.Proofs.Ytmeinebfdljndaa
