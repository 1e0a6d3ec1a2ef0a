/- A list of elements that rise, in memory; find, Has, Rank, Len, At, Clone, own at items. -/
import Derived.Test.YtiggpbjgnododaaTp
import Derived.Test.YtiggpbjgnododaaTi
import Derived.Test.YtiggpbjgnododaaOrd
import Derived.Test.YtiggpbjgnododaaDlaw
import Derived.Deep.RegionWith
namespace Go.Proofs.Ytiggpbjgnododaa.T
open Go.RowKit Go.Shelf
set_option linter.unusedVariables false
attribute [local go_sem] Bel.cell

def cell2 (x : Int × Int) : List Value := [.int .i64 x.1, .int .i64 x.2]
def cellsOf (L : List (Int × Int)) : List Value := L.flatMap cell2

theorem cellsOf_cons (x : Int × Int) (L : List (Int × Int)) : cellsOf (x :: L) = .int .i64 x.1 :: .int .i64 x.2 :: cellsOf L := rfl
theorem cellsOf_append (L M : List (Int × Int)) : cellsOf (L ++ M) = cellsOf L ++ cellsOf M := by simp [cellsOf]
theorem cellsOf_length : ∀ (L : List (Int × Int)), (cellsOf L).length = L.length * 2
  | [] => rfl
  | x :: L => by rw [cellsOf_cons]; simp [cellsOf_length L]; omega
theorem cellsOf_one (L : List (Int × Int)) : ∀ u ∈ cellsOf L, u.oneCell' = true := by
  intro u hu
  obtain ⟨t, _, ht⟩ := List.mem_flatMap.1 hu
  simp [cell2] at ht
  rcases ht with rfl | rfl <;> rfl
theorem cellsOf_take : ∀ (L : List (Int × Int)) (k : Nat), cellsOf (L.take k) = (cellsOf L).take (k * 2)
  | [], k => by simp [cellsOf]
  | x :: L, 0 => by simp [cellsOf]
  | x :: L, k + 1 => by
    rw [List.take_succ_cons, cellsOf_cons, cellsOf_cons, cellsOf_take L k, show (k + 1) * 2 = k * 2 + 1 + 1 by omega, List.take_succ_cons, List.take_succ_cons]
theorem cellsOf_drop : ∀ (L : List (Int × Int)) (k : Nat), cellsOf (L.drop k) = (cellsOf L).drop (k * 2)
  | [], k => by simp [cellsOf]
  | x :: L, 0 => by simp
  | x :: L, k + 1 => by
    rw [List.drop_succ_cons, cellsOf_cons, cellsOf_drop L k, show (k + 1) * 2 = k * 2 + 1 + 1 by omega, List.drop_succ_cons, List.drop_succ_cons]
theorem cellsOf_at : ∀ (L : List (Int × Int)) (i : Nat) (y : Int × Int), L[i]? = some y → (cellsOf L)[i * 2]? = some (.int .i64 y.1) ∧ (cellsOf L)[i * 2 + 1]? = some (.int .i64 y.2)
  | [], i, y, h => by simp at h
  | x :: L, 0, y, h => by
    simp at h
    subst h
    exact ⟨rfl, rfl⟩
  | x :: L, i + 1, y, h => by
    simp at h
    have ih := cellsOf_at L i y h
    rw [cellsOf_cons, show (i + 1) * 2 = i * 2 + 1 + 1 by omega]
    exact ih

/-- A list in memory. -/
structure LAt (w : World) (B db g : Nat) (caps : Array Value) (L : List (Int × Int)) (a : Option Addr) (cap : Nat) (lent : Bool) (ed : Int) : Prop where
  head : IsCells w db #[.func (.func g) #[] caps, .slice a L.length cap, .bool lent, .int .u64 ed]
  row : w.ownsRow B 28 2 (.slice a L.length cap) L.length (cellsOf L)
  ne : ∀ k, (Value.slice a L.length cap).ownBlock = some k → k ≠ db
  len : L.length ≤ 8192

theorem LAt.of_blocks {w w' : World} {B db g : Nat} {caps : Array Value} {L : List (Int × Int)} {a : Option Addr} {cap : Nat} {lent : Bool} {ed : Int} (h : LAt w B db g caps L a cap lent ed) (h1 : w'.heap[db]? = w.heap[db]?)
    (h2 : ∀ k, (Value.slice a L.length cap).ownBlock = some k → w'.heap[k]? = w.heap[k]?) : LAt w' B db g caps L a cap lent ed :=
  ⟨h.head.of_block h1, own_of_block h.row h2, h.ne, h.len⟩

theorem LAt.below {w w' : World} {B db g : Nat} {caps : Array Value} {L : List (Int × Int)} {a : Option Addr} {cap : Nat} {lent : Bool} {ed : Int} (h : LAt w B db g caps L a cap lent ed) (hb : Below w.heap.size w w') : LAt w' B db g caps L a cap lent ed :=
  h.of_blocks (hb.block _ h.head.lt) (fun k hk => hb.block k (own_block_lt h.row k hk).2)

theorem LAt.items {w : World} {B db g : Nat} {caps : Array Value} {L : List (Int × Int)} {a : Option Addr} {cap : Nat} {lent : Bool} {ed : Int} (h : LAt w B db g caps L a cap lent ed) : Items w a L := by
  intro i y hy
  obtain ⟨_, _, hc⟩ := row_cell h.row
  obtain ⟨h1, h2⟩ := cellsOf_at L i y hy
  obtain ⟨g', e1, _, h3, h4⟩ := hc _ _ h1
  obtain ⟨g'', e2, _, h5, h6⟩ := hc _ _ h2
  rw [e1] at e2
  cases e2
  exact ⟨g', e1, h3, h4, h6⟩

theorem LAt.addr {w : World} {B db g : Nat} {caps : Array Value} {L : List (Int × Int)} {a : Option Addr} {cap : Nat} {lent : Bool} {ed : Int} (h : LAt w B db g caps L a cap lent ed) : ∀ rb o, a = some ⟨rb, o, none⟩ → rb < w.heap.size := by
  intro rb o e
  subst e
  exact (own_block_lt h.row rb rfl).2

theorem LAt.capm {w : World} {B db g : Nat} {caps : Array Value} {L : List (Int × Int)} {a : Option Addr} {cap : Nat} {lent : Bool} {ed : Int} (h : LAt w B db g caps L a cap lent ed) : L.length ≤ cap ∧ cap ≤ maxLen := by
  rcases h.row.2 with ⟨e, _⟩ | ⟨g, cap', cur, e, _, _, h1, h2, _⟩
  · simp only [Value.slice.injEq] at e
    omega
  · simp only [Value.slice.injEq, true_and] at e
    omega

set_option maxRecDepth 100000 in
set_option maxHeartbeats 1000000 in
theorem find_any (w : World) (B db g : Nat) (caps : Array Value) (L : List (Int × Int)) (a : Option Addr) (cap : Nat) (lent : Bool) (ed : Int) (lt : Int × Int → Int × Int → Bool) (dom : Int × Int → Prop) (x : Int × Int) (k : Nat)
    (h : LAt w B db g caps L a cap lent ed) (hless : Less w g caps lt dom) (hx : dom x) (hL : ∀ y ∈ L, dom y) (hc : Cut lt L x k) :
    Calls Try.prog 50 #[.pointer (some ⟨db, 0, none⟩), .agg #[.int .i64 x.1, .int .i64 x.2]] w fun e w' => e = .returned (.tuple #[.int .i64 (k : Int), .bool (thereB lt L x k), .bool true]) ∧ Below w.heap.size w w' := by
  have hp := fun W (hb : Below w.heap.size w W) => place_any W g a cap caps lt dom x L k (h.below hb).items (h.below hb).addr (by have := h.len; omega) (hless.below hb) hx hL hc
  have hdl := h.head.lt
  have c0 : w.cell? ⟨db, 0, none⟩ = some (.func (.func g) #[] caps) := h.head.cell 0
  have c1 : w.cell? ⟨db, 1, none⟩ = some (.slice a L.length cap) := h.head.cell 1
  have c3 : w.cell? ⟨db, 3, none⟩ = some (.int .u64 ed) := h.head.cell 3
  obtain ⟨b, hbe⟩ : ∃ b, Hid (thereB lt L x k = b) := ⟨_, rfl⟩
  rw [hbe.out] at hp ⊢
  generalize L.length = n at *
  obtain ⟨W0, hW0⟩ : ∃ W0, w.alloc (.cells #[.int .i64 x.1, .int .i64 x.2] 28) = W0 := ⟨_, rfl⟩
  have hb0 : Below w.heap.size w W0 := by rw [← hW0]; exact (Below.refl _ _).alloc (Nat.le_refl _) _
  have hp' := fun W (hb : Below W0.heap.size W0 W) => hp W (hb0.trans (hb.mono hb0.size))
  have c0' : W0.cell? ⟨db, 0, none⟩ = some (.func (.func g) #[] caps) := (hb0.cell (p := ⟨db, 0, none⟩) hdl).trans c0
  have c1' : W0.cell? ⟨db, 1, none⟩ = some (.slice a n cap) := (hb0.cell (p := ⟨db, 1, none⟩) hdl).trans c1
  have c3' : W0.cell? ⟨db, 3, none⟩ = some (.int .u64 ed) := (hb0.cell (p := ⟨db, 3, none⟩) hdl).trans c3
  have cx0 : W0.cell? ⟨w.heap.size, 0, none⟩ = some (.int .i64 x.1) := by rw [← hW0]; exact (isCells_new w _ _).cell 0
  have cx1 : W0.cell? ⟨w.heap.size, 1, none⟩ = some (.int .i64 x.2) := by rw [← hW0]; exact (isCells_new w _ _).cell 1
  have hdl' : db < W0.heap.size := Nat.lt_of_lt_of_le hdl hb0.size
  have hsl : w.heap.size < W0.heap.size := by rw [← hW0]; simp
  have HB0 : Hid (Below w.heap.size w W0) := hb0
  have HW0 : Hid (w.alloc (.cells #[.int .i64 x.1, .int .i64 x.2] 28) = W0) := hW0
  have c3'' : (w.alloc (.cells #[.int .i64 x.1, .int .i64 x.2] 28)).cell? ⟨db, 3, none⟩ = some (.int .u64 ed) := by rw [hW0]; exact c3'
  clear h hless hc hp c0 c1 c3 hb0 hW0
  go_enter Try.func50, Try.ntmps50
  go_wp2
  rw [HW0.out]
  clear HW0 c3''
  refine wp_region_bel (by kernel_rfl) (by kernel_rfl) ?_
  intro hne
  repeat go_big_quiet_step ((exact Calls.bel_of (hp' _ (Bel.h _))))
  refine wpQuiet_nil ?_
  rintro _ ⟨u, rfl⟩
  go_wp2
  go_ret3
  exact ⟨rfl, HB0.out.trans (u.h.mono HB0.out.size)⟩

theorem bel1 (w : World) (o : Obj) : Below w.heap.size w (w.alloc o) := (Below.refl _ _).alloc (Nat.le_refl _) _

set_option maxRecDepth 100000 in
set_option maxHeartbeats 1000000 in
theorem rank_any (w : World) (B db g : Nat) (caps : Array Value) (L : List (Int × Int)) (a : Option Addr) (cap : Nat) (lent : Bool) (ed : Int) (lt : Int × Int → Int × Int → Bool) (dom : Int × Int → Prop) (x : Int × Int) (k : Nat)
    (h : LAt w B db g caps L a cap lent ed) (hless : Less w g caps lt dom) (hx : dom x) (hL : ∀ y ∈ L, dom y) (hc : Cut lt L x k) :
    Calls Try.prog 41 #[.pointer (some ⟨db, 0, none⟩), .agg #[.int .i64 x.1, .int .i64 x.2]] w fun e w' => e = .returned (.int .i64 (k : Int)) ∧ Below w.heap.size w w' := by
  have hf := find_any (w.alloc (.cells #[.int .i64 x.1, .int .i64 x.2] 28)) B db g caps L a cap lent ed lt dom x k (h.below (bel1 _ _)) (hless.below (bel1 _ _)) hx hL hc
  clear h hless hL hc
  go_enter Try.func41, Try.ntmps41
  go_wp2_with fail
  refine hf.mono ?_
  rintro e w1 ⟨rfl, hb⟩
  have HB : Hid (Below w.heap.size w w1) := (bel1 w _).trans (hb.mono (by simp))
  clear hf hb
  go_wp2
  go_ret
  exact ⟨rfl, HB.out⟩

set_option maxRecDepth 100000 in
set_option maxHeartbeats 1000000 in
theorem has_any (w : World) (B db g : Nat) (caps : Array Value) (L : List (Int × Int)) (a : Option Addr) (cap : Nat) (lent : Bool) (ed : Int) (lt : Int × Int → Int × Int → Bool) (dom : Int × Int → Prop) (x : Int × Int) (k : Nat)
    (h : LAt w B db g caps L a cap lent ed) (hless : Less w g caps lt dom) (hx : dom x) (hL : ∀ y ∈ L, dom y) (hc : Cut lt L x k) :
    Calls Try.prog 39 #[.pointer (some ⟨db, 0, none⟩), .agg #[.int .i64 x.1, .int .i64 x.2]] w fun e w' => e = .returned (.bool (thereB lt L x k)) ∧ Below w.heap.size w w' := by
  have hf := find_any (w.alloc (.cells #[.int .i64 x.1, .int .i64 x.2] 28)) B db g caps L a cap lent ed lt dom x k (h.below (bel1 _ _)) (hless.below (bel1 _ _)) hx hL hc
  clear h hless hL hc
  go_enter Try.func39, Try.ntmps39
  go_wp2_with fail
  refine hf.mono ?_
  rintro e w1 ⟨rfl, hb⟩
  have HB : Hid (Below w.heap.size w w1) := (bel1 w _).trans (hb.mono (by simp))
  clear hf hb
  go_wp2
  go_ret
  exact ⟨rfl, HB.out⟩

set_option maxRecDepth 100000 in
set_option maxHeartbeats 1000000 in
theorem len_any (w : World) (B db g : Nat) (caps : Array Value) (L : List (Int × Int)) (a : Option Addr) (cap : Nat) (lent : Bool) (ed : Int) (h : LAt w B db g caps L a cap lent ed) :
    Calls Try.prog 46 #[.pointer (some ⟨db, 0, none⟩)] w fun e w' => e = .returned (.int .i64 (L.length : Int)) ∧ w' = w := by
  have c1 : w.cell? ⟨db, 1, none⟩ = some (.slice a L.length cap) := h.head.cell 1
  have hl : (L.length : Int) ≤ 8192 := by have := h.len; omega
  clear h
  go_enter Try.func46, Try.ntmps46
  go_wp2
  go_ret
  exact ⟨rfl, rfl⟩

set_option maxRecDepth 100000 in
set_option maxHeartbeats 1000000 in
theorem at_some (w : World) (B db g : Nat) (caps : Array Value) (L : List (Int × Int)) (a : Option Addr) (cap : Nat) (lent : Bool) (ed : Int) (i : Nat) (y : Int × Int) (h : LAt w B db g caps L a cap lent ed) (hy : L[i]? = some y) :
    Calls Try.prog 42 #[.pointer (some ⟨db, 0, none⟩), .int .i64 (i : Int)] w fun e w' => e = .returned (.tuple #[.agg #[.int .i64 y.1, .int .i64 y.2], .bool true]) ∧ Below w.heap.size w w' := by
  have hb0 := bel1 w (.cells #[.int .i64 0, .int .i64 0] 28)
  have h' := h.below hb0
  have hdl := h.head.lt
  obtain ⟨rb, rfl, hr1, hr2, hr3⟩ := h.items i y hy
  have c1 : (w.alloc (.cells #[.int .i64 0, .int .i64 0] 28)).cell? ⟨db, 1, none⟩ = some (.slice (some ⟨rb, 0, none⟩) L.length cap) := h'.head.cell 1
  have cy1 : (w.alloc (.cells #[.int .i64 0, .int .i64 0] 28)).cell? ⟨rb, i * 2, none⟩ = some (.int .i64 y.1) := (hb0.cell (p := ⟨rb, i * 2, none⟩) hr1).trans hr2
  have cy2 : (w.alloc (.cells #[.int .i64 0, .int .i64 0] 28)).cell? ⟨rb, i * 2 + 1, none⟩ = some (.int .i64 y.2) := (hb0.cell (p := ⟨rb, i * 2 + 1, none⟩) hr1).trans hr3
  have hlt : i < L.length := (List.getElem?_eq_some_iff.1 hy).1
  have hi1 : (i : Int) < (L.length : Int) := by omega
  have hi2 : (0 : Int) ≤ (i : Int) := by omega
  have hl : (L.length : Int) ≤ 8192 := by have := h.len; omega
  clear h hy h' hr2 hr3
  generalize L.length = n at *
  go_enter Try.func42, Try.ntmps42
  go_wp2
  exact bodyPost_ret (v := .tuple #[.agg #[.int .i64 y.1, .int .i64 y.2], .bool true]) (by simp [results, Try.results42, go_sem]) rfl ⟨rfl, bel1 _ _⟩

set_option maxRecDepth 100000 in
set_option maxHeartbeats 1000000 in
theorem at_none (w : World) (B db g : Nat) (caps : Array Value) (L : List (Int × Int)) (a : Option Addr) (cap : Nat) (lent : Bool) (ed : Int) (i : Int) (h : LAt w B db g caps L a cap lent ed) (hi : i < 0 ∨ (L.length : Int) ≤ i) :
    Calls Try.prog 42 #[.pointer (some ⟨db, 0, none⟩), .int .i64 i] w fun e w' => e = .returned (.tuple #[.agg #[.int .i64 0, .int .i64 0], .bool false]) ∧ Below w.heap.size w w' := by
  have hb0 := bel1 w (.cells #[.int .i64 0, .int .i64 0] 28)
  have h' := h.below hb0
  have c1 : (w.alloc (.cells #[.int .i64 0, .int .i64 0] 28)).cell? ⟨db, 1, none⟩ = some (.slice a L.length cap) := h'.head.cell 1
  have hl : (L.length : Int) ≤ 8192 := by have := h.len; omega
  clear h h'
  generalize L.length = n at *
  have hb1 : Below w.heap.size w ((w.alloc (.cells #[.int .i64 0, .int .i64 0] 28)).alloc (.cells #[.int .i64 0, .int .i64 0] 28)) := hb0.alloc (by simp) _
  by_cases h0 : i < 0
  · have hd : decide (i < 0) = true := by simpa using h0
    go_enter Try.func42, Try.ntmps42
    go_wp2
    exact bodyPost_ret (v := .tuple #[.agg #[.int .i64 0, .int .i64 0], .bool false]) (by simp [results, Try.results42, go_sem]) rfl ⟨rfl, hb1⟩
  · have hd : decide (i < 0) = false := by simpa using h0
    have h2 : (n : Int) ≤ i := by omega
    go_enter Try.func42, Try.ntmps42
    go_wp2
    exact bodyPost_ret (v := .tuple #[.agg #[.int .i64 0, .int .i64 0], .bool false]) (by simp [results, Try.results42, go_sem]) rfl ⟨rfl, hb1⟩

set_option maxRecDepth 100000 in
set_option maxHeartbeats 1000000 in
theorem clone_any (w : World) (B : Nat) (a : Option Addr) (n cap : Nat) (xs : List Value) (hown : w.ownsRow B 28 2 (.slice a n cap) n xs) (h1 : ∀ u ∈ xs, u.oneCell' = true) (hn : n ≤ 1048576) :
    Calls Try.prog 78 #[.slice a n cap] w fun e w' => ∃ v', e = .returned v' ∧ w'.ownsRow w.heap.size 28 2 v' n xs ∧ Below w.heap.size w w' := by
  obtain ⟨hnc, hxl, hcell⟩ := row_cell hown
  cases a with
  | none =>
    have hc0 : cap = 0 ∧ n = 0 := by
      rcases hown.2 with ⟨e, e2⟩ | ⟨g, cap', cur, e, _⟩
      · simp only [Value.slice.injEq] at e; omega
      · simp only [Value.slice.injEq] at e; simp at e
    obtain ⟨rfl, rfl⟩ := hc0
    clear hcell
    have hq : ∀ w, (binOp .eql 31 (.slice none 0 0) (.slice none 0 0)).run Try.prog w = .ok (.bool true) w := fun _ => by kernel_rfl
    go_enter Try.func78, Try.ntmps78
    go_wp2
    go_ret
    exact ⟨_, rfl, ⟨hown.1, .inl ⟨rfl, rfl⟩⟩, Below.refl _ _⟩
  | some ad =>
    have Hsrc : Hid (∀ j u, xs[j]? = some u → ∃ ad', some ad = some ad' ∧ (w.alloc (.cells #[] 28)).cell? (ad'.add j) = some u) := fun j u hu => by
      obtain ⟨g, e, _, h2, h3⟩ := hcell j u hu
      refine ⟨ad, rfl, ?_⟩
      cases e
      rw [addr_add, Nat.zero_add]
      exact (World.cell?_of_block (w := w) (a := ⟨g, j, none⟩) (Below.heap_alloc _ _ _ h2)).trans h3
    have Hown : Hid ((w.alloc (.cells #[] 28)).ownsRow w.heap.size 28 2 (.slice (some ⟨w.heap.size, 0, none⟩) 0 0) 0 []) := own_new w 28 2
    have Hxl : Hid (xs.length = n * 2) := hxl
    clear hown hcell hxl
    have hq : ∀ w, (binOp .eql 31 (.slice (some ad) n cap) (.slice none 0 0)).run Try.prog w = .ok (.bool false) w := fun _ => by kernel_rfl
    go_enter Try.func78, Try.ntmps78
    go_wp2_with (at_builtin; refine wpList_app rfl _ _ rfl Try.underlying31 infoE rfl (by decide) w.heap.size _ 0 [] rfl Hown.out _ n cap xs rfl Hxl.out Hsrc.out h1 (by unfold maxLen; omega) (by omega) (by simp) ?_; intro v' w' k1 k2 k3 k4; have K1 : Hid (w'.ownsRow w.heap.size 28 2 v' (0 + n) ([] ++ xs)) := k1; have K2 : Hid ((w.alloc (.cells #[] 28)).grownBy w' (some w.heap.size)) := k2; clear k1 k2 k3 k4)
    all_goals
      go_ret
      refine ⟨_, rfl, ?_, ⟨K2.out.os, K2.out.tape, K2.out.output, by have := K2.out.size; simp at this; omega, fun k hk => (K2.out.block k (by simp; omega) (by simp; omega)).trans (Below.heap_alloc _ _ _ hk)⟩⟩
      have := K1.out
      simpa using this

end Go.Proofs.Ytiggpbjgnododaa.T
