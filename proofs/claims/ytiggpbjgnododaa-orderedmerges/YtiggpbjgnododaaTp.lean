/- Where an element stands among elements that rise: place, at items. -/
import Derived.Test.YtiggpbjgnododaaSearch
import Derived.Shelf.Abstract
namespace Go.Proofs.Ytiggpbjgnododaa.T
open Go.RowKit Go.Shelf
set_option linter.unusedVariables false
attribute [local go_sem] Bel.cell

/-- A function that tells an order: it makes memory at most. -/
def Less (w : World) (g : Nat) (caps : Array Value) (lt : (Int × Int) → (Int × Int) → Bool) (dom : (Int × Int) → Prop) : Prop :=
  (∀ args w, (callFunc g args).run Try.prog w = .ok (.enter g args) w) ∧
  ∀ W, Below w.heap.size w W → ∀ x y, dom x → dom y → Calls Try.prog g (#[.agg #[.int .i64 x.1, .int .i64 x.2], .agg #[.int .i64 y.1, .int .i64 y.2]] ++ caps) W fun e W' => e = .returned (.bool (lt x y)) ∧ Below W.heap.size W W'

theorem Less.below {w w' : World} {g : Nat} {caps : Array Value} {lt : (Int × Int) → (Int × Int) → Bool} {dom : (Int × Int) → Prop} (h : Less w g caps lt dom) (hb : Below w.heap.size w w') : Less w' g caps lt dom :=
  ⟨h.1, fun W hW => h.2 W (hb.trans (hW.mono hb.size))⟩

set_option maxRecDepth 100000 in
set_option maxHeartbeats 1000000 in
theorem p11_any (w : World) (lb ib xb rb n cap i g : Nat) (caps : Array Value) (x y : Int × Int) (b : Bool) (cl : w.cell? ⟨lb, 0, none⟩ = some (.func (.func g) #[] caps)) (ci : w.cell? ⟨ib, 0, none⟩ = some (.slice (some ⟨rb, 0, none⟩) n cap))
    (cx : w.cell? ⟨xb, 0, none⟩ = some (.int .i64 x.1)) (cx2 : w.cell? ⟨xb, 1, none⟩ = some (.int .i64 x.2)) (cy : w.cell? ⟨rb, i * 2, none⟩ = some (.int .i64 y.1)) (cy2 : w.cell? ⟨rb, i * 2 + 1, none⟩ = some (.int .i64 y.2)) (h1 : lb < w.heap.size) (h2 : ib < w.heap.size) (h3 : xb < w.heap.size) (h4 : rb < w.heap.size) (hin : i < n) (hn : n ≤ 1048576)
    (eg : ∀ args w, (callFunc g args).run Try.prog w = .ok (.enter g args) w)
    (hless : ∀ W, Below w.heap.size w W → Calls Try.prog g (#[.agg #[.int .i64 y.1, .int .i64 y.2], .agg #[.int .i64 x.1, .int .i64 x.2]] ++ caps) W fun e W' => e = .returned (.bool b) ∧ Below W.heap.size W W') :
    Calls Try.prog 104 #[.int .i64 (i : Int), .pointer (some ⟨lb, 0, none⟩), .pointer (some ⟨ib, 0, none⟩), .pointer (some ⟨xb, 0, none⟩)] w fun e w' => e = .returned (.bool (!b)) ∧ Below w.heap.size w w' := by
  have hi1 : (0 : Int) ≤ (i : Int) := by omega
  have hi2 : (i : Int) < (n : Int) := by omega
  go_enter Try.func104, Try.ntmps104
  go_wp2
  refine wp_region_bel (by kernel_rfl) (by kernel_rfl) ?_
  intro hne
  repeat go_big_quiet_step ((exact Calls.bel_of (hless _ (Bel.h _))))
  refine wpQuiet_nil ?_
  rintro _ ⟨u, rfl⟩
  go_wp2
  go_ret
  exact ⟨rfl, u.h⟩

/-- Elements of a slice, from a block's beginning on. -/
def Items (w : World) (a : Option Addr) (L : List (Int × Int)) : Prop := ∀ i y, L[i]? = some y → ∃ rb, a = some ⟨rb, 0, none⟩ ∧ rb < w.heap.size ∧ w.cell? ⟨rb, i * 2, none⟩ = some (.int .i64 y.1) ∧ w.cell? ⟨rb, i * 2 + 1, none⟩ = some (.int .i64 y.2)

theorem Items.below {w w' : World} {a : Option Addr} {L : List (Int × Int)} (h : Items w a L) (hb : Below w.heap.size w w') : Items w' a L := by
  intro i y hy
  obtain ⟨rb, h1, h2, h3, h4⟩ := h i y hy
  exact ⟨rb, h1, Nat.lt_of_lt_of_le h2 hb.size, (hb.cell (p := ⟨rb, i * 2, none⟩) h2).trans h3, (hb.cell (p := ⟨rb, i * 2 + 1, none⟩) h2).trans h4⟩

/-- k of them are less than x: the first ones. -/
structure Cut (lt : (Int × Int) → (Int × Int) → Bool) (L : List (Int × Int)) (x : Int × Int) (k : Nat) : Prop where
  le : k ≤ L.length
  lo : ∀ i y, L[i]? = some y → i < k → lt y x = true
  hi : ∀ i y, L[i]? = some y → k ≤ i → lt y x = false

/-- Whether the one behind these is one with x. -/
def thereB (lt : (Int × Int) → (Int × Int) → Bool) (L : List (Int × Int)) (x : Int × Int) (k : Nat) : Bool := match L[k]? with
  | some y => !lt x y
  | none => false

theorem search_place (w : World) (lb ib xb g : Nat) (a : Option Addr) (cap : Nat) (caps : Array Value) (lt : (Int × Int) → (Int × Int) → Bool) (dom : (Int × Int) → Prop) (x : Int × Int) (L : List (Int × Int)) (k : Nat)
    (cl : w.cell? ⟨lb, 0, none⟩ = some (.func (.func g) #[] caps)) (ci : w.cell? ⟨ib, 0, none⟩ = some (.slice a L.length cap)) (cx : w.cell? ⟨xb, 0, none⟩ = some (.int .i64 x.1)) (cx2 : w.cell? ⟨xb, 1, none⟩ = some (.int .i64 x.2)) (h1 : lb < w.heap.size) (h2 : ib < w.heap.size) (h3 : xb < w.heap.size)
    (hit : Items w a L) (hn : L.length ≤ 1048576) (hless : Less w g caps lt dom) (hx : dom x) (hL : ∀ y ∈ L, dom y) (hc : Cut lt L x k) :
    Calls Try.prog 103 #[.int .i64 (L.length : Int), .func (.func 104) #[] #[.pointer (some ⟨lb, 0, none⟩), .pointer (some ⟨ib, 0, none⟩), .pointer (some ⟨xb, 0, none⟩)]] w fun e w' => e = .returned (.int .i64 (k : Int)) ∧ Below w.heap.size w w' := by
  refine search_any L.length k hn hc.le 104 _ (fun i => match L[i]? with | some y => !lt y x | none => true) w ?_ ?_ (enters_of Try.func104 (by kernel_rfl) rfl) ?_
  · intro i hi
    have hlt : i < L.length := by have := hc.le; omega
    have := hc.lo i _ (List.getElem?_eq_getElem hlt) hi
    simp [List.getElem?_eq_getElem hlt, this]
  · intro i hi hlt
    have := hc.hi i _ (List.getElem?_eq_getElem hlt) hi
    simp [List.getElem?_eq_getElem hlt, this]
  · intro W hW i hi
    obtain ⟨rb, rfl, hr1, hr2, hr3⟩ := (hit.below hW) i _ (List.getElem?_eq_getElem hi)
    have := hW.size
    simp only [List.getElem?_eq_getElem hi]
    exact p11_any W lb ib xb rb L.length cap i g caps x L[i] (lt L[i] x) ((hW.cell (p := ⟨lb, 0, none⟩) h1).trans cl) ((hW.cell (p := ⟨ib, 0, none⟩) h2).trans ci) ((hW.cell (p := ⟨xb, 0, none⟩) h3).trans cx) ((hW.cell (p := ⟨xb, 1, none⟩) h3).trans cx2) hr2 hr3
      (by omega) (by omega) (by omega) hr1 hi hn hless.1 (fun W' hW' => hless.2 W' (hW.trans (hW'.mono hW.size)) _ _ (hL _ (List.getElem_mem _)) hx)

theorem wrote (w w1 w2 : World) (tb ab : Nat) (v u vt va : Value) (n4 : tb ≠ ab) (ct : w2.cell? ⟨tb, 0, none⟩ = some vt) (ca : w2.cell? ⟨ab, 0, none⟩ = some va) (ft : w2.frozen? ⟨tb, 0, none⟩ = false) (fa : w2.frozen? ⟨ab, 0, none⟩ = false)
    (hb : Below w.heap.size w w1) (hb2 : Below w1.heap.size w1 w2) (b : Bool) (k : Int) (hv : v = .bool b) (hu : u = .int .i64 k) :
    ((w2.setCell ⟨tb, 0, none⟩ v).setCell ⟨ab, 0, none⟩ u).cell? ⟨tb, 0, none⟩ = some (.bool b) ∧ ((w2.setCell ⟨tb, 0, none⟩ v).setCell ⟨ab, 0, none⟩ u).cell? ⟨ab, 0, none⟩ = some (.int .i64 k) ∧
      ((w2.setCell ⟨tb, 0, none⟩ v).setCell ⟨ab, 0, none⟩ u).frozen? ⟨tb, 0, none⟩ = false ∧ ((w2.setCell ⟨tb, 0, none⟩ v).setCell ⟨ab, 0, none⟩ u).frozen? ⟨ab, 0, none⟩ = false ∧ Turn (fun b => b = tb ∨ b = ab) w ((w2.setCell ⟨tb, 0, none⟩ v).setCell ⟨ab, 0, none⟩ u) := by
  subst hv hu
  refine ⟨?_, ?_, ?_, ?_, ?_⟩
  · simp [go_sem, ct]
  · simp [go_sem, ca]
  · simp [go_sem, ft]
  · simp [go_sem, fa]
  · exact (((Turn.refl _ w).then (hb.trans (hb2.mono hb.size)) (Nat.le_refl _)).setCell (p := ⟨tb, 0, none⟩) (.inl rfl) _).setCell (p := ⟨ab, 0, none⟩) (.inr rfl) _

set_option maxRecDepth 100000 in
set_option maxHeartbeats 2000000 in
theorem p1_any (w : World) (lb ib xb tb ab g : Nat) (a : Option Addr) (cap : Nat) (caps : Array Value) (lt : (Int × Int) → (Int × Int) → Bool) (dom : (Int × Int) → Prop) (x : Int × Int) (L : List (Int × Int)) (k : Nat) (vt va : Value)
    (cl : w.cell? ⟨lb, 0, none⟩ = some (.func (.func g) #[] caps)) (ci : w.cell? ⟨ib, 0, none⟩ = some (.slice a L.length cap)) (cx : w.cell? ⟨xb, 0, none⟩ = some (.int .i64 x.1)) (cx2 : w.cell? ⟨xb, 1, none⟩ = some (.int .i64 x.2)) (ct : w.cell? ⟨tb, 0, none⟩ = some vt) (ca : w.cell? ⟨ab, 0, none⟩ = some va)
    (ft : w.frozen? ⟨tb, 0, none⟩ = false) (fa : w.frozen? ⟨ab, 0, none⟩ = false) (h1 : lb < w.heap.size) (h2 : ib < w.heap.size) (h3 : xb < w.heap.size) (h4 : tb < w.heap.size) (h5 : ab < w.heap.size)
    (n1 : tb ≠ lb) (n2 : tb ≠ ib) (n3 : tb ≠ xb) (n4 : tb ≠ ab) (n5 : ∀ rb o, a = some ⟨rb, o, none⟩ → tb ≠ rb) (hit : Items w a L) (hn : L.length ≤ 1048576) (hless : Less w g caps lt dom) (hx : dom x) (hL : ∀ y ∈ L, dom y) (hc : Cut lt L x k) :
    Calls Try.prog 102 #[.pointer (some ⟨ib, 0, none⟩), .pointer (some ⟨lb, 0, none⟩), .pointer (some ⟨xb, 0, none⟩), .pointer (some ⟨tb, 0, none⟩), .pointer (some ⟨ab, 0, none⟩)] w fun e w' =>
      (∃ v, e = .returned v) ∧ (w'.cell? ⟨tb, 0, none⟩ = some (.bool (thereB lt L x k)) ∧ w'.cell? ⟨ab, 0, none⟩ = some (.int .i64 (k : Int)) ∧ w'.frozen? ⟨tb, 0, none⟩ = false ∧ w'.frozen? ⟨ab, 0, none⟩ = false ∧ Turn (fun b => b = tb ∨ b = ab) w w') := by
  have hs := search_place w lb ib xb g a cap caps lt dom x L k cl ci cx cx2 h1 h2 h3 hit hn hless hx hL hc
  have hmf : ∀ (fn : Fn) (first cap : Array Value) (w : World), (Instr.makeFunc fn first cap).run Try.prog w = .ok (.func fn first cap) w := fun _ _ _ _ => rfl
  have hnot : ∀ (x : Bool) (w : World), (Op.unary .not (.bool x)).run Try.prog w = .ok (.bool (!x)) w := fun _ _ => rfl
  have Hit : Hid (Items w a L) := hit
  have Hl : Hid (Less w g caps lt dom) := hless
  have HL : Hid (∀ y ∈ L, dom y) := hL
  have Hc : Hid (Cut lt L x k) := hc
  have hn' : (L.length : Int) ≤ 1048576 := by omega
  clear hit hless hL hc
  by_cases hk : k < L.length
  · obtain ⟨rb, rfl, hr1, hr2, hr3⟩ := Hit.out k _ (List.getElem?_eq_getElem hk)
    have n6 : tb ≠ rb := n5 rb 0 rfl
    have hk1 : (k : Int) < (L.length : Int) := by omega
    have hk2 : (0 : Int) ≤ (k : Int) := by omega
    have hd : decide ((k : Int) < (L.length : Int)) = true := by simpa using hk1
    have hth : Hid (thereB lt L x k = !lt x L[k]) := by show _ = _; simp [thereB, List.getElem?_eq_getElem hk]
    have hdy : dom L[k] := HL.out _ (List.getElem_mem _)
    generalize L[k] = y at *
    generalize L.length = n at *
    go_enter Try.func102, Try.ntmps102
    go_wp2_with fail
    refine hs.mono ?_
    rintro e w1 ⟨rfl, hb⟩
    have cl1 : w1.cell? ⟨lb, 0, none⟩ = some (.func (.func g) #[] caps) := (hb.cell (p := ⟨lb, 0, none⟩) h1).trans cl
    have ci1 : w1.cell? ⟨ib, 0, none⟩ = some (.slice (some ⟨rb, 0, none⟩) n cap) := (hb.cell (p := ⟨ib, 0, none⟩) h2).trans ci
    have cx1 : w1.cell? ⟨xb, 0, none⟩ = some (.int .i64 x.1) := (hb.cell (p := ⟨xb, 0, none⟩) h3).trans cx
    have cx3 : w1.cell? ⟨xb, 1, none⟩ = some (.int .i64 x.2) := (hb.cell (p := ⟨xb, 1, none⟩) h3).trans cx2
    have cy1 : w1.cell? ⟨rb, k * 2, none⟩ = some (.int .i64 y.1) := (hb.cell (p := ⟨rb, k * 2, none⟩) hr1).trans hr2
    have cy3 : w1.cell? ⟨rb, k * 2 + 1, none⟩ = some (.int .i64 y.2) := (hb.cell (p := ⟨rb, k * 2 + 1, none⟩) hr1).trans hr3
    have ct1 : w1.cell? ⟨tb, 0, none⟩ = some vt := (hb.cell (p := ⟨tb, 0, none⟩) h4).trans ct
    have ca1 : w1.cell? ⟨ab, 0, none⟩ = some va := (hb.cell (p := ⟨ab, 0, none⟩) h5).trans ca
    have ft1 : w1.frozen? ⟨tb, 0, none⟩ = false := (hb.frozen (p := ⟨tb, 0, none⟩) h4).trans ft
    have fa1 : w1.frozen? ⟨ab, 0, none⟩ = false := (hb.frozen (p := ⟨ab, 0, none⟩) h5).trans fa
    have hz := hb.size
    have HB : Hid (Below w.heap.size w w1) := hb
    have hl1 : ∀ W, Below w1.heap.size w1 W → Calls Try.prog g (#[.agg #[.int .i64 x.1, .int .i64 x.2], .agg #[.int .i64 y.1, .int .i64 y.2]] ++ caps) W fun e W' => e = .returned (.bool (lt x y)) ∧ W'.cell? ⟨lb, 0, none⟩ = some (.func (.func g) #[] caps) ∧ W'.cell? ⟨ib, 0, none⟩ = some (.slice (some ⟨rb, 0, none⟩) n cap) ∧
        W'.cell? ⟨xb, 0, none⟩ = some (.int .i64 x.1) ∧ W'.cell? ⟨xb, 1, none⟩ = some (.int .i64 x.2) ∧ W'.cell? ⟨rb, k * 2, none⟩ = some (.int .i64 y.1) ∧ W'.cell? ⟨rb, k * 2 + 1, none⟩ = some (.int .i64 y.2) ∧ W'.cell? ⟨tb, 0, none⟩ = some vt ∧ W'.cell? ⟨ab, 0, none⟩ = some va ∧ W'.frozen? ⟨tb, 0, none⟩ = false ∧ W'.frozen? ⟨ab, 0, none⟩ = false ∧ Hid (Below w1.heap.size w1 W') := fun W hW =>
      (Hl.out.2 W (HB.out.trans (hW.mono hz)) x y hx hdy).mono fun e W' ⟨he, hW'⟩ => by
        have hb3 := hW.trans (hW'.mono hW.size)
        exact ⟨he, (hb3.cell (p := ⟨lb, 0, none⟩) (Nat.lt_of_lt_of_le h1 hz)).trans cl1, (hb3.cell (p := ⟨ib, 0, none⟩) (Nat.lt_of_lt_of_le h2 hz)).trans ci1, (hb3.cell (p := ⟨xb, 0, none⟩) (Nat.lt_of_lt_of_le h3 hz)).trans cx1, (hb3.cell (p := ⟨xb, 1, none⟩) (Nat.lt_of_lt_of_le h3 hz)).trans cx3, (hb3.cell (p := ⟨rb, k * 2, none⟩) (Nat.lt_of_lt_of_le hr1 hz)).trans cy1, (hb3.cell (p := ⟨rb, k * 2 + 1, none⟩) (Nat.lt_of_lt_of_le hr1 hz)).trans cy3,
          (hb3.cell (p := ⟨tb, 0, none⟩) (Nat.lt_of_lt_of_le h4 hz)).trans ct1, (hb3.cell (p := ⟨ab, 0, none⟩) (Nat.lt_of_lt_of_le h5 hz)).trans ca1, (hb3.frozen (p := ⟨tb, 0, none⟩) (Nat.lt_of_lt_of_le h4 hz)).trans ft1, (hb3.frozen (p := ⟨ab, 0, none⟩) (Nat.lt_of_lt_of_le h5 hz)).trans fa1, hb3⟩
    have eg := Hl.out.1
    clear cl ci cx cx2 ct ca ft fa hr2 hr3 hb hs
    go_wp2
    go_region_held3 (fun W => W.cell? ⟨lb, 0, none⟩ = some (.func (.func g) #[] caps) ∧ W.cell? ⟨ib, 0, none⟩ = some (.slice (some ⟨rb, 0, none⟩) n cap) ∧ W.cell? ⟨xb, 0, none⟩ = some (.int .i64 x.1) ∧ W.cell? ⟨xb, 1, none⟩ = some (.int .i64 x.2) ∧ W.cell? ⟨rb, k * 2, none⟩ = some (.int .i64 y.1) ∧ W.cell? ⟨rb, k * 2 + 1, none⟩ = some (.int .i64 y.2)) (go_keep)
      (first | (refine (hl1 _ (by first | exact Below.refl _ _ | exact (Below.refl _ _).drew | exact (Below.refl _ _).drewN _)).mono ?_; rintro e w2 ⟨rfl, cl2, ci2, cx4, cx5, cy4, cy5, ct2, ca2, ft2, fa2, hb2⟩))
    go_wp2
    go_end0
    exact ⟨⟨_, rfl⟩, wrote w w1 w2 tb ab _ _ vt va n4 ct2 ca2 ft2 fa2 HB.out hb2.out _ _ (v_bool hth.out.symm) rfl⟩
  · have hkn : k = L.length := by have := Hc.out.le; omega
    have hd : decide ((k : Int) < (L.length : Int)) = false := by simp; omega
    have hd' : decide (k < L.length) = false := by simp; omega
    have hth : Hid (thereB lt L x k = false) := by show _ = _; simp [thereB, List.getElem?_eq_none (Nat.le_of_not_lt hk)]
    generalize L.length = n at *
    go_enter Try.func102, Try.ntmps102
    go_wp2_with fail
    refine hs.mono ?_
    rintro e w1 ⟨rfl, hb⟩
    have ci1 : w1.cell? ⟨ib, 0, none⟩ = some (.slice a n cap) := (hb.cell (p := ⟨ib, 0, none⟩) h2).trans ci
    have ct1 : w1.cell? ⟨tb, 0, none⟩ = some vt := (hb.cell (p := ⟨tb, 0, none⟩) h4).trans ct
    have ca1 : w1.cell? ⟨ab, 0, none⟩ = some va := (hb.cell (p := ⟨ab, 0, none⟩) h5).trans ca
    have ft1 : w1.frozen? ⟨tb, 0, none⟩ = false := (hb.frozen (p := ⟨tb, 0, none⟩) h4).trans ft
    have fa1 : w1.frozen? ⟨ab, 0, none⟩ = false := (hb.frozen (p := ⟨ab, 0, none⟩) h5).trans fa
    have HB : Hid (Below w.heap.size w w1) := hb
    clear cl ci cx cx2 ct ca ft fa hb hs hkn
    go_wp2
    go_region
    go_wp2
    go_end0
    exact ⟨⟨_, rfl⟩, wrote w w1 w1.drew tb ab _ _ vt va n4 ct1 ca1 ft1 fa1 HB.out (Below.refl _ _).drew _ _ (v_bool hth.out.symm) rfl⟩

set_option maxRecDepth 100000 in
set_option maxHeartbeats 2000000 in
theorem place_any (w : World) (g : Nat) (a : Option Addr) (cap : Nat) (caps : Array Value) (lt : (Int × Int) → (Int × Int) → Bool) (dom : (Int × Int) → Prop) (x : Int × Int) (L : List (Int × Int)) (k : Nat)
    (hit : Items w a L) (ha : ∀ rb o, a = some ⟨rb, o, none⟩ → rb < w.heap.size) (hn : L.length ≤ 1048576) (hless : Less w g caps lt dom) (hx : dom x) (hL : ∀ y ∈ L, dom y) (hc : Cut lt L x k) :
    Calls Try.prog 77 #[.func (.func g) #[] caps, .slice a L.length cap, .agg #[.int .i64 x.1, .int .i64 x.2]] w fun e w' => e = .returned (.tuple #[.int .i64 (k : Int), .bool (thereB lt L x k), .bool true]) ∧ Below w.heap.size w w' := by
  obtain ⟨W, hW⟩ : ∃ W, (((((w.alloc (.cells #[.func (.func g) #[] caps] 29)).alloc (.cells #[.slice a L.length cap] 31)).alloc (.cells #[.int .i64 x.1, .int .i64 x.2] 28)).alloc (.cells #[.int .i64 0] 3)).alloc (.cells #[.bool false] 4)) = W := ⟨_, rfl⟩
  have hb0 : Below w.heap.size w W := by
    rw [← hW]
    exact (((((Below.refl _ _).alloc (Nat.le_refl _) _).alloc (by simp) _).alloc (by simp; omega) _).alloc (by simp; omega) _).alloc (by simp; omega) _
  have hsz : W.heap.size = w.heap.size + 5 := by rw [← hW]; simp
  have i0 : IsCells W w.heap.size #[.func (.func g) #[] caps] := by rw [← hW]; exact ((((isCells_new w _ _).alloc _).alloc _).alloc _).alloc _
  have i1 : IsCells W (w.heap.size + 1) #[.slice a L.length cap] := by
    have h := (((isCells_new (w.alloc (.cells #[.func (.func g) #[] caps] 29)) #[.slice a L.length cap] 31).alloc (.cells #[.int .i64 x.1, .int .i64 x.2] 28)).alloc (.cells #[.int .i64 0] 3)).alloc (.cells #[.bool false] 4)
    rw [hW] at h
    simpa using h
  have i2 : IsCells W (w.heap.size + 2) #[.int .i64 x.1, .int .i64 x.2] := by
    have h := ((isCells_new ((w.alloc (.cells #[.func (.func g) #[] caps] 29)).alloc (.cells #[.slice a L.length cap] 31)) #[.int .i64 x.1, .int .i64 x.2] 28).alloc (.cells #[.int .i64 0] 3)).alloc (.cells #[.bool false] 4)
    rw [hW] at h
    simpa using h
  have i3 : IsCells W (w.heap.size + 3) #[.int .i64 0] := by
    have h := (isCells_new (((w.alloc (.cells #[.func (.func g) #[] caps] 29)).alloc (.cells #[.slice a L.length cap] 31)).alloc (.cells #[.int .i64 x.1, .int .i64 x.2] 28)) #[.int .i64 0] 3).alloc (.cells #[.bool false] 4)
    rw [hW] at h
    simpa using h
  have i4 : IsCells W (w.heap.size + 4) #[.bool false] := by
    have h := isCells_new ((((w.alloc (.cells #[.func (.func g) #[] caps] 29)).alloc (.cells #[.slice a L.length cap] 31)).alloc (.cells #[.int .i64 x.1, .int .i64 x.2] 28)).alloc (.cells #[.int .i64 0] 3)) #[.bool false] 4
    rw [hW] at h
    simpa using h
  have h1 := p1_any W w.heap.size (w.heap.size + 1) (w.heap.size + 2) (w.heap.size + 4) (w.heap.size + 3) g a cap caps lt dom x L k (.bool false) (.int .i64 0) (i0.cell 0) (i1.cell 0) (i2.cell 0) (i2.cell 1) (i4.cell 0) (i3.cell 0) (i4.frozen 0) (i3.frozen 0)
    (by omega) (by omega) (by omega) (by omega) (by omega) (by omega) (by omega) (by omega) (by omega) (fun rb o e => by have := ha rb o e; omega) (hit.below hb0) hn (hless.below hb0) hx hL hc
  have h2 := asked_any 102 _ W _ (enters_of Try.func102 (by kernel_rfl) rfl) h1
  have hmf : ∀ (fn : Fn) (first cap : Array Value) (w : World), (Instr.makeFunc fn first cap).run Try.prog w = .ok (.func fn first cap) w := fun _ _ _ _ => rfl
  have HB : Hid (Below w.heap.size w W) := hb0
  have HS : Hid (W.heap.size = w.heap.size + 5) := hsz
  have H2 : Hid (Calls Try.prog 81 _ W _) := h2
  clear h1 h2 i0 i1 i2 i3 i4 hb0 hsz hit hless hL hc
  have HW : Hid ((((((w.alloc (.cells #[.func (.func g) #[] caps] 29)).alloc (.cells #[.slice a L.length cap] 31)).alloc (.cells #[.int .i64 x.1, .int .i64 x.2] 28)).alloc (.cells #[.int .i64 0] 3)).alloc (.cells #[.bool false] 4)) = W) := hW
  clear hW
  go_enter Try.func77, Try.ntmps77
  go_wp2_with fail
  rw [HW.out]
  refine H2.out.mono ?_
  rintro e w1 ⟨rfl, c1, c2, f1, f2, ht⟩
  have HT : Hid (Turn (fun b => b = w.heap.size + 4 ∨ b = w.heap.size + 3) W w1) := ht
  have ne : ¬ (w.heap.size + 4 = w.heap.size + 3) := by omega
  clear ht H2 HW
  obtain ⟨b, hbe⟩ : ∃ b, Hid (thereB lt L x k = b) := ⟨_, rfl⟩
  rw [hbe.out] at c1
  have HB1 : Hid (Below w.heap.size w w1) := HB.out.trans (HT.out.below (by have := HS.out; omega) (fun k hk => by omega))
  clear HB HT
  go_wp2
  go_region
  all_goals
    go_wp2
    refine bodyPost_ret (v := .tuple #[.int .i64 (k : Int), .bool b, .bool true]) (by simp [results, Try.results77, go_sem, c1, c2]) rfl ⟨by rw [hbe.out], ?_⟩
    exact ((HB1.out.setCell (p := ⟨w.heap.size + 3, 0, none⟩) (by simp) _).setCell (p := ⟨w.heap.size + 4, 0, none⟩) (by simp) _).drew

end Go.Proofs.Ytiggpbjgnododaa.T
