/- Spoil: it writes over a forest and the room behind its lists, and over nothing else. -/
import Derived.Test.YtmifejkddgcbmaaGreatA20
import Derived.Test.YtmifejkddgcbmaaGreatC02
namespace Go.Proofs.YtmifejkddgcbmaaGreat
open Go.RowKit
set_option linter.unusedVariables false
set_option linter.unusedSimpArgs false

/-- A cell of a row of one's own stored. -/
theorem own_set {w : World} {base : Nat} {e : TypeId} {size : Nat} {g n cap : Nat} {xs : List Value} (h : w.ownsRow base e size (.slice (some ⟨g, 0, none⟩) n cap) n xs) (j : Nat) (u : Value) : (w.setCell ⟨g, j, none⟩ u).ownsRow base e size (.slice (some ⟨g, 0, none⟩) n cap) n (xs.set j u) := by
  refine ⟨by rw [List.length_set]; exact h.1, ?_⟩
  rcases h.2 with ⟨e1, _⟩ | ⟨g', cap', cur, e1, hb, hh, h1, h2, h3, h4⟩
  · cases e1
  · simp only [Value.slice.injEq, Option.some.injEq, Addr.mk.injEq, and_true, true_and] at e1
    obtain ⟨rfl, rfl⟩ := e1
    refine .inr ⟨g, cap, cur.setIfInBounds j u, rfl, hb, ?_, h1, h2, by simpa using h3, ?_⟩
    · simp [World.setCell, Array.getElem?_modify, hh]
    · rw [Array.toList_setIfInBounds, List.take_set, h4]

theorem own_frozen {w : World} {base : Nat} {e : TypeId} {size : Nat} {g n cap : Nat} {xs : List Value} (h : w.ownsRow base e size (.slice (some ⟨g, 0, none⟩) n cap) n xs) (j : Nat) : w.frozen? ⟨g, j, none⟩ = false := by
  rcases h.2 with ⟨e1, _⟩ | ⟨g', cap', cur, e1, hb, hh, h1, h2, h3, h4⟩
  · cases e1
  · simp only [Value.slice.injEq, Option.some.injEq, Addr.mk.injEq, and_true, true_and] at e1
    obtain ⟨rfl, rfl⟩ := e1
    simp [World.frozen?, hh]

theorem Turn.cellOf {A : Nat → Prop} {w w' : World} (h : Turn A w w') {b : Nat} (hb : b < w.heap.size) (ha : ¬ A b) (o : Nat) : w'.cell? ⟨b, o, none⟩ = w.cell? ⟨b, o, none⟩ := World.cell?_of_block (h.block b hb ha)
theorem Turn.frozenOf {A : Nat → Prop} {w w' : World} (h : Turn A w w') {b : Nat} (hb : b < w.heap.size) (ha : ¬ A b) (o : Nat) : w'.frozen? ⟨b, o, none⟩ = w.frozen? ⟨b, o, none⟩ := World.frozen?_of_block (h.block b hb ha)
theorem Turn.grown {A : Nat → Prop} {a w w' : World} {row : Option Nat} (h : Turn A a w) (hg : w.grownBy w' row) (hr : ∀ k, row = some k → A k) : Turn A a w' :=
  ⟨hg.os.trans h.os, hg.tape.trans h.tape, hg.output.trans h.output, Nat.le_trans h.size hg.size, fun k hk ha => (hg.block k (Nat.lt_of_lt_of_le hk h.size) (fun e => ha (hr k e.symm))).trans (h.block k hk ha)⟩

/-- A forest, spoilt up to a place. -/
structure SpSt (w wr : World) (d : Nat) (a : Option Addr) (c : Nat) (L : List (T d)) (xs : List Value) (R : Nat → Prop) (Rk : Nat → Nat → Prop) (i : Nat) : Prop where
  turn : Turn (fun b => R b ∨ (Value.slice a L.length c).ownBlock = some b) w wr
  row : ∃ ys, wr.ownsRow 0 40 5 (.slice a L.length c) L.length ys ∧ ∀ j, i * 5 ≤ j → ys[j]? = xs[j]?
  trees : ∀ i' k, i ≤ i' → L[i']? = some k → ∃ u : Array Value, u.size = 5 ∧ (∀ j, j < 5 → xs[i' * 5 + j]? = u[j]?) ∧ TreeS wr d (Rk i') u k

/-- What is known ahead. -/
structure SpIn (w : World) (d : Nat) (a : Option Addr) (c : Nat) (L : List (T d)) (R : Nat → Prop) (Rk : Nat → Nat → Prop) : Prop where
  own : ∀ b, R b → b < w.heap.size ∧ (Value.slice a L.length c).ownBlock ≠ some b
  sub : ∀ i b, i < L.length → Rk i b → R b
  apart : ∀ i j b, i < j → j < L.length → Rk i b → ¬ Rk j b
  blk : ∀ k, (Value.slice a L.length c).ownBlock = some k → k < w.heap.size

/-- The tree at the place. -/
theorem SpSt.tree {w wr : World} {d : Nat} {a : Option Addr} {c : Nat} {L : List (T (d + 1))} {xs : List Value} {R : Nat → Prop} {Rk : Nat → Nat → Prop} {i : Nat} (h : SpSt w wr (d + 1) a c L xs R Rk i) {t : T (d + 1)} (ht : L[i]? = some t) :
    ∃ g aa ac ka kc, a = some ⟨g, 0, none⟩ ∧ g < wr.heap.size ∧ L.length ≤ c ∧ wr.cell? ⟨g, i * 5, none⟩ = some (.int .i64 t.kind) ∧ wr.cell? ⟨g, i * 5 + 1, none⟩ = some (.string t.name) ∧ wr.cell? ⟨g, i * 5 + 2, none⟩ = some (.slice aa t.attrs.length ac) ∧ wr.cell? ⟨g, i * 5 + 3, none⟩ = some (.string t.text) ∧ wr.cell? ⟨g, i * 5 + 4, none⟩ = some (.slice ka t.kids.length kc) ∧ TreeS wr (d + 1) (Rk i) (tv t.kind t.name aa t.attrs.length ac t.text ka t.kids.length kc) t := by
  obtain ⟨ys, ho, hy⟩ := h.row
  obtain ⟨u, e1, e2, e3⟩ := h.trees i t (Nat.le_refl _) ht
  obtain ⟨r1, r2, r3⟩ := row_cell ho
  have e3' := e3
  obtain ⟨aa, ac, ka, kc, zs, Rf, rfl, -⟩ := e3'
  have hj : ∀ j v, (tv t.kind t.name aa t.attrs.length ac t.text ka t.kids.length kc)[j]? = some v → j < 5 → ∃ g, a = some ⟨g, 0, none⟩ ∧ g < wr.heap.size ∧ wr.cell? ⟨g, i * 5 + j, none⟩ = some v := fun j v hv hj => by
    obtain ⟨g, q1, -, q2, q3⟩ := r3 (i * 5 + j) v (by rw [hy _ (by omega), e2 j hj]; exact hv)
    exact ⟨g, q1, q2, q3⟩
  obtain ⟨g, rfl, hg, c0⟩ := hj 0 _ rfl (by omega)
  obtain ⟨_, q1, -, c1⟩ := hj 1 _ rfl (by omega)
  cases q1
  obtain ⟨_, q2, -, c2⟩ := hj 2 _ rfl (by omega)
  cases q2
  obtain ⟨_, q3, -, c3⟩ := hj 3 _ rfl (by omega)
  cases q3
  obtain ⟨_, q4, -, c4⟩ := hj 4 _ rfl (by omega)
  cases q4
  exact ⟨g, aa, ac, ka, kc, rfl, hg, r1, c0, c1, c2, c3, c4, e3⟩

/-- One further: whatever is stored at the place. -/
theorem SpSt.next {w wr w5 : World} {d : Nat} {g c : Nat} {L : List (T d)} {xs : List Value} {R : Nat → Prop} {Rk : Nat → Nat → Prop} {i : Nat} (h : SpSt w wr d (some ⟨g, 0, none⟩) c L xs R Rk i) (hin : SpIn w d (some ⟨g, 0, none⟩) c L R Rk) (hi : i < L.length) (ht : Turn (Rk i) wr w5) (v0 v1 v2 v3 v4 : Value) :
    SpSt w (((((w5.setCell ⟨g, i * 5, none⟩ v0).setCell ⟨g, i * 5 + 1, none⟩ v1).setCell ⟨g, i * 5 + 2, none⟩ v2).setCell ⟨g, i * 5 + 3, none⟩ v3).setCell ⟨g, i * 5 + 4, none⟩ v4) d (some ⟨g, 0, none⟩) c L xs R Rk (i + 1) := by
  have hgR : ∀ b, R b → b ≠ g := fun b hb e => (hin.own b hb).2 (by rw [e]; rfl)
  have hgs : g < wr.heap.size := Nat.lt_of_lt_of_le (hin.blk g rfl) h.turn.size
  have hgk : ¬ Rk i g := fun e => hgR g (hin.sub i g hi e) rfl
  refine ⟨?_, ?_, fun i' k hi' hk => ?_⟩
  · have h5 : Turn (fun b => R b ∨ (Value.slice (some ⟨g, 0, none⟩) L.length c).ownBlock = some b) w w5 := h.turn.trans (ht.mono (fun b _ hb => .inl (hin.sub i b hi hb)))
    have hgo : R g ∨ (Value.slice (some ⟨g, 0, none⟩) L.length c).ownBlock = some g := .inr rfl
    exact ((((h5.setCell (p := ⟨g, i * 5, none⟩) hgo _).setCell (p := ⟨g, i * 5 + 1, none⟩) hgo _).setCell (p := ⟨g, i * 5 + 2, none⟩) hgo _).setCell (p := ⟨g, i * 5 + 3, none⟩) hgo _).setCell (p := ⟨g, i * 5 + 4, none⟩) hgo _
  · obtain ⟨ys, ho, hy⟩ := h.row
    have ho5 := own_of_block ho (fun k hk => ht.block k (by cases hk; exact hgs) (by cases hk; exact hgk))
    refine ⟨_, own_set (own_set (own_set (own_set (own_set ho5 _ _) _ _) _ _) _ _) _ _, fun j hj => ?_⟩
    rw [List.getElem?_set_ne (by omega), List.getElem?_set_ne (by omega), List.getElem?_set_ne (by omega), List.getElem?_set_ne (by omega), List.getElem?_set_ne (by omega)]
    exact hy j (by omega)
  · obtain ⟨u, e1, e2, e3⟩ := h.trees i' k (by omega) hk
    have hl := (List.getElem?_eq_some_iff.1 hk).1
    refine ⟨u, e1, e2, e3.to (fun b hb => ?_) (fun _ hb => hb)⟩
    have hR := hin.sub i' b hl hb
    have hne := hgR b hR
    rw [Below.heap_setCell _ _ _ _ hne, Below.heap_setCell _ _ _ _ hne, Below.heap_setCell _ _ _ _ hne, Below.heap_setCell _ _ _ _ hne, Below.heap_setCell _ _ _ _ hne]
    exact ht.block b (Nat.lt_of_lt_of_le (hin.own b hR).1 h.turn.size) (fun hb' => hin.apart i i' b (by omega) hl hb' hb)

def Spoiled (w : World) (R : Nat → Prop) (v : Value) (e : Ending) (w' : World) : Prop := e = .returned (.tuple #[]) ∧ Turn (fun b => R b ∨ v.ownBlock = some b) w w'

def SpoilAll (d : Nat) : Prop := ∀ (w : World) (L : List (T d)) (a : Option Addr) (c : Nat) (xs : List Value) (R : Nat → Prop), L.length ≤ 600000 → (∀ b, R b → b < w.heap.size ∧ (Value.slice a L.length c).ownBlock ≠ some b) → w.ownsRow 0 40 5 (.slice a L.length c) L.length xs → ForS (TreeS w d) R xs L →
  Calls Tryz.prog 11 #[.slice a L.length c] w (Spoiled w R (.slice a L.length c))

set_option maxRecDepth 100000 in
set_option maxHeartbeats 2000000 in
theorem spoil_zero : SpoilAll 0 := by
  intro w L a c xs R hl hR ho hf
  have hL : L = [] := by
    cases L with
    | nil => rfl
    | cons t r =>
      obtain ⟨-, -, Rk, h3, -, -⟩ := hf
      obtain ⟨u, -, -, h⟩ := h3 0 t rfl
      exact h.elim
  subst hL
  have HO : Hid (w.ownsRow 0 40 5 (.slice a 0 c) 0 xs) := ho
  clear ho hf hl hR
  show Calls Tryz.prog 11 #[.slice a 0 c] w (Spoiled w R (.slice a 0 c))
  go_enter Tryz.func11, Tryz.ntmps11
  go_wp2
  go_loopw [2] (fun v2 wr => v2 = .int .i64 0 ∧ wr = w) (fun _ _ => 0)
  case atStart => exact ⟨rfl, rfl⟩
  case round =>
    obtain ⟨rfl, hw⟩ := hrel
    obtain rfl := hw.symm
    have tok1 : True := trivial
    go_wp2_with (at_builtin; have _t := tok1; refine wpList_app rfl _ _ rfl Tryz.underlying22 infoT rfl (by decide) 0 (.slice a 0 c) 0 xs rfl (own_of_block HO.out (fun k hk => Below.heap_alloc _ _ _ (own_block_lt HO.out k hk).2)) (some ⟨w.heap.size, 0, none⟩) 1 1 [.int .i64 7, .string ⟨#[]⟩, .slice none 0 0, .string ⟨#[]⟩, .slice none 0 0] rfl rfl (by have := news_new w #[.int .i64 7, .string ⟨#[]⟩, .slice none 0 0, .string ⟨#[]⟩, .slice none 0 0] 40; simpa using this) (tree_one _ _ _ _ _ _ _ _ _) (by unfold maxLen; omega) (by omega) (by omega) ?_; intro v3 w4 hown3 hg3 _ hat3; clear tok1 _t)
    go_end0
    exact ⟨rfl, ((Turn.refl _ _).alloc _).grown hg3 (fun k hk => .inr hk)⟩

set_option maxRecDepth 100000 in
set_option maxHeartbeats 4000000 in
theorem spoil_succ (d : Nat) (ih : SpoilAll d) : SpoilAll (d + 1) := by
  intro w L a c xs R hl hR ho hf
  obtain ⟨hx1, hx2, Rk, hx3, hx4, hx5⟩ := hf
  have HIN : Hid (SpIn w (d + 1) a c L R Rk) := ⟨hR, hx4, hx5, fun k hk => (own_block_lt ho k hk).2⟩
  have HS0 : Hid (SpSt w w (d + 1) a c L xs R Rk 0) := ⟨Turn.refl _ _, ⟨xs, ho, fun _ _ => rfl⟩, fun i' k _ hk => hx3 i' k hk⟩
  clear hx1 hx2 hx3 hx4 hx5 ho hR
  go_enter Tryz.func11, Tryz.ntmps11
  go_wp2
  go_loopw [2] (fun v2 wr => ∃ i : Nat, i ≤ L.length ∧ v2 = .int .i64 (i : Int) ∧ Hid (SpSt w wr (d + 1) a c L xs R Rk i)) (fun v2 _ => L.length - (intOf v2).toNat)
  case atStart => exact ⟨0, by omega, rfl, HS0⟩
  case round =>
    obtain ⟨i, hi, rfl, hs⟩ := hrel
    by_cases hlt : i < L.length
    · have t1 : (i : Int) < (L.length : Int) := by omega
      have t0 : (0 : Int) ≤ (i : Int) := by omega
      obtain ⟨t, ht⟩ : ∃ t, L[i]? = some t := ⟨_, List.getElem?_eq_getElem hlt⟩
      obtain ⟨g, aa, ac, ka, kc, rfl, hg, hcc, c0, c1, c2, c3, c4, hT⟩ := hs.out.tree ht
      obtain ⟨a', ac', ka', kc', ys, Rf, ev, l1, l2, o4, o5, f6, f7, f8, f9⟩ := hT
      simp only [tv, Array.mk.injEq, List.cons.injEq, Value.slice.injEq, true_and, and_true] at ev
      obtain ⟨⟨rfl, rfl⟩, rfl, rfl⟩ := ev
      have hgk : ¬ Rk i g := fun e => (HIN.out.own g (HIN.out.sub i g hlt e)).2 rfl
      have HGA : Hid (∀ b, (Value.slice aa t.attrs.length ac).ownBlock = some b → b ≠ g ∧ Rk i b) := fun b hb => ⟨fun e => hgk (by rw [← e]; exact (f8 b hb).1), (f8 b hb).1⟩
      have HO4 : Hid (wr.ownsRow 0 55 2 (.slice aa t.attrs.length ac) t.attrs.length (attrCells t.attrs)) := o4
      have HK : Hid (wr.ownsRow 0 40 5 (.slice ka t.kids.length kc) t.kids.length ys ∧ ForS (TreeS wr d) Rf ys t.kids ∧ (∀ b, Rf b → Rk i b) ∧ (∀ b, (Value.slice aa t.attrs.length ac).ownBlock = some b → ¬ Rf b) ∧ (∀ b, (Value.slice ka t.kids.length kc).ownBlock = some b → Rk i b ∧ ¬ Rf b ∧ (Value.slice aa t.attrs.length ac).ownBlock ≠ some b)) := ⟨o5, f6, f7, fun b hb => (f8 b hb).2, f9⟩
      have HC2 : Hid (wr.cell? ⟨g, i * 5 + 2, none⟩ = some (.slice aa t.attrs.length ac)) := c2
      have HC4 : Hid (wr.cell? ⟨g, i * 5 + 4, none⟩ = some (.slice ka t.kids.length kc)) := c4
      have HCS : Hid (wr.cell? ⟨g, i * 5, none⟩ = some (.int .i64 t.kind) ∧ wr.cell? ⟨g, i * 5 + 1, none⟩ = some (.string t.name) ∧ wr.cell? ⟨g, i * 5 + 3, none⟩ = some (.string t.text)) := ⟨c0, c1, c3⟩
      have HGK : Hid (¬ Rk i g) := hgk
      have HFZ : Hid (∀ o, wr.frozen? ⟨g, o, none⟩ = false) := fun o => by
        obtain ⟨yy, ho, -⟩ := hs.out.row
        exact own_frozen ho o
      have HB : Hid (∀ b, Rk i b → ∀ {n : Nat}, w.heap.size ≤ n → b < n) := fun b hb n hn => Nat.lt_of_lt_of_le (HIN.out.own b (HIN.out.sub i b hlt hb)).1 hn
      have HWO : Hid (w.heap.size ≤ wr.heap.size) := hs.out.turn.size
      clear hgk o4 o5 f6 f7 f8 f9 c0 c1 c2 c3 c4 ht HS0
      generalize wr = wo at *
      go_wp2
      go_loopw [3] (fun v3 w2 => ∃ k : Nat, k ≤ t.attrs.length ∧ v3 = .int .i64 (k : Int) ∧ Hid (∃ zs, w2.ownsRow 0 55 2 (.slice aa t.attrs.length ac) t.attrs.length zs) ∧ Hid (Turn (fun b => (Value.slice aa t.attrs.length ac).ownBlock = some b) wo w2)) (fun v3 _ => t.attrs.length - (intOf v3).toNat)
      case atStart => exact ⟨0, by omega, rfl, ⟨_, HO4.out⟩, Turn.refl _ _⟩
      case round =>
        obtain ⟨k, hk, rfl, hz, ht2⟩ := hrel
        have z2 : wr.cell? ⟨g, i * 5 + 2, none⟩ = some (.slice aa t.attrs.length ac) := (ht2.out.cellOf hg (fun e => (HGA.out g e).1 rfl) _).trans HC2.out
        by_cases hkl : k < t.attrs.length
        · have u1 : (k : Int) < (t.attrs.length : Int) := by omega
          have u0 : (0 : Int) ≤ (k : Int) := by omega
          obtain ⟨zs, hzo⟩ := hz.out
          obtain ⟨r1, r2, r3⟩ := row_cell hzo
          obtain ⟨y2, hy2⟩ : ∃ y, zs[k * 2]? = some y := ⟨_, List.getElem?_eq_getElem (by omega)⟩
          obtain ⟨y3, hy3⟩ : ∃ y, zs[k * 2 + 1]? = some y := ⟨_, List.getElem?_eq_getElem (by omega)⟩
          obtain ⟨ga, rfl, -, hgal, k0⟩ := r3 (k * 2) _ hy2
          obtain ⟨ga', q1, -, -, k1⟩ := r3 (k * 2 + 1) _ hy3
          cases q1
          have y0 := own_frozen hzo (k * 2)
          have y1 := own_frozen hzo (k * 2 + 1)
          have HZO : Hid (wr.ownsRow 0 55 2 (.slice (some ⟨ga, 0, none⟩) t.attrs.length ac) t.attrs.length zs) := hzo
          clear hzo r3 r2 hy2 hy3
          go_wp2
          refine ⟨⟨k + 1, by omega, by simp, ⟨_, own_set (own_set HZO.out _ _) _ _⟩, (ht2.out.setCell (p := ⟨ga, k * 2, none⟩) rfl _).setCell (p := ⟨ga, k * 2 + 1, none⟩) rfl _⟩, ?_⟩
          simp [intOf]; omega
        · have u1 : ¬ (k : Int) < (t.attrs.length : Int) := by omega
          obtain ⟨zs, hzo⟩ := hz.out
          have HZO : Hid (wr.ownsRow 0 55 2 (.slice aa t.attrs.length ac) t.attrs.length zs) := hzo
          have tok1 : True := trivial
          clear hzo hz
          go_wp2_with (first | (at_builtin; have _t := tok1; refine wpList_app rfl _ _ rfl Tryz.underlying38 infoA rfl (by decide) 0 (.slice aa t.attrs.length ac) t.attrs.length zs rfl (own_of_block HZO.out (fun k hk => Below.heap_alloc _ _ _ (own_block_lt HZO.out k hk).2)) (some ⟨wr.heap.size, 0, none⟩) 1 1 [.string ⟨#[115, 112, 111, 105, 108, 116]⟩, .string ⟨#[]⟩] rfl rfl (by have := news_new wr #[.string ⟨#[115, 112, 111, 105, 108, 116]⟩, .string ⟨#[]⟩] 55; simpa using this) (by intro u hu; simp at hu; rcases hu with rfl | rfl <;> rfl) (by unfold maxLen; omega) (by omega) (by omega) ?_; intro v3 w4 hown3 hg3 _ hat3; clear tok1 _t; have HT4 : Hid (Turn (fun b => (Value.slice aa t.attrs.length ac).ownBlock = some b) wo w4) := ((ht2.out.alloc _).grown hg3 (fun k hk => hk)); have z4 : w4.cell? ⟨g, i * 5 + 4, none⟩ = some (.slice ka t.kids.length kc) := (HT4.out.cellOf hg (fun e => (HGA.out g e).1 rfl) _).trans HC4.out; clear hown3 hg3 hat3) | fail)
          have hkid := ih w4 t.kids ka kc ys Rf l2 (fun b hb => ⟨HB.out b (HK.out.2.2.1 b hb) (Nat.le_trans HWO.out HT4.out.size), fun e => (HK.out.2.2.2.2 b e).2.1 hb⟩) (own_of_block HK.out.1 (fun b hb => HT4.out.block b (HB.out b (HK.out.2.2.2.2 b hb).1 HWO.out) (HK.out.2.2.2.2 b hb).2.2)) (HK.out.2.1.to (fun b hb => HT4.out.block b (HB.out b (HK.out.2.2.1 b hb) HWO.out) (fun e => HK.out.2.2.2.1 b e hb)) (fun _ h => h))
          go_wp2_with fail
          refine hkid.mono ?_
          rintro e w5 ⟨rfl, ht5⟩
          have HT5 : Hid (Turn (Rk i) wo w5) := (HT4.out.mono (fun b _ hb => (HGA.out b hb).2)).trans (ht5.mono (fun b _ hb => hb.elim (HK.out.2.2.1 b) (fun e => (HK.out.2.2.2.2 b e).1)))
          have n0 := (HT5.out.cellOf hg HGK.out _).trans HCS.out.1
          have n1 := (HT5.out.cellOf hg HGK.out _).trans HCS.out.2.1
          have n2 := (HT5.out.cellOf hg HGK.out _).trans HC2.out
          have n3 := (HT5.out.cellOf hg HGK.out _).trans HCS.out.2.2
          have n4 := (HT5.out.cellOf hg HGK.out _).trans HC4.out
          have m0 := (HT5.out.frozenOf hg HGK.out (i * 5)).trans (HFZ.out _)
          have m1 := (HT5.out.frozenOf hg HGK.out (i * 5 + 1)).trans (HFZ.out _)
          have m2 := (HT5.out.frozenOf hg HGK.out (i * 5 + 2)).trans (HFZ.out _)
          have m3 := (HT5.out.frozenOf hg HGK.out (i * 5 + 3)).trans (HFZ.out _)
          have m4 := (HT5.out.frozenOf hg HGK.out (i * 5 + 4)).trans (HFZ.out _)
          clear hkid ht5 z4 z2 ht2 HT4
          go_wp2
          refine ⟨⟨i + 1, by omega, by simp, hs.out.next HIN.out hlt HT5.out _ _ _ _ _⟩, ?_⟩
          simp [intOf]; omega
    · have t1 : ¬ (i : Int) < (L.length : Int) := by omega
      obtain ⟨ys, ho, -⟩ := hs.out.row
      have HO : Hid (wr.ownsRow 0 40 5 (.slice a L.length c) L.length ys) := ho
      clear ho HS0
      have tok1 : True := trivial
      go_wp2_with (at_builtin; have _t := tok1; refine wpList_app rfl _ _ rfl Tryz.underlying22 infoT rfl (by decide) 0 (.slice a L.length c) L.length ys rfl (own_of_block HO.out (fun k hk => Below.heap_alloc _ _ _ (own_block_lt HO.out k hk).2)) (some ⟨wr.heap.size, 0, none⟩) 1 1 [.int .i64 7, .string ⟨#[]⟩, .slice none 0 0, .string ⟨#[]⟩, .slice none 0 0] rfl rfl (by have := news_new wr #[.int .i64 7, .string ⟨#[]⟩, .slice none 0 0, .string ⟨#[]⟩, .slice none 0 0] 40; simpa using this) (tree_one _ _ _ _ _ _ _ _ _) (by unfold maxLen; omega) (by omega) (by omega) ?_; intro v3 w4 hown3 hg3 _ hat3; clear tok1 _t)
      go_end0
      exact ⟨rfl, (hs.out.turn.alloc _).grown hg3 (fun k hk => .inr hk)⟩

theorem spoil_all : ∀ d : Nat, SpoilAll d
  | 0 => spoil_zero
  | d + 1 => spoil_succ d (spoil_all d)

end Go.Proofs.YtmifejkddgcbmaaGreat

/- join: a text behind siblings, in a row of one's own. -/
namespace Go.Proofs.YtmifejkddgcbmaaGreat
open Go.RowKit
set_option linter.unusedVariables false
set_option linter.unusedSimpArgs false

/-- The last one of a list under way, in memory. -/
theorem OutSt.last {w wr : World} {m : Nat} {A : List (T (m + 1))} {x : T (m + 1)} {la : Option Addr} {lcap : Nat} {xs : List Value} (h : OutSt w wr (m + 1) (A ++ [x]) (A.length + 1) la lcap xs) :
    ∃ g, la = some ⟨g, 0, none⟩ ∧ w.heap.size ≤ g ∧ g < wr.heap.size ∧ wr.cell? ⟨g, A.length * 5, none⟩ = some (.int .i64 x.kind) ∧ wr.cell? ⟨g, A.length * 5 + 3, none⟩ = some (.string x.text) ∧ wr.frozen? ⟨g, A.length * 5 + 3, none⟩ = false := by
  obtain ⟨u, h1, h2, h3⟩ := h.kids.2.2 A.length x (by simp)
  obtain ⟨a, ac, ka, kc, rfl, -⟩ := h3
  obtain ⟨hlc, hxl, hrow⟩ := row_cell h.own
  have h20 : xs[A.length * 5]? = some (.int .i64 x.kind) := h2 0 (by omega)
  have h23 : xs[A.length * 5 + 3]? = some (.string x.text) := h2 3 (by omega)
  obtain ⟨g, rfl, e2, e3, e4⟩ := hrow _ _ h20
  obtain ⟨g', e5, _, _, e6⟩ := hrow _ _ h23
  cases e5
  refine ⟨g, rfl, e2, e3, e4, e6, ?_⟩
  rcases h.own.2 with ⟨e, -⟩ | ⟨g2, cap2, cur, e, -, hh, -⟩
  · cases e
  · simp only [Value.slice.injEq, Option.some.injEq, Addr.mk.injEq, true_and, and_true] at e
    obtain ⟨rfl, rfl⟩ := e
    simp [World.frozen?, hh]

/-- Its text made longer. -/
theorem OutSt.put {w wr : World} {m : Nat} {A : List (T (m + 1))} {x : T (m + 1)} {g lcap : Nat} {xs : List Value} (h : OutSt w wr (m + 1) (A ++ [x]) (A.length + 1) (some ⟨g, 0, none⟩) lcap xs) (s : ByteArray) :
    OutSt w (wr.setCell ⟨g, A.length * 5 + 3, none⟩ (.string (x.text ++ s))) (m + 1) (A ++ [putT x s]) (A.length + 1) (some ⟨g, 0, none⟩) lcap (xs.set (A.length * 5 + 3) (.string (x.text ++ s))) := by
  have hgl := own_block_lt h.own g rfl
  have hs : (wr.setCell ⟨g, A.length * 5 + 3, none⟩ (.string (x.text ++ s))).heap.size = wr.heap.size := by simp [World.setCell]
  have hc : ∀ b o, b ≠ g → (wr.setCell ⟨g, A.length * 5 + 3, none⟩ (.string (x.text ++ s))).cell? ⟨b, o, none⟩ = wr.cell? ⟨b, o, none⟩ := fun b o hb => World.cell?_of_block (w := wr) (a := ⟨b, o, none⟩) (Below.heap_setCell _ _ _ _ hb)
  have hne : ∀ b, (Value.slice (some (⟨g, 0, none⟩ : Addr)) (A.length + 1) lcap).ownBlock ≠ some b → b ≠ g := fun b hb e => hb (by rw [e]; rfl)
  refine ⟨by simp, own_set h.own _ _, ⟨by rw [List.length_set, h.kids.1]; simp, fun u hu => ?_, fun i k hk => ?_⟩, h.bel.setCell (p := ⟨g, _, none⟩) hgl.1 _⟩
  · rcases List.mem_or_eq_of_mem_set hu with hu | rfl
    · exact h.kids.2.1 u hu
    · rfl
  · rcases Nat.lt_or_ge i A.length with hi | hi
    · rw [List.getElem?_append_left hi] at hk
      obtain ⟨u, h1, h2, h3⟩ := h.kids.2.2 i k (by rw [List.getElem?_append_left hi]; exact hk)
      refine ⟨u, h1, fun j hj => ?_, h3.to (fun b hb => ⟨hb.1, by rw [hs]; exact hb.2.1, hb.2.2⟩) (fun b o hb => hc b o (hne b hb.2.2))⟩
      rw [List.getElem?_set_ne (by omega)]
      exact h2 j hj
    · have hi' : i = A.length := by
        have := (List.getElem?_eq_some_iff.1 hk).1
        simp at this
        omega
      subst hi'
      simp at hk
      subst hk
      obtain ⟨u, h1, h2, h3⟩ := h.kids.2.2 A.length x (by simp)
      obtain ⟨a, ac, ka, kc, rfl, m1, m2, m3, m4, m5, m6⟩ := h3.to (w' := wr.setCell ⟨g, A.length * 5 + 3, none⟩ (.string (x.text ++ s))) (R' := fun b => w.heap.size ≤ b ∧ b < (wr.setCell ⟨g, A.length * 5 + 3, none⟩ (.string (x.text ++ s))).heap.size ∧ (Value.slice (some (⟨g, 0, none⟩ : Addr)) (A.length + 1) lcap).ownBlock ≠ some b) (fun b hb => ⟨hb.1, by rw [hs]; exact hb.2.1, hb.2.2⟩) (fun b o hb => hc b o (hne b hb.2.2))
      refine ⟨tv x.kind x.name a x.attrs.length ac (x.text ++ s) ka x.kids.length kc, rfl, fun j hj => ?_, a, ac, ka, kc, rfl, m1, m2, m3, m4, m5, m6⟩
      by_cases hj3 : j = 3
      · subst hj3
        rw [List.getElem?_set_self (by have := h.kids.1; simp at this; omega)]
        rfl
      · rw [List.getElem?_set_ne (by omega), h2 j hj]
        match j, hj, hj3 with
        | 0, _, _ => rfl
        | 1, _, _ => rfl
        | 2, _, _ => rfl
        | 4, _, _ => rfl

theorem join_nil {m : Nat} {N : List (T (m + 1))} {s : ByteArray} (h : s.data.toList = []) : joinP N s = N := by unfold joinP; rw [if_pos h]
theorem join_first {m : Nat} {s : ByteArray} (h : s.data.toList ≠ []) : joinP ([] : List (T (m + 1))) s = [txtT s.data.toList] := by unfold joinP; rw [if_neg h]; rfl
theorem join_put {m : Nat} {A : List (T (m + 1))} {x : T (m + 1)} {s : ByteArray} (h : s.data.toList ≠ []) (hx : x.kind = 2) : joinP (A ++ [x]) s = A ++ [putT x s] := by
  unfold joinP
  rw [if_neg h]
  simp only [List.getLast?_append, List.getLast?_singleton, Option.some_or, List.dropLast_concat]
  rw [if_pos (show kindT (m + 1) x = 2 from hx)]
theorem join_snoc {m : Nat} {A : List (T (m + 1))} {x : T (m + 1)} {s : ByteArray} (h : s.data.toList ≠ []) (hx : x.kind ≠ 2) : joinP (A ++ [x]) s = (A ++ [x]) ++ [txtT s.data.toList] := by
  unfold joinP
  rw [if_neg h]
  simp only [List.getLast?_append, List.getLast?_singleton, Option.some_or]
  rw [if_neg (show ¬ kindT (m + 1) x = 2 from hx)]

/-- A lone text, as a tree in memory. -/
theorem txt_at (w : World) (lo hi : Nat) {m : Nat} (s : ByteArray) : TreeAt w lo hi (m + 1) #[.int .i64 2, .string ⟨#[]⟩, .slice none 0 0, .string s, .slice none 0 0] (txtT s.data.toList) :=
  ⟨none, 0, none, 0, by show _ = tv 2 (ba []) none 0 0 (ba s.data.toList) none 0 0; rw [ba_data]; rfl, Nat.zero_le _, Nat.zero_le _, Nat.le_refl _, Nat.le_refl _, fun i p hp => by simp [txtT] at hp, fun i k hk => by simp [txtT] at hk⟩

def JnPost (w : World) {m : Nat} (N : List (T (m + 1))) (e : Ending) (w' : World) : Prop := ∃ la' lcap' xs', e = .returned (.slice la' N.length lcap') ∧ OutSt w w' (m + 1) N N.length la' lcap' xs'

set_option maxRecDepth 100000 in
set_option maxHeartbeats 4000000 in
theorem join_any (w wr : World) {m : Nat} (N : List (T (m + 1))) (la : Option Addr) (lcap : Nat) (xs : List Value) (s : ByteArray) (h : OutSt w wr (m + 1) N N.length la lcap xs) (hn : N.length ≤ 4096) (hs : s.size ≤ 16384) (hla : lastLen N ≤ 16384) :
    Calls Tryz.prog 41 #[.slice la N.length lcap, .string s] wr (JnPost w (joinP N s)) := by
  have hbs := h.bel.size
  by_cases h0 : s.data.toList = []
  · rw [join_nil h0]
    have he : s = ⟨#[]⟩ := by cases s; simp at h0; simp [h0]
    subst he
    have HO : Hid (OutSt w wr (m + 1) N N.length la lcap xs) := h
    clear h h0
    go_enter Tryz.func41, Tryz.ntmps41
    go_wp2
    go_ret
    exact ⟨_, _, _, rfl, HO.out⟩
  · have hsn : (s.toList == []) = false := by
      rw [beq_eq_false_iff_ne, ByteArray.toList_eq]; exact h0
    have HO : Hid (OutSt w wr (m + 1) N N.length la lcap xs) := h
    have tok : True := trivial
    rcases List.eq_nil_or_concat N with rfl | ⟨A, x, rfl⟩
    · rw [join_first h0]
      have HO0 : Hid (OutSt w wr (m + 1) ([] : List (T (m + 1))) 0 la lcap xs) := h
      clear h h0 HO
      simp only [List.length_nil] at *
      go_enter Tryz.func41, Tryz.ntmps41
      go_wp2_with (at_builtin; have _t := tok; refine wpList_app rfl _ _ rfl Tryz.underlying22 infoT rfl (by decide) w.heap.size (.slice la 0 lcap) 0 xs rfl (own_of_block HO0.out.own (fun j hj => (Below.heap_alloc _ _ _ (own_block_lt HO0.out.own j hj).2))) (some ⟨wr.heap.size, 0, none⟩) 1 1 [.int .i64 2, .string ⟨#[]⟩, .slice none 0 0, .string s, .slice none 0 0] rfl rfl (news_new wr #[.int .i64 2, .string ⟨#[]⟩, .slice none 0 0, .string s, .slice none 0 0] 40) (tree_one _ _ _ _ _ _ _ _ _) (by unfold maxLen; omega) (by omega) (by simp; omega) ?_; intro v7 w7 hown7 hg7 _ hat7; clear tok _t; obtain ⟨la', lcap', hv7⟩ := own_slice hown7; subst hv7; have HST7 : Hid (OutSt w w7 (m + 1) ([] ++ [txtT s.data.toList]) (0 + 1) la' lcap' (xs ++ [.int .i64 2, .string ⟨#[]⟩, .slice none 0 0, .string s, .slice none 0 0])) := HO0.out.step (txt_at wr _ _ s) (Below.refl _ _) hown7 hg7 (by simpa using hat7); clear hown7 hg7 hat7 HO0)
      go_ret
      exact ⟨_, _, _, rfl, HST7.out⟩
    · simp only [List.concat_eq_append] at *
      have hlen : (A ++ [x]).length = A.length + 1 := by simp
      rw [hlen] at h hn ⊢
      have HO1 : Hid (OutSt w wr (m + 1) (A ++ [x]) (A.length + 1) la lcap xs) := h
      obtain ⟨g, rfl, hg1, hg2, c0, c3, f3⟩ := h.last
      have i1 : ((A.length + 1 : Nat) : Int) - 1 = (A.length : Int) := by omega
      have i2 : (A.length : Int) < ((A.length + 1 : Nat) : Int) := by omega
      have i3 : (0 : Int) < ((A.length + 1 : Nat) : Int) := by omega
      have i4 : (0 : Int) ≤ (A.length : Int) := by omega
      by_cases hx : x.kind = 2
      · rw [join_put h0 hx]
        rw [hx] at c0
        have hxs : x.text.size ≤ 16384 := by simpa [lastLen] using hla
        have hsum : x.text.size + s.size ≤ 9223372036854775807 := by omega
        have HP : Hid (OutSt w (wr.setCell ⟨g, A.length * 5 + 3, none⟩ (.string (x.text ++ s))) (m + 1) (A ++ [putT x s]) (A.length + 1) (some ⟨g, 0, none⟩) lcap (xs.set (A.length * 5 + 3) (.string (x.text ++ s)))) := h.put s
        have hadd : ∀ W : World, (Op.stringOp .add x.text s).run Tryz.prog W = .ok (.string (x.text ++ s)) W := fun W => run_string_add_sum W x.text s hsum
        have HL2 : Hid ((A ++ [putT x s]).length = A.length + 1) := by show _ = _; simp
        clear h h0 hx HO HO1 hla hlen
        go_enter Tryz.func41, Tryz.ntmps41
        go_wp2
        go_ret
        refine ⟨some ⟨g, 0, none⟩, lcap, xs.set (A.length * 5 + 3) (.string (x.text ++ s)), ?_, ?_⟩
        · rw [HL2.out]; rfl
        · rw [HL2.out]; exact HP.out
      · rw [join_snoc h0 hx]
        have hxb : (x.kind == 2) = false := beq_eq_false_iff_ne.2 hx
        have HL2 : Hid (((A ++ [x]) ++ [(txtT s.data.toList : T (m + 1))]).length = A.length + 1 + 1) := by show _ = _; simp
        clear h h0 hx HO hla hlen
        go_enter Tryz.func41, Tryz.ntmps41
        go_wp2_with (at_builtin; have _t := tok; refine wpList_app rfl _ _ rfl Tryz.underlying22 infoT rfl (by decide) w.heap.size (.slice (some ⟨g, 0, none⟩) (A.length + 1) lcap) (A.length + 1) xs rfl (own_of_block HO1.out.own (fun j hj => (Below.heap_alloc _ _ _ (own_block_lt HO1.out.own j hj).2))) (some ⟨wr.heap.size, 0, none⟩) 1 1 [.int .i64 2, .string ⟨#[]⟩, .slice none 0 0, .string s, .slice none 0 0] rfl rfl (news_new wr #[.int .i64 2, .string ⟨#[]⟩, .slice none 0 0, .string s, .slice none 0 0] 40) (tree_one _ _ _ _ _ _ _ _ _) (by unfold maxLen; omega) (by omega) (by simp; omega) ?_; intro v7 w7 hown7 hg7 _ hat7; clear tok _t; obtain ⟨la', lcap', hv7⟩ := own_slice hown7; subst hv7; have HST7 : Hid (OutSt w w7 (m + 1) ((A ++ [x]) ++ [txtT s.data.toList]) (A.length + 1 + 1) la' lcap' (xs ++ [.int .i64 2, .string ⟨#[]⟩, .slice none 0 0, .string s, .slice none 0 0])) := HO1.out.step (txt_at wr _ _ s) (Below.refl _ _) hown7 hg7 (by simpa using hat7); clear hown7 hg7 hat7 HO1)
        go_ret
        refine ⟨la', lcap', xs ++ [.int .i64 2, .string ⟨#[]⟩, .slice none 0 0, .string s, .slice none 0 0], ?_, ?_⟩
        · rw [HL2.out]; rfl
        · rw [HL2.out]; exact HST7.out

end Go.Proofs.YtmifejkddgcbmaaGreat
