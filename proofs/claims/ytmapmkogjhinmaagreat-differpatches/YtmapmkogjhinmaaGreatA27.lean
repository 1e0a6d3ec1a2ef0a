/- Spoil: it writes over a forest and the room behind its lists, and over nothing else. -/
import Derived.Test.YtmapmkogjhinmaaGreatA25
import Derived.Test.YtmapmkogjhinmaaGreatA26
namespace Go.Proofs.YtmapmkogjhinmaaGreat
open Go.RowKit
set_option maxRecDepth 100000
set_option maxHeartbeats 4000000
set_option linter.unusedVariables false
set_option linter.unusedSimpArgs false
theorem ownz_set {w : World} {base : Nat} {e : TypeId} {size : Nat} {g n cap : Nat} {xs : List Value} (h : w.ownsRow base e size (.slice (some ⟨g, 0, none⟩) n cap) n xs) (j : Nat) (u : Value) : (w.setCell ⟨g, j, none⟩ u).ownsRow base e size (.slice (some ⟨g, 0, none⟩) n cap) n (xs.set j u) := by
 refine ⟨by rw [List.length_set]; exact h.1, ?_⟩
 rcases h.2 with ⟨e1, _⟩ | ⟨g', cap', cur, e1, hb, hh, h1, h2, h3, h4⟩
 ·cases e1
 ·simp only [Value.slice.injEq, Option.some.injEq, Addr.mk.injEq, and_true, true_and] at e1
  obtain ⟨rfl, rfl⟩ := e1
  refine .inr ⟨g, cap, cur.setIfInBounds j u, rfl, hb, ?_, h1, h2, by simpa using h3, ?_⟩
  ·simp [World.setCell, Array.getElem?_modify, hh]
  ·rw [Array.toList_setIfInBounds, List.take_set, h4]
theorem ownz_frozen {w : World} {base : Nat} {e : TypeId} {size : Nat} {g n cap : Nat} {xs : List Value} (h : w.ownsRow base e size (.slice (some ⟨g, 0, none⟩) n cap) n xs) (j : Nat) : w.frozen? ⟨g, j, none⟩ = false := by
 rcases h.2 with ⟨e1, _⟩ | ⟨g', cap', cur, e1, hb, hh, h1, h2, h3, h4⟩
 ·cases e1
 ·simp only [Value.slice.injEq, Option.some.injEq, Addr.mk.injEq, and_true, true_and] at e1
  obtain ⟨rfl, rfl⟩ := e1
  simp [World.frozen?, hh]
theorem Turn.cellOf {A : Nat -> Prop} {w w' : World} (h : Turn A w w') {b : Nat} (hb : b < w.heap.size) (ha : ¬ A b) (o : Nat) : w'.cell? ⟨b, o, none⟩ = w.cell? ⟨b, o, none⟩ := World.cell?_of_block (h.block b hb ha)
theorem Turn.frozenOf {A : Nat -> Prop} {w w' : World} (h : Turn A w w') {b : Nat} (hb : b < w.heap.size) (ha : ¬ A b) (o : Nat) : w'.frozen? ⟨b, o, none⟩ = w.frozen? ⟨b, o, none⟩ := World.frozen?_of_block (h.block b hb ha)
theorem Turn.grown {A : Nat -> Prop} {a w w' : World} {row : Option Nat} (h : Turn A a w) (hg : w.grownBy w' row) (hr : ∀ k, row = some k -> A k) : Turn A a w' :=
 ⟨hg.os.trans h.os, hg.tape.trans h.tape, hg.output.trans h.output, Nat.le_trans h.size hg.size, fun k hk ha => (hg.block k (Nat.lt_of_lt_of_le hk h.size) (fun e => ha (hr k e.symm))).trans (h.block k hk ha)⟩
structure SpSt (w wr : World) (d : Nat) (a : Option Addr) (c : Nat) (L : List (T d)) (xs : List Value) (R : Nat -> Prop) (Rk : Nat -> Nat -> Prop) (i : Nat) : Prop where
 turn : Turn (fun b => R b \/ (Value.slice a L.length c).ownBlock = some b) w wr
 row : ∃ ys, wr.ownsRow 0 35 5 (.slice a L.length c) L.length ys /\ ∀ j, i * 5 <= j -> ys[j]? = xs[j]?
 trees : ∀ i' k, i <= i' -> L[i']? = some k -> ∃ u : Array Value, u.size = 5 /\ (∀ j, j < 5 -> xs[i' * 5 + j]? = u[j]?) /\ TreeS wr d (Rk i') u k
structure SpIn (w : World) (d : Nat) (a : Option Addr) (c : Nat) (L : List (T d)) (R : Nat -> Prop) (Rk : Nat -> Nat -> Prop) : Prop where
 own : ∀ b, R b -> b < w.heap.size /\ (Value.slice a L.length c).ownBlock ≠ some b
 sub : ∀ i b, i < L.length -> Rk i b -> R b
 apart : ∀ i j b, i < j -> j < L.length -> Rk i b -> ¬ Rk j b
 blk : ∀ k, (Value.slice a L.length c).ownBlock = some k -> k < w.heap.size
theorem SpSt.tree {w wr : World} {d : Nat} {a : Option Addr} {c : Nat} {L : List (T (d + 1))} {xs : List Value} {R : Nat -> Prop} {Rk : Nat -> Nat -> Prop} {i : Nat} (h : SpSt w wr (d + 1) a c L xs R Rk i) {t : T (d + 1)} (ht : L[i]? = some t) :
  ∃ g aa ac ka kc, a = some ⟨g, 0, none⟩ /\ g < wr.heap.size /\ L.length <= c /\ wr.cell? ⟨g, i * 5, none⟩ = some (.int .i64 t.kind) /\ wr.cell? ⟨g, i * 5 + 1, none⟩ = some (.string t.name) /\ wr.cell? ⟨g, i * 5 + 2, none⟩ = some (.slice aa t.attrs.length ac) /\ wr.cell? ⟨g, i * 5 + 3, none⟩ = some (.string t.text) /\ wr.cell? ⟨g, i * 5 + 4, none⟩ = some (.slice ka t.kids.length kc) /\ TreeS wr (d + 1) (Rk i) (tv t.kind t.name aa t.attrs.length ac t.text ka t.kids.length kc) t := by
 obtain ⟨ys, ho, hy⟩ := h.row
 obtain ⟨u, e1, e2, e3⟩ := h.trees i t (Nat.le_refl _) ht
 obtain ⟨r1, r2, r3⟩ := row_cell ho
 have e3' := e3
 obtain ⟨aa, ac, ka, kc, zs, Rf, rfl, -⟩ := e3'
 have hj : ∀ j v, (tv t.kind t.name aa t.attrs.length ac t.text ka t.kids.length kc)[j]? = some v -> j < 5 -> ∃ g, a = some ⟨g, 0, none⟩ /\ g < wr.heap.size /\ wr.cell? ⟨g, i * 5 + j, none⟩ = some v := fun j v hv hj => by
  obtain ⟨g, q1, -, q2, q3⟩ := r3 (i * 5 + j) v (by rw [hy _ (by omega), e2 j hj]; exact hv)
  exact ⟨g, q1, q2, q3⟩
 obtain ⟨g, rfl, hg, c0⟩ := hj 0 _ rfl (by omega)
 obtain ⟨_, q1, -, c1⟩ := hj 1 _ rfl (by omega)
 cases q1
 obtain ⟨_, q2, -, c2⟩ := hj 2 _ rfl (by omega)
 cases q2
 obtain ⟨_, q3, -, c3⟩ := hj 3 _ rfl (by omega)
 cases q3
 obtain ⟨_, q4, -, c4⟩ := hj 4 _ rfl (by omega)
 cases q4
 exact ⟨g, aa, ac, ka, kc, rfl, hg, r1, c0, c1, c2, c3, c4, e3⟩
theorem SpSt.next {w wr w5 : World} {d : Nat} {g c : Nat} {L : List (T d)} {xs : List Value} {R : Nat -> Prop} {Rk : Nat -> Nat -> Prop} {i : Nat} (h : SpSt w wr d (some ⟨g, 0, none⟩) c L xs R Rk i) (hin : SpIn w d (some ⟨g, 0, none⟩) c L R Rk) (hi : i < L.length) (ht : Turn (Rk i) wr w5) (v0 v1 v2 v3 v4 : Value) :
  SpSt w (((((w5.setCell ⟨g, i * 5, none⟩ v0).setCell ⟨g, i * 5 + 1, none⟩ v1).setCell ⟨g, i * 5 + 2, none⟩ v2).setCell ⟨g, i * 5 + 3, none⟩ v3).setCell ⟨g, i * 5 + 4, none⟩ v4) d (some ⟨g, 0, none⟩) c L xs R Rk (i + 1) := by
 have hgR : ∀ b, R b -> b ≠ g := fun b hb e => (hin.own b hb).2 (by rw [e]; rfl)
 have hgs : g < wr.heap.size := Nat.lt_of_lt_of_le (hin.blk g rfl) h.turn.size
 have hgk : ¬ Rk i g := fun e => hgR g (hin.sub i g hi e) rfl
 refine ⟨?_, ?_, fun i' k hi' hk => ?_⟩
 ·have h5 : Turn (fun b => R b \/ (Value.slice (some ⟨g, 0, none⟩) L.length c).ownBlock = some b) w w5 := h.turn.trans (ht.mono (fun b _ hb => .inl (hin.sub i b hi hb)))
  have hgo : R g \/ (Value.slice (some ⟨g, 0, none⟩) L.length c).ownBlock = some g := .inr rfl
  exact ((((h5.setCell (p := ⟨g, i * 5, none⟩) hgo _).setCell (p := ⟨g, i * 5 + 1, none⟩) hgo _).setCell (p := ⟨g, i * 5 + 2, none⟩) hgo _).setCell (p := ⟨g, i * 5 + 3, none⟩) hgo _).setCell (p := ⟨g, i * 5 + 4, none⟩) hgo _
 ·obtain ⟨ys, ho, hy⟩ := h.row
  have ho5 := own_of_block ho (fun k hk => ht.block k (by cases hk; exact hgs) (by cases hk; exact hgk))
  refine ⟨_, ownz_set (ownz_set (ownz_set (ownz_set (ownz_set ho5 _ _) _ _) _ _) _ _) _ _, fun j hj => ?_⟩
  rw [List.getElem?_set_ne (by omega), List.getElem?_set_ne (by omega), List.getElem?_set_ne (by omega), List.getElem?_set_ne (by omega), List.getElem?_set_ne (by omega)]
  exact hy j (by omega)
 ·obtain ⟨u, e1, e2, e3⟩ := h.trees i' k (by omega) hk
  have hl := (List.getElem?_eq_some_iff.1 hk).1
  refine ⟨u, e1, e2, e3.to (fun b hb => ?_) (fun _ hb => hb)⟩
  have hR := hin.sub i' b hl hb
  have hne := hgR b hR
  rw [Below.heap_setCell _ _ _ _ hne, Below.heap_setCell _ _ _ _ hne, Below.heap_setCell _ _ _ _ hne, Below.heap_setCell _ _ _ _ hne, Below.heap_setCell _ _ _ _ hne]
  exact ht.block b (Nat.lt_of_lt_of_le (hin.own b hR).1 h.turn.size) (fun hb' => hin.apart i i' b (by omega) hl hb' hb)
def Spoiled (w : World) (R : Nat -> Prop) (v : Value) (e : Ending) (w' : World) : Prop := e = .returned (.tuple #[]) /\ Turn (fun b => R b \/ v.ownBlock = some b) w w'
def SpoilAll (d : Nat) : Prop := ∀ (w : World) (L : List (T d)) (a : Option Addr) (c : Nat) (xs : List Value) (R : Nat -> Prop), L.length <= 4096 -> (∀ b, R b -> b < w.heap.size /\ (Value.slice a L.length c).ownBlock ≠ some b) -> w.ownsRow 0 35 5 (.slice a L.length c) L.length xs -> ForS (TreeS w d) R xs L ->
 Calls Tryz.prog 9 #[.slice a L.length c] w (Spoiled w R (.slice a L.length c))
theorem spoil_zero : SpoilAll 0 := by
 intro w L a c xs R hl hR ho hf
 have hL : L = [] := by
  cases L with
  | nil => rfl
  | cons t r =>
   obtain ⟨-, -, Rk, h3, -, -⟩ := hf
   obtain ⟨u, -, -, h⟩ := h3 0 t rfl
   exact h.elim
 subst hL
 have HO : Hid (w.ownsRow 0 35 5 (.slice a 0 c) 0 xs) := ho
 clear ho hf hl hR
 show Calls Tryz.prog 9 #[.slice a 0 c] w (Spoiled w R (.slice a 0 c))
 go_enter Tryz.func9, Tryz.ntmps9
 go_wp2
 go_loopw [2] (fun v2 wr => v2 = .int .i64 0 /\ wr = w) (fun _ _ => 0)
 case atStart => exact ⟨rfl, rfl⟩
 case round =>
  obtain ⟨rfl, hw⟩ := hrel
  obtain rfl := hw.symm
  have tok1 : True := trivial
  go_wp2_with (at_builtin; have _t := tok1; refine wpList_app rfl _ _ rfl Tryz.underlying22 info25 rfl (by decide) 0 (.slice a 0 c) 0 xs rfl (own_of_block HO.out (fun k hk => Below.heap_alloc _ _ _ (own_block_lt HO.out k hk).2)) (some ⟨w.heap.size, 0, none⟩) 1 1 [.int .i64 7, .string ⟨#[]⟩, .slice none 0 0, .string ⟨#[]⟩, .slice none 0 0] rfl rfl (by have := news_new w #[.int .i64 7, .string ⟨#[]⟩, .slice none 0 0, .string ⟨#[]⟩, .slice none 0 0] 35; simpa using this) (tree_one _ _ _ _ _ _ _ _ _) (by unfold maxLen; omega) (by omega) (by omega) ?_; intro v3 w4 hown3 hg3 _ hat3; clear tok1 _t)
  go_end0
  exact ⟨rfl, ((Turn.refl _ _).alloc _).grown hg3 (fun k hk => .inr hk)⟩
theorem spoil_succ (d : Nat) (ih : SpoilAll d) : SpoilAll (d + 1) := by
 intro w L a c xs R hl hR ho hf
 obtain ⟨hx1, hx2, Rk, hx3, hx4, hx5⟩ := hf
 have HIN : Hid (SpIn w (d + 1) a c L R Rk) := ⟨hR, hx4, hx5, fun k hk => (own_block_lt ho k hk).2⟩
 have HS0 : Hid (SpSt w w (d + 1) a c L xs R Rk 0) := ⟨Turn.refl _ _, ⟨xs, ho, fun _ _ => rfl⟩, fun i' k _ hk => hx3 i' k hk⟩
 clear hx1 hx2 hx3 hx4 hx5 ho hR
 go_enter Tryz.func9, Tryz.ntmps9
 go_wp2
 go_loopw [2] (fun v2 wr => ∃ i : Nat, i <= L.length /\ v2 = .int .i64 (i : Int) /\ Hid (SpSt w wr (d + 1) a c L xs R Rk i)) (fun v2 _ => L.length - (intOf v2).toNat)
 case atStart => exact ⟨0, by omega, rfl, HS0⟩
 case round =>
  obtain ⟨i, hi, rfl, hs⟩ := hrel
  by_cases hlt : i < L.length
  ·have t1 : (i : Int) < (L.length : Int) := by omega
   have t0 : (0 : Int) <= (i : Int) := by omega
   obtain ⟨t, ht⟩ : ∃ t, L[i]? = some t := ⟨_, List.getElem?_eq_getElem hlt⟩
   obtain ⟨g, aa, ac, ka, kc, rfl, hg, hcc, c0, c1, c2, c3, c4, hT⟩ := hs.out.tree ht
   obtain ⟨a', ac', ka', kc', ys, Rf, ev, l1, l2, o4, o5, f6, f7, f8, f9⟩ := hT
   simp only [tv, Array.mk.injEq, List.cons.injEq, Value.slice.injEq, true_and, and_true] at ev
   obtain ⟨⟨rfl, rfl⟩, rfl, rfl⟩ := ev
   have hgk : ¬ Rk i g := fun e => (HIN.out.own g (HIN.out.sub i g hlt e)).2 rfl
   have HGA : Hid (∀ b, (Value.slice aa t.attrs.length ac).ownBlock = some b -> b ≠ g /\ Rk i b) := fun b hb => ⟨fun e => hgk (by rw [<- e]; exact (f8 b hb).1), (f8 b hb).1⟩
   have HO4 : Hid (wr.ownsRow 0 52 2 (.slice aa t.attrs.length ac) t.attrs.length (attrCells t.attrs)) := o4
   have HK : Hid (wr.ownsRow 0 35 5 (.slice ka t.kids.length kc) t.kids.length ys /\ ForS (TreeS wr d) Rf ys t.kids /\ (∀ b, Rf b -> Rk i b) /\ (∀ b, (Value.slice aa t.attrs.length ac).ownBlock = some b -> ¬ Rf b) /\ (∀ b, (Value.slice ka t.kids.length kc).ownBlock = some b -> Rk i b /\ ¬ Rf b /\ (Value.slice aa t.attrs.length ac).ownBlock ≠ some b)) := ⟨o5, f6, f7, fun b hb => (f8 b hb).2, f9⟩
   have HC2 : Hid (wr.cell? ⟨g, i * 5 + 2, none⟩ = some (.slice aa t.attrs.length ac)) := c2
   have HC4 : Hid (wr.cell? ⟨g, i * 5 + 4, none⟩ = some (.slice ka t.kids.length kc)) := c4
   have HCS : Hid (wr.cell? ⟨g, i * 5, none⟩ = some (.int .i64 t.kind) /\ wr.cell? ⟨g, i * 5 + 1, none⟩ = some (.string t.name) /\ wr.cell? ⟨g, i * 5 + 3, none⟩ = some (.string t.text)) := ⟨c0, c1, c3⟩
   have HGK : Hid (¬ Rk i g) := hgk
   have HFZ : Hid (∀ o, wr.frozen? ⟨g, o, none⟩ = false) := fun o => by
    obtain ⟨yy, ho, -⟩ := hs.out.row
    exact ownz_frozen ho o
   have HB : Hid (∀ b, Rk i b -> ∀ {n : Nat}, w.heap.size <= n -> b < n) := fun b hb n hn => Nat.lt_of_lt_of_le (HIN.out.own b (HIN.out.sub i b hlt hb)).1 hn
   have HWO : Hid (w.heap.size <= wr.heap.size) := hs.out.turn.size
   clear hgk o4 o5 f6 f7 f8 f9 c0 c1 c2 c3 c4 ht HS0
   generalize wr = wo at *
   go_wp2
   go_loopw [3] (fun v3 w2 => ∃ k : Nat, k <= t.attrs.length /\ v3 = .int .i64 (k : Int) /\ Hid (∃ zs, w2.ownsRow 0 52 2 (.slice aa t.attrs.length ac) t.attrs.length zs) /\ Hid (Turn (fun b => (Value.slice aa t.attrs.length ac).ownBlock = some b) wo w2)) (fun v3 _ => t.attrs.length - (intOf v3).toNat)
   case atStart => exact ⟨0, by omega, rfl, ⟨_, HO4.out⟩, Turn.refl _ _⟩
   case round =>
    obtain ⟨k, hk, rfl, hz, ht2⟩ := hrel
    have z2 : wr.cell? ⟨g, i * 5 + 2, none⟩ = some (.slice aa t.attrs.length ac) := (ht2.out.cellOf hg (fun e => (HGA.out g e).1 rfl) _).trans HC2.out
    by_cases hkl : k < t.attrs.length
    ·have u1 : (k : Int) < (t.attrs.length : Int) := by omega
     have u0 : (0 : Int) <= (k : Int) := by omega
     obtain ⟨zs, hzo⟩ := hz.out
     obtain ⟨r1, r2, r3⟩ := row_cell hzo
     obtain ⟨y2, hy2⟩ : ∃ y, zs[k * 2]? = some y := ⟨_, List.getElem?_eq_getElem (by omega)⟩
     obtain ⟨y3, hy3⟩ : ∃ y, zs[k * 2 + 1]? = some y := ⟨_, List.getElem?_eq_getElem (by omega)⟩
     obtain ⟨ga, rfl, -, hgal, k0⟩ := r3 (k * 2) _ hy2
     obtain ⟨ga', q1, -, -, k1⟩ := r3 (k * 2 + 1) _ hy3
     cases q1
     have y0 := ownz_frozen hzo (k * 2)
     have y1 := ownz_frozen hzo (k * 2 + 1)
     have HZO : Hid (wr.ownsRow 0 52 2 (.slice (some ⟨ga, 0, none⟩) t.attrs.length ac) t.attrs.length zs) := hzo
     clear hzo r3 r2 hy2 hy3
     go_wp2
     refine ⟨⟨k + 1, by omega, by simp, ⟨_, ownz_set (ownz_set HZO.out _ _) _ _⟩, (ht2.out.setCell (p := ⟨ga, k * 2, none⟩) rfl _).setCell (p := ⟨ga, k * 2 + 1, none⟩) rfl _⟩, ?_⟩
     simp [intOf]; omega
    ·have u1 : ¬ (k : Int) < (t.attrs.length : Int) := by omega
     obtain ⟨zs, hzo⟩ := hz.out
     have HZO : Hid (wr.ownsRow 0 52 2 (.slice aa t.attrs.length ac) t.attrs.length zs) := hzo
     have tok1 : True := trivial
     clear hzo hz
     go_wp2_with (first | (at_builtin; have _t := tok1; refine wpList_app rfl _ _ rfl Tryz.underlying33 info40 rfl (by decide) 0 (.slice aa t.attrs.length ac) t.attrs.length zs rfl (own_of_block HZO.out (fun k hk => Below.heap_alloc _ _ _ (own_block_lt HZO.out k hk).2)) (some ⟨wr.heap.size, 0, none⟩) 1 1 [.string ⟨#[115, 112, 111, 105, 108, 116]⟩, .string ⟨#[]⟩] rfl rfl (by have := news_new wr #[.string ⟨#[115, 112, 111, 105, 108, 116]⟩, .string ⟨#[]⟩] 52; simpa using this) (by intro u hu; simp at hu; rcases hu with rfl | rfl <;> rfl) (by unfold maxLen; omega) (by omega) (by omega) ?_; intro v3 w4 hown3 hg3 _ hat3; clear tok1 _t; have HT4 : Hid (Turn (fun b => (Value.slice aa t.attrs.length ac).ownBlock = some b) wo w4) := ((ht2.out.alloc _).grown hg3 (fun k hk => hk)); have z4 : w4.cell? ⟨g, i * 5 + 4, none⟩ = some (.slice ka t.kids.length kc) := (HT4.out.cellOf hg (fun e => (HGA.out g e).1 rfl) _).trans HC4.out; clear hown3 hg3 hat3) | fail)
     have hkid := ih w4 t.kids ka kc ys Rf l2 (fun b hb => ⟨HB.out b (HK.out.2.2.1 b hb) (Nat.le_trans HWO.out HT4.out.size), fun e => (HK.out.2.2.2.2 b e).2.1 hb⟩) (own_of_block HK.out.1 (fun b hb => HT4.out.block b (HB.out b (HK.out.2.2.2.2 b hb).1 HWO.out) (HK.out.2.2.2.2 b hb).2.2)) (HK.out.2.1.to (fun b hb => HT4.out.block b (HB.out b (HK.out.2.2.1 b hb) HWO.out) (fun e => HK.out.2.2.2.1 b e hb)) (fun _ h => h))
     go_wp2_with fail
     refine hkid.mono ?_
     rintro e w5 ⟨rfl, ht5⟩
     have HT5 : Hid (Turn (Rk i) wo w5) := (HT4.out.mono (fun b _ hb => (HGA.out b hb).2)).trans (ht5.mono (fun b _ hb => hb.elim (HK.out.2.2.1 b) (fun e => (HK.out.2.2.2.2 b e).1)))
     have n0 := (HT5.out.cellOf hg HGK.out _).trans HCS.out.1
     have n1 := (HT5.out.cellOf hg HGK.out _).trans HCS.out.2.1
     have n2 := (HT5.out.cellOf hg HGK.out _).trans HC2.out
     have n3 := (HT5.out.cellOf hg HGK.out _).trans HCS.out.2.2
     have n4 := (HT5.out.cellOf hg HGK.out _).trans HC4.out
     have m0 := (HT5.out.frozenOf hg HGK.out (i * 5)).trans (HFZ.out _)
     have m1 := (HT5.out.frozenOf hg HGK.out (i * 5 + 1)).trans (HFZ.out _)
     have m2 := (HT5.out.frozenOf hg HGK.out (i * 5 + 2)).trans (HFZ.out _)
     have m3 := (HT5.out.frozenOf hg HGK.out (i * 5 + 3)).trans (HFZ.out _)
     have m4 := (HT5.out.frozenOf hg HGK.out (i * 5 + 4)).trans (HFZ.out _)
     clear hkid ht5 z4 z2 ht2 HT4
     go_wp2
     refine ⟨⟨i + 1, by omega, by simp, hs.out.next HIN.out hlt HT5.out _ _ _ _ _⟩, ?_⟩
     simp [intOf]; omega
  ·have t1 : ¬ (i : Int) < (L.length : Int) := by omega
   obtain ⟨ys, ho, -⟩ := hs.out.row
   have HO : Hid (wr.ownsRow 0 35 5 (.slice a L.length c) L.length ys) := ho
   clear ho HS0
   have tok1 : True := trivial
   go_wp2_with (at_builtin; have _t := tok1; refine wpList_app rfl _ _ rfl Tryz.underlying22 info25 rfl (by decide) 0 (.slice a L.length c) L.length ys rfl (own_of_block HO.out (fun k hk => Below.heap_alloc _ _ _ (own_block_lt HO.out k hk).2)) (some ⟨wr.heap.size, 0, none⟩) 1 1 [.int .i64 7, .string ⟨#[]⟩, .slice none 0 0, .string ⟨#[]⟩, .slice none 0 0] rfl rfl (by have := news_new wr #[.int .i64 7, .string ⟨#[]⟩, .slice none 0 0, .string ⟨#[]⟩, .slice none 0 0] 35; simpa using this) (tree_one _ _ _ _ _ _ _ _ _) (by unfold maxLen; omega) (by omega) (by omega) ?_; intro v3 w4 hown3 hg3 _ hat3; clear tok1 _t)
   go_end0
   exact ⟨rfl, (hs.out.turn.alloc _).grown hg3 (fun k hk => .inr hk)⟩
theorem spoil_all : ∀ d : Nat, SpoilAll d
 | 0 => spoil_zero
 | d + 1 => spoil_succ d (spoil_all d)
attribute [local go_sem] Bel.cell Bel.fz
theorem patches_walk (n : Nat) (w : World) (a : Option Addr) (L : List (T n)) (c : Nat) (la : Option Addr) (l : List OpP) (lc : Nat) (hk : KidsAt w 0 w.heap.size n a L) (hl : L.length <= maxK) (ho : OpsAt w 0 w.heap.size la l) (hll : l.length <= 925904528653) :
  Calls Tryz.prog 3 #[.slice a L.length c, .slice la l.length lc] w fun e w' => e = .returned (.bool true) /\ Below w.heap.size w w' := by
 have hcp := cpy_any n w 0 a L c hk hl
 have HK : Hid (KidsAt w 0 w.heap.size n a L) := hk
 have HO : Hid (OpsAt w 0 w.heap.size la l) := ho
 have HL : Hid (L.length <= maxK) := hl
 unfold maxK at hl
 clear hk ho
 go_enter Tryz.func3, Tryz.ntmps3
 go_wp2_with fail
 refine hcp.mono ?_
 rintro e w1 ⟨ia, ic, rfl, hik, hic, hb1⟩
 have hs1 := hb1.size
 have hop := ops_any w1 0 la l lc ((HO.out.below hb1 (Nat.le_refl _)).mono (Nat.le_refl _) hs1) hll
 have HIK : Hid (KidsAt w1 w.heap.size w1.heap.size n ia L) := hik
 have HB1 : Hid (Below w.heap.size w w1) := hb1
 clear hcp hik hb1
 go_wp2_with fail
 refine hop.mono ?_
 rintro e w2 ⟨oa, oc, rfl, hot, hoc, hb2⟩
 have hs2 := hb2.size
 have HIK2 : Hid (KidsAt w2 w.heap.size w1.heap.size n ia L) := HIK.out.below hb2 (Nat.le_refl _)
 have HOT : Hid (OpsAt w2 0 w2.heap.size oa l) := hot.mono (Nat.zero_le _) (Nat.le_refl _)
 have HB2 : Hid (Below w.heap.size w w2) := HB1.out.trans (hb2.mono hs1)
 have hpa := patch_any n w2 0 ia L ic oa l oc (HIK2.out.mono (Nat.zero_le _) hs2) HL.out HOT.out (by omega)
 clear hop hot hb2 HIK HB1
 go_wp2_with fail
 refine hpa.mono ?_
 rintro e w3 hp3
 obtain ⟨hb3, ga, gc, xs, R, rfl, hown, hfs, hRb⟩ := hp3.all
 have hs3 := hb3.size
 have HB3 : Hid (Below w.heap.size w w3) := HB2.out.trans (hb3.mono (by omega))
 have HIK3 : Hid (KidsAt w3 w.heap.size w1.heap.size n ia L) := HIK2.out.below hb3 (by omega)
 have HOT3 : Hid (OpsAt w3 0 w2.heap.size oa l) := HOT.out.below hb3 (Nat.le_refl _)
 have HOW3 : Hid (w3.ownsRow w2.heap.size 35 5 (.slice ga (ansF L l).length gc) (ansF L l).length xs) := hown
 have HFS3 : Hid (ForS (TreeS w3 64) R xs (ansF L l)) := hfs
 have HRB3 : Hid (∀ b, R b -> w2.heap.size <= b /\ b < w3.heap.size /\ (Value.slice ga (ansF L l).length gc).ownBlock ≠ some b) := hRb
 have hrp := rpatch_any n w3 0 a L c la l lc ((HK.out.below HB3.out (Nat.le_refl _)).mono (Nat.le_refl _) (by omega)) HL.out ((HO.out.below HB3.out (Nat.le_refl _)).mono (Nat.le_refl _) (by omega)) (by omega)
 clear hpa hp3 hown hfs hRb hb3 HIK2 HOT HB2
 go_wp2_with fail
 refine hrp.mono ?_
 rintro e w4 hp4
 obtain ⟨hb4, wa, wc, R', rfl, hfr, hRl⟩ := hp4.all
 have hs4 := hb4.size
 have HB4 : Hid (Below w.heap.size w w4) := HB3.out.trans (hb4.mono (by omega))
 have HIK4 : Hid (KidsAt w4 w.heap.size w1.heap.size n ia L) := HIK3.out.below hb4 (by omega)
 have HOT4 : Hid (OpsAt w4 0 w2.heap.size oa l) := HOT3.out.below hb4 (by omega)
 have HK4 : Hid (KidsAt w4 0 w.heap.size n a L) := HK.out.below HB4.out (Nat.le_refl _)
 have HOW4 : Hid (w4.ownsRow w2.heap.size 35 5 (.slice ga (ansF L l).length gc) (ansF L l).length xs) := own_of_block HOW3.out (fun k hk => hb4.block k (own_block_lt HOW3.out k hk).2)
 have HFS4 : Hid (ForS (TreeS w4 64) R xs (ansF L l)) := HFS3.out.to (fun b hb => hb4.block b (HRB3.out b hb).2.1) (fun _ h => h)
 have HRB4 : Hid (∀ b, R b -> w2.heap.size <= b /\ b < w4.heap.size /\ (Value.slice ga (ansF L l).length gc).ownBlock ≠ some b) := fun b hb => by
  obtain ⟨g1, g2, g3⟩ := HRB3.out b hb
  exact ⟨g1, by omega, g3⟩
 have hfl := ans_len L l
 have hf1 := forests_same 64 (same_any 64) w4 _ R' ga wa (ansF L l) gc wc (HFS4.out.toR HOW4.out) hfr (fun b hb => by
  rcases hb with hb | hb
  ·exact (HRB4.out b hb).2.1
  ·exact (own_block_lt HOW4.out b hb).2) hRl (by omega)
 have HF2 : Hid (∀ W, Below w4.heap.size w4 W -> Calls Tryz.prog 8 #[.slice ia L.length ic, .slice a L.length c] W fun e w' => e = .returned (.bool true) /\ Below W.heap.size W w') := fun W hW =>
  forests_same n (same_any n) W _ _ ia a L ic c (HIK4.out.below hW (by omega)).toF (HK4.out.below hW (by omega)).toF (fun b hb => by have := hW.size; omega) (fun b hb => by have := hW.size; omega) (by omega)
 have hzz : (ansZ L l == ansZ L l) = true := by simp
 have hkk : ((ansK L l : Int) == (ansK L l : Int)) = true := by simp
 have HO4 : Hid (OpsAt w4 0 w.heap.size la l) := HO.out.below HB4.out (Nat.le_refl _)
 clear hrp hp4 hfr hRl hb4 HB3 HIK3 HOT3 HOW3 HFS3 HRB3 HK HO HK4 HIK4
 generalize ansF L l = G at *
 generalize ansK L l = qk at *
 generalize ansZ L l = qz at *
 go_wp2_with fail
 refine hf1.mono ?_
 rintro e w5 ⟨rfl, hb5⟩
 have hf2 := HF2.out w5 hb5
 have hs5 := hb5.size
 have HB5 : Hid (Below w4.heap.size w4 w5) := hb5
 clear hf1 HF2 hb5
 go_wp2_with fail
 refine hf2.mono ?_
 rintro e w6 ⟨rfl, hb6⟩
 have hs6 := hb6.size
 have HB6 : Hid (Below w4.heap.size w4 w6) := HB5.out.trans (hb6.mono (by omega))
 have hsp := spoil_all 64 w6 G ga gc xs R hfl (fun b hb => by
  obtain ⟨g1, g2, g3⟩ := HRB4.out b hb
  exact ⟨by omega, g3⟩) (own_base (own_of_block HOW4.out (fun k hk => HB6.out.block k (own_block_lt HOW4.out k hk).2)) (fun k _ => Nat.zero_le _)) (HFS4.out.to (fun b hb => HB6.out.block b (HRB4.out b hb).2.1) (fun _ h => h))
 clear hf2 hb6 HB5
 go_wp2_with fail
 refine hsp.mono ?_
 rintro e w7 ⟨rfl, ht7⟩
 have hA : ∀ b, (R b \/ (Value.slice ga G.length gc).ownBlock = some b) -> w2.heap.size <= b := fun b hb => by
  rcases hb with hb | hb
  ·exact (HRB4.out b hb).1
  ·exact (own_block_lt HOW4.out b hb).1
 have hs7 := ht7.size
 have HB7 : Hid (Below w.heap.size w w7) := (HB4.out.trans (HB6.out.mono (by omega))).trans (ht7.below (by omega) (fun k hk => by have := hA k hk; omega))
 have HOT7 : Hid (OpsAt w7 0 w2.heap.size oa l) := (HOT4.out.below HB6.out (by omega)).turn ht7 (by omega) (fun k _ h2 h3 => by have := hA k h3; omega)
 have HO7 : Hid (OpsAt w7 0 w.heap.size la l) := (HO4.out.below HB6.out (by omega)).turn ht7 (by omega) (fun k _ h2 h3 => by have := hA k h3; omega)
 have hsz1 : w2.heap.size <= w7.heap.size := by omega
 have hsz2 : w.heap.size <= w7.heap.size := by omega
 clear hsp ht7 hA HOT4 HO4 HB6 HB4 HOW4 HFS4 HRB4 hs1 hs2 hs3 hs4 hs5 hs6 hs7 hfl hzz hkk
 go_wp2
 go_loopw [13] (fun iv wr => ∃ j : Nat, j <= l.length /\ iv = .int .i64 (j : Int) /\ Hid (Below w7.heap.size w7 wr)) (fun iv _ => l.length - (intOf iv).toNat)
 case atStart => exact ⟨0, by omega, rfl, Below.refl _ _⟩
 case round =>
  obtain ⟨j, hj, rfl, hbw⟩ := hrel
  have hbs := hbw.out.size
  by_cases hlt : j < l.length
  ·obtain ⟨x, hx⟩ : ∃ x, l[j]? = some x := ⟨_, List.getElem?_eq_getElem hlt⟩
   obtain ⟨b, o, tk, tn, aa, al, ac, tt, ka, kl, kc, rfl, -, hbh, -, -, c0, -, -, -, -, -, c6, c7, c8, c9, c10, htr⟩ := (HOT7.out.below hbw.out hsz1).get hx
   obtain ⟨b2, o2, tk2, tn2, aa2, al2, ac2, tt2, ka2, kl2, kc2, rfl, -, hbh2, -, -, d0, -, -, -, -, -, d6, d7, d8, d9, d10, htr2⟩ := (HO7.out.below hbw.out hsz2).get hx
   have tl : (j : Int) < (l.length : Int) := by omega
   have t0 : (0 : Int) <= (j : Int) := by omega
   have hbr : b < wr.heap.size := by omega
   have hbr2 : b2 < wr.heap.size := by omega
   have hcal : ∀ W, Below wr.heap.size wr W -> Calls Tryz.prog 10 #[.agg #[.int .i64 tk, .string tn, .slice aa al ac, .string tt, .slice ka kl kc], .agg #[.int .i64 tk2, .string tn2, .slice aa2 al2 ac2, .string tt2, .slice ka2 kl2 kc2]] W fun e w' => e = .returned (.bool true) /\ Below W.heap.size W w' := fun W hW =>
    same_any x.lev W _ _ _ _ x.tree (htr.below hW (by omega)).toR (htr2.below hW (by omega)).toR (fun b hb => by have := hW.size; omega) (fun b hb => by have := hW.size; omega)
   have hkx : (x.kind == x.kind) = true := by simp
   clear hx htr htr2
   generalize x.kind = xk at *
   go_wp2
   refine wp_region_bel (by kernel_rfl) (by kernel_rfl) ?_
   intro hne
   repeat go_big_quiet_step ((go_at_call 10; exact Calls.bel_of (hcal _ (Bel.h _))))
   refine wpQuiet_nil ?_
   rintro _ ⟨u, rfl⟩
   have HB2 : Hid (Below w7.heap.size w7 u.w) := hbw.out.trans (u.h.mono hbs)
   go_wp2
   go_roundw
   case rel => exact ⟨j + 1, by omega, by go_num, HB2⟩
   case measure => simp [intOf]; omega
  ·have hje : j = l.length := by omega
   subst hje
   go_wp2
   go_ret
   exact ⟨rfl, HB7.out.trans (hbw.out.mono hsz2)⟩
end Go.Proofs.YtmapmkogjhinmaaGreat
