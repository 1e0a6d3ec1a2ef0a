/- Trees in plain, as data by levels, and how they lie in memory; what a call leaves as it was. -/
import Derived.Test.YtnhajpeijkbbeaaWords
namespace Go.Proofs.Ytnhajpeijkbbeaa
open Go.RowKit
set_option linter.unusedVariables false

def IsCells (w : World) (b : Nat) (cs : Array Value) : Prop := ∃ T, w.heap[b]? = some (.cells cs T (0, 0))

theorem IsCells.lt {w : World} {b : Nat} {cs : Array Value} (h : IsCells w b cs) : b < w.heap.size := by
  obtain ⟨T, h⟩ := h
  exact (Array.getElem?_eq_some_iff.1 h).1
theorem IsCells.cell {w : World} {b : Nat} {cs : Array Value} (h : IsCells w b cs) (o : Nat) : w.cell? ⟨b, o, none⟩ = cs[o]? := by
  obtain ⟨T, h⟩ := h
  simp [World.cell?, h]
theorem IsCells.frozen {w : World} {b : Nat} {cs : Array Value} (h : IsCells w b cs) (o : Nat) : w.frozen? ⟨b, o, none⟩ = false := by
  obtain ⟨T, h⟩ := h
  simp [World.frozen?, h]
theorem IsCells.of_block {w w' : World} {b : Nat} {cs : Array Value} (h : IsCells w b cs) (hb : w'.heap[b]? = w.heap[b]?) : IsCells w' b cs := by
  obtain ⟨T, h⟩ := h
  exact ⟨T, hb.trans h⟩
theorem IsCells.alloc {w : World} {b : Nat} {cs : Array Value} (h : IsCells w b cs) (o : Obj) : IsCells (w.alloc o) b cs :=
  h.of_block (Below.heap_alloc _ _ _ h.lt)
theorem IsCells.other {w : World} {b : Nat} {cs : Array Value} (h : IsCells w b cs) {a : Addr} (hne : b ≠ a.block) (v : Value) : IsCells (w.setCell a v) b cs :=
  h.of_block (Below.heap_setCell _ _ _ _ hne)
theorem IsCells.set {w : World} {b : Nat} {cs : Array Value} (h : IsCells w b cs) (o : Nat) (v : Value) : IsCells (w.setCell ⟨b, o, none⟩ v) b (cs.setIfInBounds o v) := by
  obtain ⟨T, h⟩ := h
  refine ⟨T, ?_⟩
  simp [World.setCell, Array.getElem?_modify, h]
theorem isCells_new (w : World) (cs : Array Value) (T : TypeId) : IsCells (w.alloc (.cells cs T)) w.heap.size cs := ⟨T, heap_alloc_new w _⟩

/-- Blocks of which A does not hold are as they were. -/
structure Turn (A : Nat → Prop) (w w' : World) : Prop where
  os : w'.os = w.os
  tape : w'.tape = w.tape
  output : w'.output = w.output
  size : w.heap.size ≤ w'.heap.size
  block : ∀ k, k < w.heap.size → ¬ A k → w'.heap[k]? = w.heap[k]?

theorem Turn.refl (A : Nat → Prop) (w : World) : Turn A w w := ⟨rfl, rfl, rfl, Nat.le_refl _, fun _ _ _ => rfl⟩
theorem Turn.trans {A : Nat → Prop} {a b c : World} (h : Turn A a b) (k : Turn A b c) : Turn A a c :=
  ⟨k.os.trans h.os, k.tape.trans h.tape, k.output.trans h.output, Nat.le_trans h.size k.size, fun i hi ha => (k.block i (Nat.lt_of_lt_of_le hi h.size) ha).trans (h.block i hi ha)⟩
theorem Turn.mono {A B : Nat → Prop} {a b : World} (h : Turn A a b) (hAB : ∀ k, k < a.heap.size → A k → B k) : Turn B a b :=
  ⟨h.os, h.tape, h.output, h.size, fun i hi hb => h.block i hi (fun ha => hb (hAB i hi ha))⟩
theorem Turn.drew {A : Nat → Prop} {a w : World} (h : Turn A a w) : Turn A a w.drew := ⟨h.os, h.tape, h.output, h.size, h.block⟩
theorem Turn.drewN {A : Nat → Prop} {a w : World} (h : Turn A a w) (n : Nat) : Turn A a (w.drewN n) := ⟨h.os, h.tape, h.output, h.size, h.block⟩
theorem Turn.alloc {A : Nat → Prop} {a w : World} (h : Turn A a w) (o : Obj) : Turn A a (w.alloc o) :=
  h.trans ⟨rfl, rfl, rfl, by simp, fun k hk _ => Below.heap_alloc _ _ _ hk⟩
theorem Turn.setCell {A : Nat → Prop} {a w : World} (h : Turn A a w) {p : Addr} (hp : A p.block) (u : Value) : Turn A a (w.setCell p u) :=
  h.trans ⟨rfl, rfl, rfl, by simp [World.setCell], fun _ _ ha => Below.heap_setCell _ _ _ _ (fun e => ha (by rw [e]; exact hp))⟩
/-- A store into a block that was not there at the start. -/
theorem Turn.setNew {A : Nat → Prop} {a w : World} (h : Turn A a w) {p : Addr} (hp : a.heap.size ≤ p.block) (u : Value) : Turn A a (w.setCell p u) :=
  ⟨h.os, h.tape, h.output, Nat.le_trans h.size (by simp [World.setCell]), fun k hk ha => (Below.heap_setCell _ _ _ _ (by omega)).trans (h.block k hk ha)⟩
theorem Turn.below {A : Nat → Prop} {B : Nat} {w w' : World} (h : Turn A w w') (hB : B ≤ w.heap.size) (hA : ∀ k, A k → B ≤ k) : Below B w w' :=
  ⟨h.os, h.tape, h.output, h.size, fun k hk => h.block k (by omega) (fun ha => by have := hA k ha; omega)⟩
/-- What came behind left alone all that was there. -/
theorem Turn.then {A : Nat → Prop} {a b c : World} (h : Turn A a b) {B : Nat} (k : Below B b c) (hB : a.heap.size ≤ B) : Turn A a c :=
  ⟨k.os.trans h.os, k.tape.trans h.tape, k.output.trans h.output, Nat.le_trans h.size k.size, fun i hi ha => (k.block i (by omega)).trans (h.block i hi ha)⟩

/-- A node, over whatever its children are. -/
structure Nd (α : Type) where
  kind : Int
  name : ByteArray
  attrs : List (ByteArray × ByteArray)
  text : ByteArray
  kids : List α

/-- Trees of at most so many levels. -/
def T : Nat → Type
  | 0 => Empty
  | n + 1 => Nd (T n)

/-- A list of attributes lies in memory, in blocks from lo on, below hi. -/
def AttrsAt (w : World) (lo hi : Nat) (a : Option Addr) (l : List (ByteArray × ByteArray)) : Prop :=
  ∀ i p, l[i]? = some p → ∃ b o, a = some ⟨b, o, none⟩ ∧ lo ≤ b ∧ b < hi ∧ w.cell? ⟨b, o + i * 2, none⟩ = some (.string p.1) ∧ w.cell? ⟨b, o + i * 2 + 1, none⟩ = some (.string p.2)

/-- A tree's own word: the cells of a struct. -/
def tv (k : Int) (nm : ByteArray) (a : Option Addr) (al ac : Nat) (tx : ByteArray) (ka : Option Addr) (kl kc : Nat) : Array Value :=
  #[.int .i64 k, .string nm, .slice a al ac, .string tx, .slice ka kl kc]

def maxA : Nat := 4398046511104
def maxK : Nat := 1599289640401

/-- A tree lies in memory, in blocks from lo on, below hi. -/
def TreeAt (w : World) (lo hi : Nat) : (n : Nat) → Array Value → T n → Prop
  | 0, _, t => False
  | n + 1, v, t => ∃ (a : Option Addr) (ac : Nat) (ka : Option Addr) (kc : Nat), v = tv t.kind t.name a t.attrs.length ac t.text ka t.kids.length kc ∧
      t.attrs.length ≤ maxA ∧ t.kids.length ≤ maxK ∧ t.attrs.length ≤ ac ∧ t.kids.length ≤ kc ∧ AttrsAt w lo hi a t.attrs ∧
      ∀ i k, t.kids[i]? = some k → ∃ (b o : Nat) (u : Array Value), ka = some ⟨b, o, none⟩ ∧ lo ≤ b ∧ b < hi ∧ u.size = 5 ∧ (∀ j, j < 5 → w.cell? ⟨b, o + i * 5 + j, none⟩ = u[j]?) ∧ TreeAt w lo hi n u k

theorem AttrsAt.of_cells {w w' : World} {lo hi : Nat} {a : Option Addr} {l : List (ByteArray × ByteArray)} (h : AttrsAt w lo hi a l) (hc : ∀ b o, lo ≤ b → b < hi → w'.cell? ⟨b, o, none⟩ = w.cell? ⟨b, o, none⟩) : AttrsAt w' lo hi a l := by
  intro i p hp
  obtain ⟨b, o, h1, h2, h3, h4, h5⟩ := h i p hp
  exact ⟨b, o, h1, h2, h3, (hc _ _ h2 h3).trans h4, (hc _ _ h2 h3).trans h5⟩

theorem TreeAt.of_cells {w w' : World} {lo hi : Nat} (hc : ∀ b o, lo ≤ b → b < hi → w'.cell? ⟨b, o, none⟩ = w.cell? ⟨b, o, none⟩) : ∀ {n : Nat} {v : Array Value} {t : T n}, TreeAt w lo hi n v t → TreeAt w' lo hi n v t
  | 0, _, _, h => h.elim
  | n + 1, v, t, h => by
    obtain ⟨a, ac, ka, kc, h1, h2, h3, h4, h5, h6, h7⟩ := h
    refine ⟨a, ac, ka, kc, h1, h2, h3, h4, h5, h6.of_cells hc, fun i k hk => ?_⟩
    obtain ⟨b, o, u, g1, g2, g3, g4, g5, g6⟩ := h7 i k hk
    exact ⟨b, o, u, g1, g2, g3, g4, fun j hj => (hc _ _ g2 g3).trans (g5 j hj), TreeAt.of_cells hc g6⟩

theorem AttrsAt.mono {w : World} {lo hi lo' hi' : Nat} {a : Option Addr} {l : List (ByteArray × ByteArray)} (h : AttrsAt w lo hi a l) (h1 : lo' ≤ lo) (h2 : hi ≤ hi') : AttrsAt w lo' hi' a l := by
  intro i p hp
  obtain ⟨b, o, g1, g2, g3, g4, g5⟩ := h i p hp
  exact ⟨b, o, g1, by omega, by omega, g4, g5⟩

theorem TreeAt.mono {w : World} {lo hi lo' hi' : Nat} (h1 : lo' ≤ lo) (h2 : hi ≤ hi') : ∀ {n : Nat} {v : Array Value} {t : T n}, TreeAt w lo hi n v t → TreeAt w lo' hi' n v t
  | 0, _, _, h => h.elim
  | n + 1, v, t, h => by
    obtain ⟨a, ac, ka, kc, g1, g2, g3, g4, g5, g6, g7⟩ := h
    refine ⟨a, ac, ka, kc, g1, g2, g3, g4, g5, g6.mono h1 h2, fun i k hk => ?_⟩
    obtain ⟨b, o, u, e1, e2, e3, e4, e5, e6⟩ := g7 i k hk
    exact ⟨b, o, u, e1, by omega, by omega, e4, e5, TreeAt.mono h1 h2 e6⟩

theorem TreeAt.below {w w' : World} {lo hi B n : Nat} {v : Array Value} {t : T n} (h : TreeAt w lo hi n v t) (hb : Below B w w') (hB : hi ≤ B) : TreeAt w' lo hi n v t :=
  h.of_cells (fun b o _ hb' => hb.cell (p := ⟨b, o, none⟩) (show b < B by omega))
theorem TreeAt.turn {w w' : World} {lo hi n : Nat} {v : Array Value} {t : T n} {A : Nat → Prop} (h : TreeAt w lo hi n v t) (ht : Turn A w w') (hs : hi ≤ w.heap.size) (hA : ∀ k, lo ≤ k → k < hi → ¬ A k) : TreeAt w' lo hi n v t :=
  h.of_cells (fun b o hb1 hb2 => World.cell?_of_block (w := w) (a := ⟨b, o, none⟩) (ht.block b (by omega) (hA b hb1 hb2)))

/-- What is wrong with attributes, the name ahead known. -/
def leB (a b : ByteArray) : Bool := Op.bytesLess a.toList b.toList || a.toList == b.toList
def attrsGo : Option ByteArray → List (ByteArray × ByteArray) → Int
  | _, [] => 0
  | prev, p :: r => if nameL p.1.data.toList = false ∨ (∃ q, prev = some q ∧ leB p.1 q = true) then 6 else if (tans p.2.data.toList).2 = 0 then attrsGo (some p.1) r else (tans p.2.data.toList).2
def attrsE (l : List (ByteArray × ByteArray)) : Int := if 32 < l.length then 2 else attrsGo none l
/-- What is wrong with a node itself. -/
def ownE {α : Type} (t : Nd α) : Int :=
  if t.kind = 1 then (if nameL t.name.data.toList then attrsE t.attrs else 6) else if t.kind = 2 then (tans t.text.data.toList).2 else 1
def kidsT {α : Type} (t : Nd α) : List α := if t.kind = 1 then t.kids else []

/-- Node behind node: how many stand ahead, what is wrong. -/
def chkL {α : Type} (f : α → Int → Int × Int) : List α → Int → Int × Int
  | [], a => (a, 0)
  | k :: r, a => if (f k a).2 = 0 then chkL f r (f k a).1 else f k a
def chk : (n : Nat) → T n → Int → Int → Int × Int
  | 0, t, _, a => (a, 0)
  | n + 1, t, d, a => if 64 < d ∨ 4096 ≤ a then (a, 2) else if ownE t = 0 then chkL (fun k x => chk n k (d + 1) x) (kidsT t) (a + 1) else (a, ownE t)

end Go.Proofs.Ytnhajpeijkbbeaa
