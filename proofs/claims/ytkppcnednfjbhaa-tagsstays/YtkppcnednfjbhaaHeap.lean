/- How the program's list of tags lies in memory: the list's own block, a block a place, the map; and what a store into one of them leaves. -/
import Derived.Test.YtkppcnednfjbhaaMap
namespace Go.Proofs.Ytkppcnednfjbhaa
open Go.RowKit Go.Maps

/-- Block b of w is a row of just these cells, all of which may be written. -/
def IsCells (w : World) (b : Nat) (cs : Array Value) : Prop := ∃ T, w.heap[b]? = some (.cells cs T (0, 0))

theorem IsCells.lt {w : World} {b : Nat} {cs : Array Value} (h : IsCells w b cs) : b < w.heap.size := by
  obtain ⟨T, h⟩ := h
  exact (Array.getElem?_eq_some_iff.1 h).1

theorem IsCells.cell {w : World} {b : Nat} {cs : Array Value} (h : IsCells w b cs) (o : Nat) : w.cell? ⟨b, o, none⟩ = cs[o]? := by
  obtain ⟨T, h⟩ := h
  simp [World.cell?, h]

theorem IsCells.frozen {w : World} {b : Nat} {cs : Array Value} (h : IsCells w b cs) (o : Nat) : w.frozen? ⟨b, o, none⟩ = false := by
  obtain ⟨T, h⟩ := h
  simp [World.frozen?, h]

theorem IsCells.of_block {w w' : World} {b : Nat} {cs : Array Value} (h : IsCells w b cs) (hb : w'.heap[b]? = w.heap[b]?) : IsCells w' b cs := by
  obtain ⟨T, h⟩ := h
  exact ⟨T, hb.trans h⟩

theorem IsCells.alloc {w : World} {b : Nat} {cs : Array Value} (h : IsCells w b cs) (o : Obj) : IsCells (w.alloc o) b cs :=
  h.of_block (Below.heap_alloc _ _ _ h.lt)

theorem IsCells.other {w : World} {b : Nat} {cs : Array Value} (h : IsCells w b cs) {a : Addr} (hne : b ≠ a.block) (v : Value) : IsCells (w.setCell a v) b cs :=
  h.of_block (Below.heap_setCell _ _ _ _ hne)

theorem IsCells.set {w : World} {b : Nat} {cs : Array Value} (h : IsCells w b cs) (o : Nat) (v : Value) : IsCells (w.setCell ⟨b, o, none⟩ v) b (cs.setIfInBounds o v) := by
  obtain ⟨T, h⟩ := h
  refine ⟨T, ?_⟩
  simp [World.setCell, Array.getElem?_modify, h]

theorem isCells_new (w : World) (cs : Array Value) (T : TypeId) : IsCells (w.alloc (.cells cs T)) w.heap.size cs := ⟨T, heap_alloc_new w _⟩

theorem IsCells.inj {w : World} {b : Nat} {cs cs' : Array Value} (h : IsCells w b cs) (h' : IsCells w b cs') : cs = cs' := by
  obtain ⟨T, h⟩ := h
  obtain ⟨T', h'⟩ := h'
  rw [h] at h'
  simp at h'
  exact h'.1

/-- A place: its block, its tag, its label. -/
structure Nd where
  blk : Nat
  tag : Nat
  lab : Nat

/-- The list: its map's block, its places in their order, how many tags were given, how often labels were written. -/
structure St where
  mb : Option Nat
  ns : List Nd
  given : Nat
  writes : Nat

def ptrN (ns : List Nd) (i : Nat) : Option Addr := (ns[i]?).map fun n => ⟨n.blk, 0, none⟩
def prevOf (pb : Nat) (ns : List Nd) : Nat → Option Addr
  | 0 => some ⟨pb, 1, none⟩
  | i + 1 => ptrN ns i
def listCells (S : St) : Array Value := #[.map S.mb, .int .u64 0, .int .u64 0, .pointer none, .pointer (ptrN S.ns 0), .int .u64 S.given, .int .u64 S.writes]
def nodeCells (pb : Nat) (ns : List Nd) (i : Nat) (n : Nd) : Array Value := #[.int .u64 n.tag, .int .u64 n.lab, .pointer (prevOf pb ns i), .pointer (ptrN ns (i + 1))]

/-- Which block bears a tag. -/
def blkOf (ns : List Nd) (t : Nat) : Option Nat := (ns.find? (fun n => n.tag == t)).map Nd.blk

structure Lies (w : World) (pb : Nat) (S : St) : Prop where
  head : IsCells w pb (listCells S)
  node : ∀ i n, S.ns[i]? = some n → IsCells w n.blk (nodeCells pb S.ns i n)
  apart : (S.ns.map Nd.tag).Nodup
  map : MapAt w S.mb (blkOf S.ns) S.ns.length

theorem Lies.ne_head {w : World} {pb : Nat} {S : St} (h : Lies w pb S) {i : Nat} {n : Nd} (hi : S.ns[i]? = some n) : n.blk ≠ pb := by
  intro e
  have h1 := h.node i n hi
  rw [e] at h1
  have := congrArg Array.size (h.head.inj h1)
  simp [listCells, nodeCells] at this

theorem Lies.index {w : World} {pb : Nat} {S : St} (h : Lies w pb S) {i j : Nat} {n m : Nd} (hi : S.ns[i]? = some n) (hj : S.ns[j]? = some m) (e : n.blk = m.blk) : i = j := by
  have h1 := h.node i n hi
  rw [e] at h1
  have h2 := h1.inj (h.node j m hj)
  have h3 : n.tag = m.tag := by
    have := congrArg (fun a => a[0]?) h2
    simp [nodeCells] at this
    omega
  have h4 := h.apart
  rw [List.nodup_iff_pairwise_ne, List.pairwise_iff_getElem] at h4
  obtain ⟨li, ei⟩ := List.getElem?_eq_some_iff.1 hi
  obtain ⟨lj, ej⟩ := List.getElem?_eq_some_iff.1 hj
  rcases Nat.lt_trichotomy i j with hlt | heq | hgt
  · have := h4 i j (by simpa using li) (by simpa using lj) hlt
    simp [ei, ej, h3] at this
  · exact heq
  · have := h4 j i (by simpa using lj) (by simpa using li) hgt
    simp [ei, ej, h3] at this

/-- The blocks of a list. -/
def Own (pb : Nat) (S : St) (k : Nat) : Prop := k = pb ∨ S.mb = some k ∨ ∃ n ∈ S.ns, n.blk = k

/-- Of what was there only the blocks of A have turned. -/
structure Turn (A : Nat → Prop) (w w' : World) : Prop where
  os : w'.os = w.os
  tape : w'.tape = w.tape
  output : w'.output = w.output
  size : w.heap.size ≤ w'.heap.size
  block : ∀ k, k < w.heap.size → ¬ A k → w'.heap[k]? = w.heap[k]?

theorem Turn.refl (A : Nat → Prop) (w : World) : Turn A w w := ⟨rfl, rfl, rfl, Nat.le_refl _, fun _ _ _ => rfl⟩
theorem Turn.trans {A : Nat → Prop} {a b c : World} (h : Turn A a b) (k : Turn A b c) : Turn A a c :=
  ⟨k.os.trans h.os, k.tape.trans h.tape, k.output.trans h.output, Nat.le_trans h.size k.size, fun i hi ha => (k.block i (Nat.lt_of_lt_of_le hi h.size) ha).trans (h.block i hi ha)⟩
theorem Turn.mono {A B : Nat → Prop} {a b : World} (h : Turn A a b) (hAB : ∀ k, k < a.heap.size → A k → B k) : Turn B a b :=
  ⟨h.os, h.tape, h.output, h.size, fun i hi hb => h.block i hi (fun ha => hb (hAB i hi ha))⟩
theorem Turn.drew {A : Nat → Prop} {a w : World} (h : Turn A a w) : Turn A a w.drew := ⟨h.os, h.tape, h.output, h.size, h.block⟩
theorem Turn.drewN {A : Nat → Prop} {a w : World} (h : Turn A a w) (n : Nat) : Turn A a (w.drewN n) := ⟨h.os, h.tape, h.output, h.size, h.block⟩
theorem Turn.alloc {A : Nat → Prop} {a w : World} (h : Turn A a w) (o : Obj) : Turn A a (w.alloc o) :=
  h.trans ⟨rfl, rfl, rfl, by simp, fun k hk _ => Below.heap_alloc _ _ _ hk⟩
theorem Turn.setCell {A : Nat → Prop} {a w : World} (h : Turn A a w) {p : Addr} (hp : A p.block) (u : Value) : Turn A a (w.setCell p u) :=
  h.trans ⟨rfl, rfl, rfl, by simp [World.setCell], fun _ _ ha => Below.heap_setCell _ _ _ _ (fun e => ha (by rw [e]; exact hp))⟩
/-- A store into a block that was not there at the start. -/
theorem Turn.setNew {A : Nat → Prop} {a w : World} (h : Turn A a w) {p : Addr} (hp : a.heap.size ≤ p.block) (u : Value) : Turn A a (w.setCell p u) :=
  ⟨h.os, h.tape, h.output, Nat.le_trans h.size (by simp [World.setCell]), fun k hk ha => (Below.heap_setCell _ _ _ _ (by omega)).trans (h.block k hk ha)⟩
theorem Turn.map {A : Nat → Prop} {a w w' : World} {m : Nat} (h : Turn A a w) (hg : w.grownBy w' (some m)) (hm : A m ∨ a.heap.size ≤ m) : Turn A a w' :=
  ⟨hg.os.trans h.os, hg.tape.trans h.tape, hg.output.trans h.output, Nat.le_trans h.size hg.size, fun k hk ha =>
    (hg.block k (Nat.lt_of_lt_of_le hk h.size) (fun e => by cases e; rcases hm with hm | hm; exact ha hm; omega)).trans (h.block k hk ha)⟩
theorem Turn.below {A : Nat → Prop} {B : Nat} {w w' : World} (h : Turn A w w') (hB : B ≤ w.heap.size) (hA : ∀ k, A k → B ≤ k) : Below B w w' :=
  ⟨h.os, h.tape, h.output, h.size, fun k hk => h.block k (by omega) (fun ha => by have := hA k ha; omega)⟩

theorem Lies.own_lt {w : World} {pb : Nat} {S : St} (h : Lies w pb S) {k : Nat} (hk : Own pb S k) : k < w.heap.size := by
  rcases hk with rfl | hk | ⟨n, hn, rfl⟩
  · exact h.head.lt
  · have := h.map
    rw [hk] at this
    exact PMap.lt this
  · obtain ⟨i, hi⟩ := List.getElem?_of_mem hn
    exact (h.node i n hi).lt

theorem MapAt.of_blocks {w w' : World} {m : Option Nat} {N : Nat} {f : Nat → Option Nat} (h : MapAt w m f N) (hb : ∀ k, m = some k → w'.heap[k]? = w.heap[k]?) : MapAt w' m f N := by
  cases m with
  | none => exact h
  | some m => exact PMap.of_block h (hb m rfl)

/-- The list lies as it lay where its own blocks have not turned. -/
theorem Lies.of_turn {w w' : World} {pb : Nat} {S : St} {A : Nat → Prop} (h : Lies w pb S) (ht : Turn A w w') (hA : ∀ k, Own pb S k → ¬ A k) : Lies w' pb S :=
  ⟨h.head.of_block (ht.block _ (h.own_lt (.inl rfl)) (hA _ (.inl rfl))),
   fun i n hi => (h.node i n hi).of_block (ht.block _ (h.own_lt (.inr (.inr ⟨n, List.mem_of_getElem? hi, rfl⟩))) (hA _ (.inr (.inr ⟨n, List.mem_of_getElem? hi, rfl⟩)))),
   h.apart, h.map.of_blocks (fun _ hk => ht.block _ (h.own_lt (.inr (.inl hk))) (hA _ (.inr (.inl hk))))⟩

theorem Lies.drewN {w : World} {pb : Nat} {S : St} (h : Lies w pb S) (n : Nat) : Lies (w.drewN n) pb S :=
  h.of_turn (A := fun _ => False) ((Turn.refl _ w).drewN n) (fun _ _ hf => hf)

/-! ### the chain: 0 is the head, i + 1 the place i -/
def tagAt (ns : List Nd) : Nat → Nat
  | 0 => 0
  | i + 1 => ((ns[i]?).map Nd.tag).getD 0
def labAt (ns : List Nd) : Nat → Nat
  | 0 => 0
  | i + 1 => ((ns[i]?).map Nd.lab).getD 0
def backOf (pb : Nat) (ns : List Nd) : Nat → Option Addr
  | 0 => none
  | i + 1 => prevOf pb ns i
/-- Where a tag, or 0, stands in the chain. -/
def posOf (ns : List Nd) (t : Nat) : Option Nat := if t = 0 then some 0 else (ns.findIdx? (fun n => n.tag == t)).map (· + 1)

theorem posOf_le {ns : List Nd} {t c : Nat} (h : posOf ns t = some c) : c ≤ ns.length := by
  unfold posOf at h
  split at h
  · simp at h; omega
  · simp only [Option.map_eq_some_iff] at h
    obtain ⟨i, hi, rfl⟩ := h
    have := (List.findIdx?_eq_some_iff_getElem.1 hi).1
    omega

theorem posOf_tag {ns : List Nd} {t c : Nat} (h : posOf ns t = some c) : tagAt ns c = t := by
  unfold posOf at h
  split at h
  · simp at h; subst h; simp [tagAt]; omega
  · simp only [Option.map_eq_some_iff] at h
    obtain ⟨i, hi, rfl⟩ := h
    obtain ⟨h1, h2, _⟩ := List.findIdx?_eq_some_iff_getElem.1 hi
    simp only [tagAt, List.getElem?_eq_getElem h1, Option.map_some, Option.getD_some]
    simpa using h2

theorem blkOf_pos (pb : Nat) (ns : List Nd) {t : Nat} (ht : t ≠ 0) : ((blkOf ns t).map fun b => (⟨b, 0, none⟩ : Addr)) = (posOf ns t).bind (prevOf pb ns) := by
  unfold posOf blkOf
  rw [if_neg ht]
  cases hf : ns.findIdx? (fun n => n.tag == t) with
  | none =>
    rw [List.findIdx?_eq_none_iff] at hf
    rw [List.find?_eq_none.2 (fun x hx => by simpa using hf x hx)]
    rfl
  | some i =>
    obtain ⟨h1, h2, h3⟩ := List.findIdx?_eq_some_iff_getElem.1 hf
    have : ns.find? (fun n => n.tag == t) = some ns[i] := by
      rw [List.find?_eq_some_iff_getElem]
      exact ⟨h2, i, h1, rfl, fun j hj => by simpa using h3 j hj⟩
    rw [this]
    simp [prevOf, ptrN, h1]

/-- What a place of the chain holds. -/
theorem Lies.place {w : World} {pb : Nat} {S : St} (h : Lies w pb S) {c : Nat} (hc : c ≤ S.ns.length) : ∃ b o, prevOf pb S.ns c = some ⟨b, o, none⟩ ∧ w.cell? ⟨b, o, none⟩ = some (.int .u64 (tagAt S.ns c)) ∧ w.cell? ⟨b, o + 1, none⟩ = some (.int .u64 (labAt S.ns c)) ∧
    w.cell? ⟨b, o + 2, none⟩ = some (.pointer (backOf pb S.ns c)) ∧ w.cell? ⟨b, o + 3, none⟩ = some (.pointer (ptrN S.ns c)) ∧ (∀ k, w.frozen? ⟨b, k, none⟩ = false) ∧ Own pb S b ∧ (c = 0 → b = pb ∧ o = 1) ∧ (∀ i, c = i + 1 → o = 0 ∧ ∃ n, S.ns[i]? = some n ∧ n.blk = b) := by
  cases c with
  | zero => exact ⟨pb, 1, rfl, by rw [h.head.cell]; rfl, by rw [h.head.cell]; rfl, by rw [h.head.cell]; rfl, by rw [h.head.cell]; rfl, fun k => h.head.frozen k, .inl rfl, fun _ => ⟨rfl, rfl⟩, fun i hi => by omega⟩
  | succ i =>
    have hi : S.ns[i]? = some S.ns[i] := List.getElem?_eq_getElem (by omega)
    have hn := h.node i _ hi
    refine ⟨S.ns[i].blk, 0, by simp [prevOf, ptrN, hi], by rw [hn.cell]; simp [nodeCells, tagAt, hi], by rw [hn.cell]; simp [nodeCells, labAt, hi], by rw [hn.cell]; rfl, by rw [hn.cell]; rfl, fun k => hn.frozen k, .inr (.inr ⟨_, List.mem_of_getElem? hi, rfl⟩), fun e => by omega, fun j hj => ⟨rfl, ?_⟩⟩
    cases hj
    exact ⟨_, hi, rfl⟩

end Go.Proofs.Ytkppcnednfjbhaa
