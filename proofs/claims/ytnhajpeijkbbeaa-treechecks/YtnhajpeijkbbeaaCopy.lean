/- A tree in memory of its own: what Copied makes. -/
import Derived.Test.YtnhajpeijkbbeaaApp
namespace Go.Proofs.Ytnhajpeijkbbeaa
open Go.RowKit
set_option linter.unusedVariables false

def AttrsR (w : World) (R : Nat → Prop) (a : Option Addr) (l : List (ByteArray × ByteArray)) : Prop :=
  ∀ i p, l[i]? = some p → ∃ b o, a = some ⟨b, o, none⟩ ∧ R b ∧ w.cell? ⟨b, o + i * 2, none⟩ = some (.string p.1) ∧ w.cell? ⟨b, o + i * 2 + 1, none⟩ = some (.string p.2)

/-- A tree lies in memory, in blocks of which R holds. -/
def TreeR (w : World) (R : Nat → Prop) : (n : Nat) → Array Value → T n → Prop
  | 0, _, t => False
  | n + 1, v, t => ∃ (a : Option Addr) (ac : Nat) (ka : Option Addr) (kc : Nat), v = tv t.kind t.name a t.attrs.length ac t.text ka t.kids.length kc ∧
      t.attrs.length ≤ maxA ∧ t.kids.length ≤ maxK ∧ t.attrs.length ≤ ac ∧ t.kids.length ≤ kc ∧ AttrsR w R a t.attrs ∧
      ∀ i k, t.kids[i]? = some k → ∃ (b o : Nat) (u : Array Value), ka = some ⟨b, o, none⟩ ∧ R b ∧ u.size = 5 ∧ (∀ j, j < 5 → w.cell? ⟨b, o + i * 5 + j, none⟩ = u[j]?) ∧ TreeR w R n u k

theorem AttrsR.to {w w' : World} {R R' : Nat → Prop} {a : Option Addr} {l : List (ByteArray × ByteArray)} (h : AttrsR w R a l) (hR : ∀ b, R b → R' b) (hc : ∀ b o, R b → w'.cell? ⟨b, o, none⟩ = w.cell? ⟨b, o, none⟩) : AttrsR w' R' a l := by
  intro i p hp
  obtain ⟨b, o, h1, h2, h4, h5⟩ := h i p hp
  exact ⟨b, o, h1, hR _ h2, (hc _ _ h2).trans h4, (hc _ _ h2).trans h5⟩

theorem TreeR.to {w w' : World} {R R' : Nat → Prop} (hR : ∀ b, R b → R' b) (hc : ∀ b o, R b → w'.cell? ⟨b, o, none⟩ = w.cell? ⟨b, o, none⟩) : ∀ {n : Nat} {v : Array Value} {t : T n}, TreeR w R n v t → TreeR w' R' n v t
  | 0, _, _, h => h.elim
  | n + 1, v, t, h => by
    obtain ⟨a, ac, ka, kc, h1, h2, h3, h4, h5, h6, h7⟩ := h
    refine ⟨a, ac, ka, kc, h1, h2, h3, h4, h5, h6.to hR hc, fun i k hk => ?_⟩
    obtain ⟨b, o, u, g1, g2, g4, g5, g6⟩ := h7 i k hk
    exact ⟨b, o, u, g1, hR _ g2, g4, fun j hj => (hc _ _ g2).trans (g5 j hj), TreeR.to hR hc g6⟩

theorem AttrsAt.toR {w : World} {lo hi : Nat} {a : Option Addr} {l : List (ByteArray × ByteArray)} (h : AttrsAt w lo hi a l) : AttrsR w (fun b => lo ≤ b ∧ b < hi) a l := by
  intro i p hp
  obtain ⟨b, o, h1, h2, h3, h4, h5⟩ := h i p hp
  exact ⟨b, o, h1, ⟨h2, h3⟩, h4, h5⟩
theorem AttrsR.toAt {w : World} {lo hi : Nat} {a : Option Addr} {l : List (ByteArray × ByteArray)} (h : AttrsR w (fun b => lo ≤ b ∧ b < hi) a l) : AttrsAt w lo hi a l := by
  intro i p hp
  obtain ⟨b, o, h1, ⟨h2, h3⟩, h4, h5⟩ := h i p hp
  exact ⟨b, o, h1, h2, h3, h4, h5⟩
theorem TreeAt.toR {w : World} {lo hi : Nat} : ∀ {n : Nat} {v : Array Value} {t : T n}, TreeAt w lo hi n v t → TreeR w (fun b => lo ≤ b ∧ b < hi) n v t
  | 0, _, _, h => h.elim
  | n + 1, v, t, h => by
    obtain ⟨a, ac, ka, kc, h1, h2, h3, h4, h5, h6, h7⟩ := h
    refine ⟨a, ac, ka, kc, h1, h2, h3, h4, h5, h6.toR, fun i k hk => ?_⟩
    obtain ⟨b, o, u, g1, g2, g3, g4, g5, g6⟩ := h7 i k hk
    exact ⟨b, o, u, g1, ⟨g2, g3⟩, g4, g5, TreeAt.toR g6⟩
theorem TreeR.toAt {w : World} {lo hi : Nat} : ∀ {n : Nat} {v : Array Value} {t : T n}, TreeR w (fun b => lo ≤ b ∧ b < hi) n v t → TreeAt w lo hi n v t
  | 0, _, _, h => h.elim
  | n + 1, v, t, h => by
    obtain ⟨a, ac, ka, kc, h1, h2, h3, h4, h5, h6, h7⟩ := h
    refine ⟨a, ac, ka, kc, h1, h2, h3, h4, h5, h6.toAt, fun i k hk => ?_⟩
    obtain ⟨b, o, u, g1, ⟨g2, g3⟩, g4, g5, g6⟩ := h7 i k hk
    exact ⟨b, o, u, g1, g2, g3, g4, g5, TreeR.toAt g6⟩
theorem TreeR.form {w : World} {R : Nat → Prop} : ∀ {n : Nat} {v : Array Value} {t : T n}, TreeR w R n v t → ∃ k nm a al ac tx ka kl kc, v = #[.int .i64 k, .string nm, .slice a al ac, .string tx, .slice ka kl kc]
  | 0, _, _, h => h.elim
  | n + 1, v, t, h => by
    obtain ⟨a, ac, ka, kc, h1, _⟩ := h
    exact ⟨_, _, _, _, _, _, _, _, _, h1⟩

/-- The cells of attributes, one behind the other. -/
def attrCells : List (ByteArray × ByteArray) → List Value
  | [] => []
  | p :: r => .string p.1 :: .string p.2 :: attrCells r

theorem attrCells_length : ∀ l, (attrCells l).length = l.length * 2
  | [] => rfl
  | p :: r => by simp [attrCells, attrCells_length r]; omega
theorem attrCells_one : ∀ l, ∀ u ∈ attrCells l, u.oneCell' = true
  | [], u, h => by simp [attrCells] at h
  | p :: r, u, h => by
    simp only [attrCells, List.mem_cons] at h
    rcases h with rfl | rfl | h
    · rfl
    · rfl
    · exact attrCells_one r u h
theorem attrCells_get : ∀ (l : List (ByteArray × ByteArray)) (i : Nat) (p : ByteArray × ByteArray), l[i]? = some p → (attrCells l)[i * 2]? = some (.string p.1) ∧ (attrCells l)[i * 2 + 1]? = some (.string p.2)
  | [], i, p, h => by simp at h
  | q :: r, 0, p, h => by
    simp at h
    subst h
    exact ⟨rfl, rfl⟩
  | q :: r, i + 1, p, h => by
    have := attrCells_get r i p (by simpa using h)
    rw [show (i + 1) * 2 = i * 2 + 2 from by omega]
    simpa [attrCells] using this

theorem addr_plus (b o j : Nat) : (⟨b, o, none⟩ : Addr).add j = ⟨b, o + j, none⟩ := by unfold Addr.add; split <;> simp_all

/-- Attributes in memory are what an append of them takes. -/
theorem AttrsAt.news {w : World} {lo hi : Nat} {a : Option Addr} {l : List (ByteArray × ByteArray)} (h : AttrsAt w lo hi a l) : ∀ j u, (attrCells l)[j]? = some u → ∃ ad, a = some ad ∧ w.cell? (ad.add j) = some u := by
  intro j u hu
  have hlt := (List.getElem?_eq_some_iff.1 hu).1
  rw [attrCells_length] at hlt
  obtain ⟨p, hp⟩ : ∃ p, l[j / 2]? = some p := ⟨_, List.getElem?_eq_getElem (by omega)⟩
  obtain ⟨b, o, rfl, _, _, h1, h2⟩ := h _ p hp
  obtain ⟨g1, g2⟩ := attrCells_get l _ p hp
  refine ⟨_, rfl, ?_⟩
  rw [addr_plus]
  rcases Nat.mod_two_eq_zero_or_one j with e | e
  · have ej : j / 2 * 2 = j := by omega
    rw [ej] at g1 h1
    rw [hu] at g1
    rw [h1, Option.some.inj g1]
  · have ej : j / 2 * 2 + 1 = j := by omega
    rw [ej] at g2
    rw [Nat.add_assoc, ej] at h2
    rw [hu] at g2
    rw [h2, Option.some.inj g2]

/-- A row of attributes' cells is attributes in memory. -/
theorem attrs_row {w : World} {base : Nat} {e : TypeId} {a : Option Addr} {n cap : Nat} {l : List (ByteArray × ByteArray)} {xs : List Value} (h : w.ownsRow base e 2 (.slice a n cap) n xs) (hx : xs = attrCells l) : AttrsR w (fun b => (Value.slice a n cap).ownBlock = some b ∧ base ≤ b ∧ b < w.heap.size) a l ∧ n = l.length ∧ n ≤ cap := by
  subst hx
  obtain ⟨hc, hl, hcell⟩ := row_cell h
  rw [attrCells_length] at hl
  refine ⟨fun i p hp => ?_, by omega, hc⟩
  obtain ⟨g1, g2⟩ := attrCells_get l i p hp
  obtain ⟨g, rfl, hb, hlt, hc1⟩ := hcell _ _ g1
  obtain ⟨g', e', _, _, hc2⟩ := hcell _ _ g2
  cases e'
  exact ⟨g, 0, rfl, ⟨rfl, hb, hlt⟩, by simpa using hc1, by simpa using hc2⟩

theorem info40 : InfoOf Try.prog 40 (.agg #[.string ⟨#[]⟩, .string ⟨#[]⟩]) 2 32 := by unfold InfoOf; kernel_rfl
theorem info25 : InfoOf Try.prog 25 (.agg #[.int .i64 0, .string ⟨#[]⟩, .slice none 0 0, .string ⟨#[]⟩, .slice none 0 0]) 5 88 := by unfold InfoOf; kernel_rfl

/-- Copies, one behind the other, in a row: child by child. -/
def CopiesAt (w : World) (R : Nat → Prop) (n : Nat) (xs : List Value) (L : List (T n)) : Prop :=
  xs.length = L.length * 5 ∧ (∀ u ∈ xs, u.oneCell' = true) ∧ ∀ i k, L[i]? = some k → ∃ u : Array Value, u.size = 5 ∧ (∀ j, j < 5 → xs[i * 5 + j]? = u[j]?) ∧ TreeR w R n u k

theorem CopiesAt.nil (w : World) (R : Nat → Prop) (n : Nat) : CopiesAt w R n [] [] := ⟨rfl, fun _ h => by simp at h, fun i k h => by simp at h⟩
theorem CopiesAt.to {w w' : World} {R R' : Nat → Prop} {n : Nat} {xs : List Value} {L : List (T n)} (h : CopiesAt w R n xs L) (hR : ∀ b, R b → R' b) (hc : ∀ b o, R b → w'.cell? ⟨b, o, none⟩ = w.cell? ⟨b, o, none⟩) : CopiesAt w' R' n xs L :=
  ⟨h.1, h.2.1, fun i k hk => by
    obtain ⟨u, h1, h2, h3⟩ := h.2.2 i k hk
    exact ⟨u, h1, h2, h3.to hR hc⟩⟩
theorem CopiesAt.snoc {w : World} {R : Nat → Prop} {n : Nat} {xs : List Value} {L : List (T n)} (h : CopiesAt w R n xs L) {u : Array Value} {k : T n} (hu : TreeR w R n u k) : CopiesAt w R n (xs ++ u.toList) (L ++ [k]) := by
  obtain ⟨kk, nm, a, al, ac, tx, ka, kl, kc, rfl⟩ := hu.form
  refine ⟨by simp [h.1]; omega, fun x hx => ?_, fun i q hq => ?_⟩
  · rw [List.mem_append] at hx
    rcases hx with hx | hx
    · exact h.2.1 x hx
    · simp only [List.mem_cons, List.not_mem_nil, or_false] at hx
      rcases hx with rfl | rfl | rfl | rfl | rfl <;> rfl
  · have hl := h.1
    rcases Nat.lt_or_ge i L.length with hi | hi
    · rw [List.getElem?_append_left hi] at hq
      obtain ⟨u, h1, h2, h3⟩ := h.2.2 i q hq
      refine ⟨u, h1, fun j hj => ?_, h3⟩
      rw [List.getElem?_append_left (by omega)]
      exact h2 j hj
    · have hi' : i = L.length := by
        have := (List.getElem?_eq_some_iff.1 hq).1
        simp at this
        omega
      subst hi'
      simp at hq
      subst hq
      refine ⟨_, rfl, fun j hj => ?_, hu⟩
      rw [List.getElem?_append_right (by omega), hl]
      simp

/-- What a call of Copied leaves. -/
def CopP (w : World) (n : Nat) (t : T n) (e : Ending) (w' : World) : Prop :=
  ∃ v, e = .returned (.agg v) ∧ TreeAt w' w.heap.size w'.heap.size n v t ∧ Below w.heap.size w w'
def CopAll (n : Nat) : Prop := ∀ (w : World) (v : Array Value) (t : T n) (lo hi : Nat), TreeAt w lo hi n v t → hi ≤ w.heap.size → Calls Try.prog 5 #[.agg v] w (CopP w n t)

theorem news_new (w : World) (cs : Array Value) (T : TypeId) : ∀ j u, cs.toList[j]? = some u → ∃ ad, some (⟨w.heap.size, 0, none⟩ : Addr) = some ad ∧ (w.alloc (.cells cs T)).cell? (ad.add j) = some u := by
  intro j u hu
  refine ⟨_, rfl, ?_⟩
  rw [addr_plus, Nat.zero_add, (isCells_new w cs T).cell]
  simpa using hu
theorem tree_one (k : Int) (nm : ByteArray) (a : Option Addr) (al ac : Nat) (tx : ByteArray) (ka : Option Addr) (kl kc : Nat) : ∀ u ∈ [Value.int .i64 k, .string nm, .slice a al ac, .string tx, .slice ka kl kc], u.oneCell' = true := by
  intro u hu
  simp only [List.mem_cons, List.not_mem_nil, or_false] at hu
  rcases hu with rfl | rfl | rfl | rfl | rfl <;> rfl

/-- Under way. -/
structure CopSt (w wr : World) (n : Nat) (t : T (n + 1)) (a1 : Option Addr) (cap1 : Nat) (ka : Option Addr) (kc : Nat) (i : Nat) (la : Option Addr) (lcap : Nat) (xs : List Value) : Prop where
  box : IsCells wr w.heap.size #[.int .i64 t.kind, .string t.name, .slice a1 t.attrs.length cap1, .string t.text, .slice ka t.kids.length kc]
  res : IsCells wr (w.heap.size + 1) #[.int .i64 0, .string ⟨#[]⟩, .slice none 0 0, .string ⟨#[]⟩, .slice none 0 0]
  attrs : AttrsR wr (fun b => w.heap.size + 2 ≤ b ∧ b < wr.heap.size ∧ (Value.slice la i lcap).ownBlock ≠ some b) a1 t.attrs
  own : wr.ownsRow (w.heap.size + 2) 25 5 (.slice la i lcap) i xs
  kids : CopiesAt wr (fun b => w.heap.size + 2 ≤ b ∧ b < wr.heap.size ∧ (Value.slice la i lcap).ownBlock ≠ some b) n xs (t.kids.take i)
  bel : Below w.heap.size w wr

theorem take_more {α : Type} {l : List α} {i : Nat} {x : α} (h : l[i]? = some x) : l.take (i + 1) = l.take i ++ [x] := by rw [List.take_add_one, h]; rfl

/-- One child more. -/
theorem CopSt.step {w wr w2 w3 : World} {n : Nat} {t : T (n + 1)} {a1 : Option Addr} {cap1 : Nat} {ka : Option Addr} {kc i : Nat} {la : Option Addr} {lcap : Nat} {xs : List Value} (h : CopSt w wr n t a1 cap1 ka kc i la lcap xs) {k : T n} (hk : t.kids[i]? = some k)
    {u : Array Value} (hu : TreeAt w2 wr.heap.size w2.heap.size n u k) (hb : Below wr.heap.size wr w2) {o : Obj} {la' : Option Addr} {lcap' : Nat} (hown : w3.ownsRow (w.heap.size + 2) 25 5 (.slice la' (i + 1) lcap') (i + 1) (xs ++ u.toList))
    (hg : (w2.alloc o).grownBy w3 (Value.slice la i lcap).ownBlock) (hat : (Value.slice la' (i + 1) lcap').ownBlock = (Value.slice la i lcap).ownBlock ∨ (Value.slice la' (i + 1) lcap').ownBlock = some (w2.heap.size + 1)) :
    CopSt w w3 n t a1 cap1 ka kc (i + 1) la' lcap' (xs ++ u.toList) := by
  have hs := hb.size
  have hs3 : w2.heap.size + 1 ≤ w3.heap.size := by have := hg.size; simpa using this
  have hbl := h.bel.size
  have hox := own_block_lt h.own
  have hbx := h.box.lt
  have hrx := h.res.lt
  have far : ∀ b, b < w2.heap.size → (Value.slice la i lcap).ownBlock ≠ some b → w3.heap[b]? = w2.heap[b]? := fun b hb1 hb2 =>
    (hg.block b (by simp; omega) (fun e => hb2 e.symm)).trans (Below.heap_alloc _ _ _ hb1)
  have far2 : ∀ b, b < wr.heap.size → (Value.slice la i lcap).ownBlock ≠ some b → w3.heap[b]? = wr.heap[b]? := fun b hb1 hb2 => (far b (by omega) hb2).trans (hb.block b hb1)
  have hnew : ∀ b, b < w2.heap.size → (Value.slice la i lcap).ownBlock ≠ some b → (Value.slice la' (i + 1) lcap').ownBlock ≠ some b := fun b h1 h2 e => by
    rcases hat with hat | hat
    · rw [hat] at e; exact h2 e
    · rw [hat] at e; simp only [Option.some.injEq] at e; omega
  refine ⟨h.box.of_block (far2 _ hbx (fun e => by have := hox _ e; omega)), h.res.of_block (far2 _ hrx (fun e => by have := hox _ e; omega)), h.attrs.to (fun b hb' => ⟨hb'.1, by omega, hnew b (by omega) hb'.2.2⟩) (fun b o hb' => World.cell?_of_block (w := wr) (a := ⟨b, o, none⟩) (far2 b hb'.2.1 hb'.2.2)), hown, ?_, ?_⟩
  · rw [take_more hk]
    refine CopiesAt.snoc (h.kids.to (fun b hb' => ⟨hb'.1, by omega, hnew b (by omega) hb'.2.2⟩) (fun b o hb' => World.cell?_of_block (w := wr) (a := ⟨b, o, none⟩) (far2 b hb'.2.1 hb'.2.2))) ?_
    have hne : ∀ b, wr.heap.size ≤ b → (Value.slice la i lcap).ownBlock ≠ some b := fun b h1 e => by have := hox _ e; omega
    exact hu.toR.to (fun b hb' => ⟨by omega, by omega, hnew b hb'.2 (hne b hb'.1)⟩) (fun b o hb' => World.cell?_of_block (w := w2) (a := ⟨b, o, none⟩) (far b hb'.2 (hne b hb'.1)))
  · exact (h.bel.trans (hb.mono hbl)).trans ⟨hg.os, hg.tape, hg.output, by omega, fun k hk => far k (by omega) (fun e => by have := hox _ e; omega)⟩

theorem CopSt.start {w w1 : World} {n : Nat} {t : T (n + 1)} {a : Option Addr} {ac : Nat} {a1 : Option Addr} {cap1 : Nat} {ka : Option Addr} {kc : Nat} (hbx : IsCells w1 w.heap.size #[.int .i64 t.kind, .string t.name, .slice a t.attrs.length ac, .string t.text, .slice ka t.kids.length kc])
    (hrs : IsCells w1 (w.heap.size + 1) #[.int .i64 0, .string ⟨#[]⟩, .slice none 0 0, .string ⟨#[]⟩, .slice none 0 0]) (hat : AttrsR w1 (fun b => w.heap.size + 2 ≤ b ∧ b < w1.heap.size) a1 t.attrs) (hb : Below w.heap.size w w1) :
    CopSt w ((w1.setCell ⟨w.heap.size, 2, none⟩ (.slice a1 t.attrs.length cap1)).alloc (.cells #[] 25)) n t a1 cap1 ka kc 0 (some ⟨w1.heap.size, 0, none⟩) 0 [] := by
  have hs : (w1.setCell ⟨w.heap.size, 2, none⟩ (.slice a1 t.attrs.length cap1)).heap.size = w1.heap.size := by simp [World.setCell]
  have hrl := hrs.lt
  have cellsame : ∀ b o, b < w1.heap.size → b ≠ w.heap.size → ((w1.setCell ⟨w.heap.size, 2, none⟩ (.slice a1 t.attrs.length cap1)).alloc (.cells #[] 25)).cell? ⟨b, o, none⟩ = w1.cell? ⟨b, o, none⟩ := fun b o h1 h2 =>
    World.cell?_of_block (w := w1) (a := ⟨b, o, none⟩) ((Below.heap_alloc _ _ _ (by rw [hs]; exact h1)).trans (Below.heap_setCell _ _ _ _ h2))
  refine ⟨(hbx.set 2 _).alloc _, (hrs.other (by simp) _).alloc _, hat.to (fun b hb' => ⟨hb'.1, by simp [World.setCell]; omega, by simp [Value.ownBlock]; omega⟩) (fun b o hb' => cellsame b o hb'.2 (by omega)), ?_, CopiesAt.nil _ _ _, ?_⟩
  · have := own_new (w1.setCell ⟨w.heap.size, 2, none⟩ (.slice a1 t.attrs.length cap1)) 25 5
    rw [hs] at this
    exact own_base this (fun k hk => by simp only [Value.ownBlock, Option.some.injEq] at hk; omega)
  · exact (hb.setCell (p := ⟨w.heap.size, 2, none⟩) (Nat.le_refl _) _).alloc (by rw [hs]; exact hb.size) _

theorem CopSt.done {w wr w' : World} {n : Nat} {t : T (n + 1)} {a1 : Option Addr} {cap1 : Nat} {ka : Option Addr} {kc : Nat} {la : Option Addr} {lcap : Nat} {xs : List Value} (h : CopSt w wr n t a1 cap1 ka kc t.kids.length la lcap xs) (ha : t.attrs.length ≤ maxA) (hk : t.kids.length ≤ maxK) (hc : t.attrs.length ≤ cap1)
    (ht : Turn (fun b => b = w.heap.size ∨ b = w.heap.size + 1) wr w') : TreeAt w' w.heap.size w'.heap.size (n + 1) #[.int .i64 t.kind, .string t.name, .slice a1 t.attrs.length cap1, .string t.text, .slice la t.kids.length lcap] t ∧ Below w.heap.size w w' := by
  have hs := ht.size
  have hbs := h.bel.size
  have hcell : ∀ b o, w.heap.size + 2 ≤ b → b < wr.heap.size → w'.cell? ⟨b, o, none⟩ = wr.cell? ⟨b, o, none⟩ := fun b o h1 h2 => World.cell?_of_block (w := wr) (a := ⟨b, o, none⟩) (ht.block b h2 (by omega))
  obtain ⟨hlc, hxl, hrow⟩ := row_cell h.own
  refine ⟨⟨a1, cap1, la, lcap, rfl, ha, hk, hc, hlc, (h.attrs.to (R' := fun b => w.heap.size ≤ b ∧ b < w'.heap.size) (fun b hb => by omega) (fun b o hb => hcell b o hb.1 hb.2.1)).toAt, fun i k hk => ?_⟩, h.bel.trans (ht.below hbs (fun k hk => by omega))⟩
  obtain ⟨_, _, hkids⟩ := h.kids
  obtain ⟨u, h1, h2, h3⟩ := hkids i k (by rw [List.take_length]; exact hk)
  have hj : ∀ j, j < 5 → ∃ g, la = some ⟨g, 0, none⟩ ∧ w.heap.size + 2 ≤ g ∧ g < wr.heap.size ∧ wr.cell? ⟨g, i * 5 + j, none⟩ = u[j]? := fun j hj => by
    have hu := h2 j hj
    rw [Array.getElem?_eq_getElem (by omega)] at hu
    obtain ⟨g, e1, e2, e3, e4⟩ := hrow _ _ hu
    exact ⟨g, e1, e2, e3, by rw [e4, Array.getElem?_eq_getElem (by omega)]⟩
  obtain ⟨g, rfl, hg1, hg2, _⟩ := hj 0 (by omega)
  refine ⟨g, 0, u, rfl, by omega, by omega, h1, fun j hj' => ?_, (h3.to (R' := fun b => w.heap.size ≤ b ∧ b < w'.heap.size) (fun b hb => by omega) (fun b o hb => hcell b o hb.1 hb.2.1)).toAt⟩
  obtain ⟨g', e1, _, _, e4⟩ := hj j hj'
  cases e1
  rw [Nat.zero_add, hcell g _ hg1 hg2, e4]

set_option maxRecDepth 100000 in
set_option maxHeartbeats 1000000 in
theorem copied_any : ∀ (n : Nat), CopAll n
  | 0 => fun _ _ _ _ _ h => h.elim
  | n + 1 => by
    intro w v t lo hi h hsz
    have ih := copied_any n
    obtain ⟨a, ac, ka, kc, rfl, hal, hkl, hac, hkc, hat, hkt⟩ := id h
    unfold tv at h ⊢
    unfold maxA at hal
    unfold maxK at hkl
    obtain ⟨W1, hW1⟩ : ∃ W1, W1 = ((w.alloc (.cells #[.int .i64 t.kind, .string t.name, .slice a t.attrs.length ac, .string t.text, .slice ka t.kids.length kc] 25)).alloc (.cells #[.int .i64 0, .string ⟨#[]⟩, .slice none 0 0, .string ⟨#[]⟩, .slice none 0 0] 25)).alloc (.cells #[] 40) := ⟨_, rfl⟩
    have hs1 : W1.heap.size = w.heap.size + 3 := by rw [hW1]; simp
    have hbel1 : Below w.heap.size w W1 := by rw [hW1]; exact (((below_new' w _).alloc (by simp) _).alloc (by simp; omega) _)
    have hbox : IsCells W1 w.heap.size #[.int .i64 t.kind, .string t.name, .slice a t.attrs.length ac, .string t.text, .slice ka t.kids.length kc] := by rw [hW1]; exact ((isCells_new w _ 25).alloc _).alloc _
    have hres : IsCells W1 (w.heap.size + 1) #[.int .i64 0, .string ⟨#[]⟩, .slice none 0 0, .string ⟨#[]⟩, .slice none 0 0] := by
      rw [hW1]
      have := isCells_new (w.alloc (.cells #[.int .i64 t.kind, .string t.name, .slice a t.attrs.length ac, .string t.text, .slice ka t.kids.length kc] 25)) #[.int .i64 0, .string ⟨#[]⟩, .slice none 0 0, .string ⟨#[]⟩, .slice none 0 0] 25
      simp only [World.alloc, Array.size_push] at this ⊢
      exact IsCells.alloc this _
    have hown : W1.ownsRow (w.heap.size + 2) 40 2 (.slice (some ⟨w.heap.size + 1 + 1, 0, none⟩) 0 0) 0 [] := by
      rw [hW1]
      have := own_new ((w.alloc (.cells #[.int .i64 t.kind, .string t.name, .slice a t.attrs.length ac, .string t.text, .slice ka t.kids.length kc] 25)).alloc (.cells #[.int .i64 0, .string ⟨#[]⟩, .slice none 0 0, .string ⟨#[]⟩, .slice none 0 0] 25)) 40 2
      simpa using this
    have HS1 : Hid (W1.heap.size = w.heap.size + 3) := hs1
    have HW1 : Hid (W1 = ((w.alloc (.cells #[.int .i64 t.kind, .string t.name, .slice a t.attrs.length ac, .string t.text, .slice ka t.kids.length kc] 25)).alloc (.cells #[.int .i64 0, .string ⟨#[]⟩, .slice none 0 0, .string ⟨#[]⟩, .slice none 0 0] 25)).alloc (.cells #[] 40)) := hW1
    have HB1 : Hid (Below w.heap.size w W1) := hbel1
    have HBX : Hid (IsCells W1 w.heap.size #[.int .i64 t.kind, .string t.name, .slice a t.attrs.length ac, .string t.text, .slice ka t.kids.length kc]) := hbox
    have HRS : Hid (IsCells W1 (w.heap.size + 1) #[.int .i64 0, .string ⟨#[]⟩, .slice none 0 0, .string ⟨#[]⟩, .slice none 0 0]) := hres
    have HOW : Hid (W1.ownsRow (w.heap.size + 2) 40 2 (.slice (some ⟨w.heap.size + 1 + 1, 0, none⟩) 0 0) 0 []) := hown
    have HNW : Hid (∀ j u, (attrCells t.attrs)[j]? = some u → ∃ ad, a = some ad ∧ W1.cell? (ad.add j) = some u) := (hat.below hbel1 hsz).news
    have HKT : Hid (KidsAt w lo hi n ka t.kids) := hkt
    clear hat hkt h hs1 hbel1 hbox hres hown hW1
    have tok1 : True := trivial
    go_enter Try.func5, Try.ntmps5
    go_wp2_with (at_builtin; have _t := tok1; refine wpList_app rfl _ _ rfl Try.underlying22 info40 rfl (by decide) (w.heap.size + 2) (.slice (some ⟨w.heap.size + 1 + 1, 0, none⟩) 0 0) 0 [] rfl (HW1.out ▸ HOW.out) a t.attrs.length ac (attrCells t.attrs) rfl (attrCells_length _) (HW1.out ▸ HNW.out) (attrCells_one _) (by unfold maxLen; omega) (by omega) (by simp) ?_; rw [← HW1.out]; intro v1 w1 hown1 hg1 _ hat1; clear tok1 _t; obtain ⟨a1, cap1, hv1⟩ := own_slice hown1; subst hv1; rw [Nat.zero_add, List.nil_append] at hown1; rw [Nat.zero_add] at hat1; rw [Nat.zero_add]; have hbx1 := HBX.out.of_block (hg1.block _ (by have := HS1.out; omega) (fun e => by simp only [Value.ownBlock, Option.some.injEq] at e; omega)); have hrs1 := HRS.out.of_block (hg1.block _ (by have := HS1.out; omega) (fun e => by simp only [Value.ownBlock, Option.some.injEq] at e; omega)); have hc0 := hbx1.cell; have hf0 := hbx1.frozen; have HCP : Hid (t.attrs.length ≤ cap1) := (attrs_row hown1 rfl).2.2; have HST : Hid (CopSt w ((w1.setCell ⟨w.heap.size, 2, none⟩ (.slice a1 t.attrs.length cap1)).alloc (.cells #[] 25)) n t a1 cap1 ka kc 0 (some ⟨w1.heap.size, 0, none⟩) 0 []) := CopSt.start hbx1 hrs1 ((attrs_row hown1 rfl).1.to (fun b hb => hb.2) (fun _ _ _ => rfl)) (HB1.out.grown hg1 (by have := HS1.out; omega) (fun k hk => by simp only [Value.ownBlock, Option.some.injEq] at hk; omega)); clear hbx1 hrs1 hat1 HOW HNW hown1 hg1 HW1 HS1 HB1 HBX HRS)
    go_loopw [3, 4] (fun lv v wr => ∃ (i : Nat) (la : Option Addr) (lcap : Nat) (xs : List Value), i ≤ t.kids.length ∧ v = .int .i64 (i : Int) ∧ lv = .slice la i lcap ∧ Hid (CopSt w wr n t a1 cap1 ka kc i la lcap xs)) (fun _ v _ => t.kids.length - (intOf v).toNat)
    case atStart => exact ⟨0, _, _, _, Nat.zero_le _, rfl, rfl, HST⟩
    case round =>
      obtain ⟨i, la, lcap, xs, hi', rfl, rfl, hst⟩ := hrel
      have hc := hst.out.box.cell
      have hf := hst.out.box.frozen
      have hr := hst.out.res.cell
      have hrf := hst.out.res.frozen
      have hbs := hst.out.bel.size
      have hrl := hst.out.res.lt
      clear hc0 hf0 HST
      by_cases hlt : i < t.kids.length
      · obtain ⟨k, hk⟩ : ∃ k, t.kids[i]? = some k := ⟨_, List.getElem?_eq_getElem hlt⟩
        have hkt' := HKT.out.below hst.out.bel hsz
        obtain ⟨b, o, kk, nm, a', al', ac', tx, ka2, kl2, kc2, rfl, hb1, hb2, c0, c1, c2, c3, c4, htr⟩ := hkt'.get hk
        have hbr : b < wr.heap.size := by omega
        have HTR : Hid (TreeAt wr lo hi n #[.int .i64 kk, .string nm, .slice a' al' ac', .string tx, .slice ka2 kl2 kc2] k) := htr
        have HK : Hid (t.kids[i]? = some k) := hk
        clear HKT hkt' hk htr
        go_wp2_with fail
        refine (ih wr _ k lo hi HTR.out (by omega)).mono ?_
        rintro e w2 ⟨u, rfl, htu, hbu⟩
        obtain ⟨hcb, hfb⟩ := bcell hbu
        have hs2 := hbu.size
        obtain ⟨kk', nm', a'', al'', ac'', tx', ka3, kl3, kc3, rfl⟩ := htu.form
        have HTU : Hid (TreeAt w2 wr.heap.size w2.heap.size n #[.int .i64 kk', .string nm', .slice a'' al'' ac'', .string tx', .slice ka3 kl3 kc3] k) := htu
        have HBU : Hid (Below wr.heap.size wr w2) := hbu
        clear htu hbu c0 c1 c2 c3 c4 HTR
        have tok2 : True := trivial
        go_wp2_with (at_builtin; have _t := tok2; refine wpList_app rfl _ _ rfl Try.underlying23 info25 rfl (by decide) (w.heap.size + 2) (.slice la i lcap) i xs rfl (own_of_block hst.out.own (fun k hk => (Below.heap_alloc _ _ _ (by have := (own_block_lt hst.out.own k hk).2; omega)).trans (HBU.out.block k (own_block_lt hst.out.own k hk).2))) (some ⟨w2.heap.size, 0, none⟩) 1 1 [.int .i64 kk', .string nm', .slice a'' al'' ac'', .string tx', .slice ka3 kl3 kc3] rfl rfl (news_new w2 #[.int .i64 kk', .string nm', .slice a'' al'' ac'', .string tx', .slice ka3 kl3 kc3] 25) (tree_one _ _ _ _ _ _ _ _ _) (by unfold maxLen; omega) (by omega) (by simp; omega) ?_; intro v3 w3 hown3 hg3 _ hat3; clear tok2 _t; obtain ⟨la', lcap', hv3⟩ := own_slice hown3; subst hv3; have HST3 : Hid (CopSt w w3 n t a1 cap1 _ kc (i + 1) la' lcap' (xs ++ [.int .i64 kk', .string nm', .slice a'' al'' ac'', .string tx', .slice ka3 kl3 kc3])) := hst.out.step HK.out HTU.out HBU.out hown3 hg3 (by simpa using hat3); clear hown3 hg3 hat3 HTU HBU HK hst)
        go_roundw
        case rel => exact ⟨i + 1, la', lcap', _, by omega, by go_num, rfl, HST3⟩
        case measure => simp [intOf]; omega
      · have hie : i = t.kids.length := by omega
        subst hie
        clear HKT ih hlt
        go_wp2
        have hcp1 : t.attrs.length ≤ cap1 := HCP.out
        refine bodyPost_ret (v := .agg #[.int .i64 t.kind, .string t.name, .slice a1 t.attrs.length cap1, .string t.text, .slice la t.kids.length lcap]) (by simp [results, Try.results5, go_sem, hr]) rfl ⟨_, rfl, ?_⟩
        exact hst.out.done (by unfold maxA; omega) (by unfold maxK; omega) hcp1 (((((((Turn.refl _ wr).setCell (p := ⟨w.heap.size, 4, none⟩) (.inl rfl) _).setCell (p := ⟨w.heap.size + 1, 0, none⟩) (.inr rfl) _).setCell (p := ⟨w.heap.size + 1, 1, none⟩) (.inr rfl) _).setCell (p := ⟨w.heap.size + 1, 2, none⟩) (.inr rfl) _).setCell (p := ⟨w.heap.size + 1, 3, none⟩) (.inr rfl) _).setCell (p := ⟨w.heap.size + 1, 4, none⟩) (.inr rfl) _)

end Go.Proofs.Ytnhajpeijkbbeaa
