/- The document's Lists. -/
import Derived.Test.YtmeinebfdljndaaLsr
namespace Go.Proofs.Ytmeinebfdljndaa
open Go.RowKit
set_option linter.unusedVariables false
attribute [local go_sem] Bel.cell Bel.fz

def StA (w : World) (ca : Option Addr) (C : List ByteArray) : Prop := ∀ i s, C[i]? = some s → ∃ b o, ca = some ⟨b, o, none⟩ ∧ b < w.heap.size ∧ w.cell? ⟨b, o + i, none⟩ = some (.string s)
theorem StA.bel {w w' : World} {ca : Option Addr} {C : List ByteArray} (h : StA w ca C) (hb : Below w.heap.size w w') : StA w' ca C := fun i s hs => by
  obtain ⟨b, o, h1, h2, h3⟩ := h i s hs
  exact ⟨b, o, h1, Nat.lt_of_lt_of_le h2 hb.size, (hb.cell (p := ⟨b, o + i, none⟩) h2).trans h3⟩
/-- The nodes' names in memory. -/
def NdAt (w : World) (a : Option Addr) (P : List Plc) : Prop := ∀ i p, P[i]? = some p → ∃ g, a = some ⟨g, 0, none⟩ ∧ g < w.heap.size ∧ w.cell? ⟨g, i * 3 + 2, none⟩ = some (.string p.nm)
theorem NdAt.bel {w w' : World} {a : Option Addr} {P : List Plc} (h : NdAt w a P) (hb : Below w.heap.size w w') : NdAt w' a P := fun i p hp => by
  obtain ⟨g, h1, h2, h3⟩ := h i p hp
  exact ⟨g, h1, Nat.lt_of_lt_of_le h2 hb.size, (hb.cell (p := ⟨g, i * 3 + 2, none⟩) h2).trans h3⟩
theorem ndC_get : ∀ (l : List Plc) (i : Nat) (x : Plc), l[i]? = some x → (ndC l)[i * 3 + 2]? = some (.string x.nm)
  | [], i, x, h => by simp at h
  | y :: r, 0, x, h => by
    simp at h
    subst h
    rfl
  | y :: r, i + 1, x, h => by
    have := ndC_get r i x (by simpa using h)
    rw [show (i + 1) * 3 + 2 = (i * 3 + 2) + 3 from by omega]
    simpa [ndC] using this
theorem row_nd {w : World} {base : Nat} {e : TypeId} {a : Option Addr} {n cap : Nat} {P : List Plc} (h : w.ownsRow base e 3 (.slice a n cap) n (ndC P)) : NdAt w a P := fun i p hp => by
  obtain ⟨-, -, hcell⟩ := row_cell h
  obtain ⟨g, h1, -, h2, h3⟩ := hcell _ _ (ndC_get P i p hp)
  exact ⟨g, h1, h2, h3⟩
def LpR (w : World) (R : Nat → Prop) (a : Option Addr) (L : List Pl) : Prop :=
  ∀ i x, L[i]? = some x → ∃ b o, a = some ⟨b, o, none⟩ ∧ R b ∧ w.cell? ⟨b, o + i * 4, none⟩ = some (.int .u64 x.n) ∧ w.cell? ⟨b, o + i * 4 + 1, none⟩ = some (.int .u64 x.s.b) ∧ w.cell? ⟨b, o + i * 4 + 2, none⟩ = some (.int .u64 x.s.e) ∧ w.cell? ⟨b, o + i * 4 + 3, none⟩ = some (.int .i64 x.s.l)
theorem LpR.to {w w' : World} {R R' : Nat → Prop} {a : Option Addr} {L : List Pl} (h : LpR w R a L) (hR : ∀ b, R b → R' b) (hc : ∀ b, R b → w'.heap[b]? = w.heap[b]?) : LpR w' R' a L := fun i x hx => by
  obtain ⟨b, o, h1, h2, h3, h4, h5, h6⟩ := h i x hx
  have e : ∀ o', w'.cell? ⟨b, o', none⟩ = w.cell? ⟨b, o', none⟩ := fun o' => World.cell?_of_block (w := w) (a := ⟨b, o', none⟩) (hc b h2)
  exact ⟨b, o, h1, hR _ h2, (e _).trans h3, (e _).trans h4, (e _).trans h5, (e _).trans h6⟩
/-- The lists that are done, in a row of slices. -/
structure RoS (w0 wr : World) (LL : List (List Pl)) (oa : Option Addr) (oc : Nat) (xs : List Value) : Prop where
  own : wr.ownsRow w0.heap.size 25 1 (.slice oa LL.length oc) LL.length xs
  fin : ∀ (j : Nat) L, LL[j]? = some L → ∃ la lc, xs[j]? = some (.slice la L.length lc) ∧ L.length ≤ lc ∧ LpR wr (fun b => b < wr.heap.size ∧ (Value.slice oa LL.length oc).ownBlock ≠ some b) la L
  bel : Below w0.heap.size w0 wr
theorem RoS.ll {w0 wr : World} {LL : List (List Pl)} {oa : Option Addr} {oc : Nat} {xs : List Value} (h : RoS w0 wr LL oa oc xs) : LlAt wr oa LL := fun i L hL => by
  obtain ⟨la, lc, h1, h2, h3⟩ := h.fin i L hL
  obtain ⟨-, -, hcell⟩ := row_cell h.own
  obtain ⟨g, g1, -, g2, g3⟩ := hcell i _ h1
  refine ⟨g, 0, la, lc, g1, g2, by simpa using g3, h2, fun j x hx => ?_⟩
  obtain ⟨b, o, e1, e2, e3⟩ := h3 j x hx
  exact ⟨b, o, e1, e2.1, e3⟩
theorem RoS.bel' {w0 wr X : World} {LL : List (List Pl)} {oa : Option Addr} {oc : Nat} {xs : List Value} (h : RoS w0 wr LL oa oc xs) (hb : Below wr.heap.size wr X) : RoS w0 X LL oa oc xs := by
  have hs := hb.size
  refine ⟨own_bel h.own hb, fun j L hL => ?_, h.bel.trans (hb.mono h.bel.size)⟩
  obtain ⟨la, lc, h1, h2, h3⟩ := h.fin j L hL
  exact ⟨la, lc, h1, h2, h3.to (fun b hb' => ⟨by omega, hb'.2⟩) (fun b hb' => hb.block b hb'.1)⟩
/-- One more list is done. -/
theorem RoS.put {w0 wr X w4 : World} {LL : List (List Pl)} {oa : Option Addr} {oc : Nat} {xs : List Value} (h : RoS w0 wr LL oa oc xs) {M : List Pl} {ma : Option Addr} {mc : Nat} (hM : X.ownsRow wr.heap.size 38 4 (.slice ma M.length mc) M.length (plCells M)) (hb : Below wr.heap.size wr X) {o : Obj} {va : Option Addr} {vc : Nat} (hown : w4.ownsRow w0.heap.size 25 1 (.slice va (LL.length + 1) vc) (LL.length + 1) (xs ++ [.slice ma M.length mc]))
    (hg : (X.alloc o).grownBy w4 (Value.slice oa LL.length oc).ownBlock) (hat : (Value.slice va (LL.length + 1) vc).ownBlock = (Value.slice oa LL.length oc).ownBlock ∨ (Value.slice va (LL.length + 1) vc).ownBlock = some (X.alloc o).heap.size) : RoS w0 w4 (LL ++ [M]) va vc (xs ++ [.slice ma M.length mc]) := by
  have hs := hb.size
  have gs := hg.size
  simp only [World.size_alloc] at gs hat
  have hox := own_block_lt h.own
  have hbs := h.bel.size
  have hxl : xs.length = LL.length := by have := h.own.1; simpa using this
  have far : ∀ b, b < X.heap.size → (Value.slice oa LL.length oc).ownBlock ≠ some b → w4.heap[b]? = X.heap[b]? := fun b hb1 hb2 => (hg.block b (by simp; omega) (fun e => hb2 e.symm)).trans (Below.heap_alloc _ _ _ hb1)
  have hnew : ∀ b, b < X.heap.size → (Value.slice oa LL.length oc).ownBlock ≠ some b → (Value.slice va (LL.length + 1) vc).ownBlock ≠ some b := fun b h1 h2 e => by
    rcases hat with hat | hat
    · rw [hat] at e; exact h2 e
    · rw [hat] at e; simp only [Option.some.injEq] at e; omega
  refine ⟨by rw [List.length_append]; exact hown, fun j L hL => ?_, (h.bel.trans (hb.mono hbs)).trans ⟨hg.os, hg.tape, hg.output, by omega, fun k hk => far k (by omega) (fun e => by have := hox _ e; omega)⟩⟩
  rw [List.length_append]
  rcases Nat.lt_or_ge j LL.length with hj | hj
  · rw [List.getElem?_append_left hj] at hL
    obtain ⟨la, lc, h1, h2, h3⟩ := h.fin j L hL
    refine ⟨la, lc, by rw [List.getElem?_append_left (by omega)]; exact h1, h2, h3.to (fun b hb' => ⟨by omega, hnew b (by omega) hb'.2⟩) (fun b hb' => (far b (by omega) hb'.2).trans (hb.block b hb'.1))⟩
  · have hj' : j = LL.length := by
      have := (List.getElem?_eq_some_iff.1 hL).1
      simp at this
      omega
    subst hj'
    simp at hL
    subst hL
    refine ⟨ma, mc, by rw [List.getElem?_append_right (by omega), hxl]; simp, (row_cell hM).1, ?_⟩
    intro i x hx
    obtain ⟨r1, r2, r3, r4⟩ := plCells_get M i x hx
    obtain ⟨-, -, hcell⟩ := row_cell hM
    obtain ⟨g, rfl, hgb, hlt, c1⟩ := hcell _ _ r1
    obtain ⟨g', e', _, _, c2⟩ := hcell _ _ r2
    cases e'
    obtain ⟨g', e', _, _, c3⟩ := hcell _ _ r3
    cases e'
    obtain ⟨g', e', _, _, c4⟩ := hcell _ _ r4
    cases e'
    have hgo : (Value.slice oa LL.length oc).ownBlock ≠ some g := fun e => by have := hox _ e; omega
    have kk : ∀ o', w4.cell? ⟨g, o', none⟩ = X.cell? ⟨g, o', none⟩ := fun o' => World.cell?_of_block (w := X) (a := ⟨g, o', none⟩) (far g hlt hgo)
    refine ⟨g, 0, rfl, ⟨by omega, hnew g hlt hgo⟩, ?_, ?_, ?_, ?_⟩
    · rw [kk]; simpa using c1
    · rw [kk]; simpa using c2
    · rw [kk]; simpa using c3
    · rw [kk]; simpa using c4

end Go.Proofs.Ytmeinebfdljndaa
