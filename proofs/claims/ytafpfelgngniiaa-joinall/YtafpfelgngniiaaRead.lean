/- Nodes with their spans that are read as data. -/
import Derived.Test.YtafpfelgngniiaaTho2
import Derived.Test.YtafpfelgngniiaaRows
import Derived.ProofKit
import Derived.OpenShut
import Derived.ChangeOld
import Derived.SizedLaws
import Derived.Deep.Slices
namespace Go.Proofs.Ytafpfelgngniiaa
open Go.RowKit Go.Deep
set_option linter.unusedVariables false

theorem cells39 : Try.prog.cellsOf 39 = 3 := by kernel_rfl
theorem cells3 : Try.prog.cellsOf 3 = 1 := by kernel_rfl
theorem cells36 : Try.prog.cellsOf 36 = 1
  := by kernel_rfl
theorem cells37 : Try.prog.cellsOf 37 = 1
  := by kernel_rfl
theorem cells41 : Try.prog.cellsOf 41 = 4 := by kernel_rfl
theorem bytes41 : Try.prog.bytesOf 41 = 32 := by kernel_rfl

theorem wf_i64 {n : Int} (h : (Lit.int .i64 n).wf = true) : -9223372036854775808 ≤ n ∧ n < 9223372036854775808 := by
  simp [Lit.wf, IntKind.min, IntKind.max, IntKind.signed, IntKind.bits] at h
  omega

set_option maxRecDepth 100000 in
theorem sp_of {H : Type} {enc : TypeId × Value → H} {W : World} {held : Bool} {fuel : Nat} {cs : List Value} {x : DataW H × List MemPlace} (h : DataW.trod enc Try.prog W 0 (fun _ => true) held fuel 39 cs = some x) : ∃ s : Sp, cs = (sv s).toList ∧ Lvl s := by
  obtain ⟨xs, n', hf, rfl, hl, g4, g5⟩ := DataW.trod_struct Try.underlying39 h
  have x3 : xs.length = 3 := g4
  rw [cells39] at hl
  have hw3 : cs.length = 3 := hl
  have f0 : DataW.trod enc Try.prog W 0 (fun _ => true) held n' 36 ((cs.drop 0).take (Try.prog.cellsOf 36)) = xs[0]? := g5 0 _ rfl
  have f1 : DataW.trod enc Try.prog W 0 (fun _ => true) held n' 36 ((cs.drop 1).take (Try.prog.cellsOf 36)) = xs[1]? := g5 1 _ rfl
  have f2 : DataW.trod enc Try.prog W 0 (fun _ => true) held n' 3 ((cs.drop 2).take (Try.prog.cellsOf 3)) = xs[2]? := g5 2 _ rfl
  rw [List.getElem?_eq_getElem (by omega)] at f0 f1 f2
  rw [cells36] at f0 f1
  rw [cells3] at f2
  obtain ⟨c0, c1, c2, rfl⟩ : ∃ c0 c1 c2, cs = [c0, c1, c2] := by
    match cs, hw3 with
    | [c0, c1, c2], _ => exact ⟨c0, c1, c2, rfl⟩
  simp at f0 f1 f2
  obtain ⟨k0, q0, _⟩ := DataW.trod_int Try.underlying36 f0
  obtain ⟨k1, q1, _⟩ := DataW.trod_int Try.underlying36 f1
  obtain ⟨k2, q2, _, hwf⟩ := DataW.trod_int Try.underlying3 f2
  simp at q0 q1 q2
  subst q0 q1 q2
  exact ⟨⟨k0, k1, k2⟩, rfl, wf_i64 hwf⟩

set_option maxRecDepth 100000 in
theorem pl_of {H : Type} {enc : TypeId × Value → H} {W : World} {held : Bool} {fuel : Nat} {cs : List Value} {x : DataW H × List MemPlace} (h : DataW.trod enc Try.prog W 0 (fun _ => true) held fuel 41 cs = some x) : ∃ p : Pl, cs = [.int .u64 p.n, .int .u64 p.s.b, .int .u64 p.s.e, .int .i64 p.s.l] ∧ Lvl p.s := by
  obtain ⟨xs, n', hf, rfl, hl, g4, g5⟩ := DataW.trod_struct Try.underlying41 h
  have x3 : xs.length = 2 := g4
  rw [cells41] at hl
  have hw4 : cs.length = 4 := hl
  have f0 : DataW.trod enc Try.prog W 0 (fun _ => true) held n' 37 ((cs.drop 0).take (Try.prog.cellsOf 37)) = xs[0]? := g5 0 _ rfl
  have f1 : DataW.trod enc Try.prog W 0 (fun _ => true) held n' 39 ((cs.drop 1).take (Try.prog.cellsOf 39)) = xs[1]? := g5 1 _ rfl
  rw [List.getElem?_eq_getElem (by omega)] at f0 f1
  rw [cells37] at f0
  rw [cells39] at f1
  obtain ⟨c0, c1, c2, c3, rfl⟩ : ∃ c0 c1 c2 c3, cs = [c0, c1, c2, c3] := by
    match cs, hw4 with
    | [c0, c1, c2, c3], _ => exact ⟨c0, c1, c2, c3, rfl⟩
  simp at f0 f1
  obtain ⟨k0, q0, _⟩ := DataW.trod_int Try.underlying37 f0
  obtain ⟨s, q1, hs⟩ := sp_of f1
  simp [sv] at q0 q1
  obtain ⟨r1, r2, r3⟩ := q1
  subst q0 r1 r2 r3
  exact ⟨⟨k0, s⟩, rfl, hs⟩

/-- No part of it takes more than a machine's memory. -/
def Wt {H : Type} (t : TypeId) (d : DataW H) : Prop := ∀ y ∈ d.weights Try.prog t, y ≤ reachBytes

theorem wt_slice {H : Type} {t e : TypeId} {es sp : List (DataW H)} (hu : Try.prog.underlying t = some (.slice e)) (h : Wt t (.slice es sp)) : (es.length + sp.length) * Try.prog.bytesOf e ≤ reachBytes := by
  unfold Wt at h
  simp only [DataW.weights, hu] at h
  exact h _ (by simp)
theorem wt_each {H : Type} : ∀ {ts : List TypeId} {ds : List (DataW H)}, (∀ y ∈ DataW.weightsEach Try.prog ts ds, y ≤ reachBytes) → ∀ {j : Nat} {t : TypeId} {d : DataW H}, ts[j]? = some t → ds[j]? = some d → Wt t d
  | [], ds, h, j, t, d, ht, hd => by simp at ht
  | t0 :: ts, [], h, j, t, d, ht, hd => by simp at hd
  | t0 :: ts, d0 :: ds, h, j, t, d, ht, hd => by
    simp only [DataW.weightsEach, List.mem_append] at h
    cases j with
    | zero =>
      simp at ht hd
      subst ht hd
      exact fun y hy => h y (.inl hy)
    | succ j => exact wt_each (fun y hy => h y (.inr hy)) (j := j) (by simpa using ht) (by simpa using hd)
theorem list_of {α : Type} : ∀ (len : Nat) (p : Nat → α → Prop), (∀ i, i < len → ∃ k, p i k) → ∃ L : List α, L.length = len ∧ ∀ i k, L[i]? = some k → p i k
  | 0, p, h => ⟨[], rfl, fun i k hk => by simp at hk⟩
  | len + 1, p, h => by
    obtain ⟨L, hl, hL⟩ := list_of len p (fun i hi => h i (by omega))
    obtain ⟨x, hx⟩ := h len (by omega)
    refine ⟨L ++ [x], by simp [hl], fun i k hk => ?_⟩
    rcases Nat.lt_or_ge i len with hi | hi
    · rw [List.getElem?_append_left (by omega)] at hk
      exact hL i k hk
    · have : i = len := by
        have := (List.getElem?_eq_some_iff.1 hk).1
        simp at this
        omega
      subst this
      rw [List.getElem?_append_right (by omega), hl] at hk
      simp at hk
      subst hk
      exact hx

theorem addr_plus (b o j : Nat) : (⟨b, o, none⟩ : Addr).add j = ⟨b, o + j, none⟩ := by unfold Addr.add; split <;> simp_all

set_option maxRecDepth 100000 in
/-- A slice of nodes with their spans, read. -/
theorem pls_of {H : Type} {enc : TypeId × Value → H} {W : World} {held : Bool} {fuel : Nat} {a : Option Addr} {len cap : Nat} {x : DataW H × List MemPlace} (h : DataW.trod enc Try.prog W 0 (fun _ => true) held fuel 22 [.slice a len cap] = some x) (hw : Wt 22 x.1) :
    ∃ L : List Pl, L.length = len ∧ len * 32 ≤ reachBytes ∧ len ≤ cap ∧ PlsAt W W.heap.size a L ∧ ∀ p ∈ L, Lvl p.s := by
  rcases DataW.trod_slice Try.underlying22 h with ⟨hcs, hx⟩ | ⟨ad, l, c, elems, rest, n, hf, hcs, hx, hb, hl, hm, hlen, hel, hsp, _⟩
  · simp at hcs
    obtain ⟨rfl, rfl, rfl⟩ := hcs
    exact ⟨[], rfl, by simp, by simp, fun i y hy => by simp at hy, fun s hs => by cases hs⟩
  · simp at hcs
    obtain ⟨rfl, rfl, rfl⟩ := hcs
    subst hx
    have w1 := wt_slice Try.underlying22 hw
    rw [bytes41] at w1
    simp only [List.length_map] at w1
    obtain ⟨L, hL1, hL2⟩ := list_of len (fun i (s : Pl) => Lvl s.s ∧ ∃ b o, (some ad : Option Addr) = some ⟨b, o, none⟩ ∧ b < W.heap.size ∧ W.cell? ⟨b, o + i * 4, none⟩ = some (.int .u64 s.n) ∧ W.cell? ⟨b, o + i * 4 + 1, none⟩ = some (.int .u64 s.s.b) ∧ W.cell? ⟨b, o + i * 4 + 2, none⟩ = some (.int .u64 s.s.e) ∧ W.cell? ⟨b, o + i * 4 + 3, none⟩ = some (.int .i64 s.s.l)) (fun i hi => by
      have h1 := hel i hi
      rw [List.getElem?_eq_getElem (by omega), cells41] at h1
      obtain ⟨cs, h2, h3⟩ := Option.bind_eq_some_iff.1 h1
      obtain ⟨_, h4, h5⟩ := World.cells?_some h2
      obtain ⟨s, rfl, hs⟩ := pl_of h3
      have h6 := h5 0 (by omega)
      have h7 := h5 1 (by omega)
      have h8 := h5 2 (by omega)
      have h9 := h5 3 (by omega)
      have hspot : ad.spot = none := by
        have g1 := hel 0 (by omega)
        rw [List.getElem?_eq_getElem (by omega), cells41] at g1
        obtain ⟨cs0, g2, g3⟩ := Option.bind_eq_some_iff.1 g1
        obtain ⟨_, g4, g5⟩ := World.cells?_some g2
        have g6 := g5 0 (by omega)
        rw [List.getElem?_eq_getElem (by omega)] at g6
        simpa [Addr.add] using World.cell?_spot g6
      obtain ⟨b, o, spot⟩ := ad
      simp only at hspot
      subst hspot
      rw [addr_plus, addr_plus] at h6 h7 h8 h9
      exact ⟨s, hs, b, o, rfl, World.block_lt_of_cell? W _ h6, h6, h7, h8, h9⟩)
    refine ⟨L, hL1, by omega, by omega, fun i y hy => (hL2 i y hy).2, fun s hs => ?_⟩
    obtain ⟨i, hi⟩ := List.getElem?_of_mem hs
    exact (hL2 i s hi).1

end Go.Proofs.Ytafpfelgngniiaa
