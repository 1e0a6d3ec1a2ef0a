/- Numbers and links that are read as data. -/
import Derived.Test.YtjkgjckkglfokaaLw
import Derived.Test.YtjkgjckkglfokaaRows
import Derived.ProofKit
import Derived.OpenShut
import Derived.ChangeOld
import Derived.SizedLaws
import Derived.Deep.Slices
namespace Go.Proofs.Ytjkgjckkglfokaa
open Go.RowKit Go.Deep
set_option linter.unusedVariables false

theorem cells3 : Try.prog.cellsOf 3 = 1 := by kernel_rfl
theorem cells4 : Try.prog.cellsOf 4 = 1 := by kernel_rfl
theorem cells47 : Try.prog.cellsOf 47 = 1 := by kernel_rfl
theorem cells56 : Try.prog.cellsOf 56 = 4 := by kernel_rfl

theorem wf_i64 {n : Int} (h : (Lit.int .i64 n).wf = true) : -9223372036854775808 ≤ n ∧ n < 9223372036854775808 := by
  simp [Lit.wf, IntKind.min, IntKind.max, IntKind.signed, IntKind.bits] at h
  omega
theorem one_le {H : Type} (d : DataW H) : 1 ≤ Rows.uptoBulk d := by
  cases d with
  | lit l => cases l <;> simp [Rows.uptoBulk]
  | nil => simp [Rows.uptoBulk]
  | ptr d => simp [Rows.uptoBulk]
  | slice elems spare => simp [Rows.uptoBulk]
  | agg parts => simp [Rows.uptoBulk]
  | iface t d => simp [Rows.uptoBulk]
  | map entries => simp [Rows.uptoBulk]
  | held h => simp [Rows.uptoBulk]
theorem length_le {H : Type} (l : List (DataW H)) : l.length ≤ Rows.uptoBulkAll l := by
  induction l with
  | nil => simp [Rows.uptoBulkAll]
  | cons x r ih => have := one_le x; simp only [Rows.uptoBulkAll, List.length_cons]; omega
theorem slice_le {H : Type} (elems spare : List (DataW H)) : elems.length + 1 ≤ Rows.uptoBulk (.slice elems spare) := by
  have h1 := length_le elems
  simp only [Rows.uptoBulk]
  omega
theorem part_le {H : Type} {l : List (DataW H)} {i : Nat} {d : DataW H} (h : l[i]? = some d) : Rows.uptoBulk d ≤ Rows.uptoBulkAll l := by
  induction l generalizing i with
  | nil => simp at h
  | cons x r ih =>
    simp only [Rows.uptoBulkAll]
    cases i with
    | zero => simp at h; subst h; omega
    | succ i => have := ih (i := i) (by simpa using h); omega

theorem list_of {α : Type} : ∀ (len : Nat) (p : Nat → α → Prop), (∀ i, i < len → ∃ k, p i k) → ∃ L : List α, L.length = len ∧ ∀ i k, L[i]? = some k → p i k
  | 0, p, h => ⟨[], rfl, fun i k hk => by simp at hk⟩
  | len + 1, p, h => by
    obtain ⟨L, hl, hL⟩ := list_of len p (fun i hi => h i (by omega))
    obtain ⟨x, hx⟩ := h len (by omega)
    refine ⟨L ++ [x], by simp [hl], fun i k hk => ?_⟩
    rcases Nat.lt_or_ge i len with hi | hi
    · rw [List.getElem?_append_left (by omega)] at hk
      exact hL i k hk
    · have : i = len := by
        have := (List.getElem?_eq_some_iff.1 hk).1
        simp at this
        omega
      subst this
      rw [List.getElem?_append_right (by omega), hl] at hk
      simp at hk
      subst hk
      exact hx
theorem addr_plus (b o j : Nat) : (⟨b, o, none⟩ : Addr).add j = ⟨b, o + j, none⟩ := by unfold Addr.add; split <;> simp_all

set_option maxRecDepth 100000 in
/-- A slice of numbers, read. -/
theorem nums_of {H : Type} {enc : TypeId × Value → H} {W : World} {held : Bool} {fuel : Nat} {cs : List Value} {x : DataW H × List MemPlace} (h : DataW.trod enc Try.prog W 0 (fun _ => true) held fuel 47 cs = some x) :
    ∃ a cap, ∃ L : List Int, cs = [.slice a L.length cap] ∧ NumsAt W (fun b => b < W.heap.size) a L ∧ L.length ≤ Rows.uptoBulk x.1 := by
  rcases DataW.trod_slice Try.underlying47 h with ⟨hcs, hx⟩ | ⟨ad, l, c, elems, rest, n, hf, hcs, hx, hb, hl, hm, hlen, hel, hsp, _⟩
  · exact ⟨none, 0, [], hcs, fun i y hy => by simp at hy, by simp⟩
  · subst hcs
    subst hx
    obtain ⟨L, hL1, hL2⟩ := list_of l (fun i (y : Int) => ∃ b o, (some ad : Option Addr) = some ⟨b, o, none⟩ ∧ b < W.heap.size ∧ b < W.heap.size ∧ W.cell? ⟨b, o + i, none⟩ = some (.int .i64 y)) (fun i hi => by
      have h1 := hel i hi
      rw [List.getElem?_eq_getElem (by omega), cells3] at h1
      obtain ⟨cs, h2, h3⟩ := Option.bind_eq_some_iff.1 h1
      obtain ⟨_, h4, h5⟩ := World.cells?_some h2
      obtain ⟨y, rfl, _, _⟩ := DataW.trod_int Try.underlying3 h3
      have h6 := h5 0 (by omega)
      have hspot : ad.spot = none := by
        have g1 := hel 0 (by omega)
        rw [List.getElem?_eq_getElem (by omega), cells3] at g1
        obtain ⟨cs0, g2, g3⟩ := Option.bind_eq_some_iff.1 g1
        obtain ⟨_, g4, g5⟩ := World.cells?_some g2
        have g6 := g5 0 (by omega)
        rw [List.getElem?_eq_getElem (by omega)] at g6
        simpa [Addr.add] using World.cell?_spot g6
      obtain ⟨b, o, spot⟩ := ad
      simp only at hspot
      subst hspot
      rw [addr_plus, addr_plus] at h6
      have h7 : W.cell? ⟨b, o + i, none⟩ = some (.int .i64 y) := by simpa using h6
      exact ⟨y, b, o, rfl, World.block_lt_of_cell? W _ h7, World.block_lt_of_cell? W _ h7, h7⟩)
    refine ⟨some ad, c, L, by rw [hL1], hL2, ?_⟩
    refine Nat.le_trans ?_ (slice_le _ _)
    simp [hL1, hlen]

set_option maxRecDepth 100000 in
/-- A link, read. -/
theorem link_of {H : Type} {enc : TypeId × Value → H} {W : World} {held : Bool} {fuel : Nat} {cs : List Value} {x : DataW H × List MemPlace} (h : DataW.trod enc Try.prog W 0 (fun _ => true) held fuel 56 cs = some x) :
    ∃ k : Lk, ∃ ma mc, cs = [.int .i64 k.kd, .int .i64 k.ag, .slice ma k.ms.length mc, .bool k.nl] ∧ NumsAt W (fun b => b < W.heap.size) ma k.ms ∧ k.ms.length ≤ Rows.uptoBulk x.1 ∧ k.ag < 9223372036854775808 := by
  obtain ⟨xs, n', hf, rfl, hl, g4, g5⟩ := DataW.trod_struct Try.underlying56 h
  have x4 : xs.length = 4 := g4
  rw [cells56] at hl
  have f0 : DataW.trod enc Try.prog W 0 (fun _ => true) held n' 3 ((cs.drop 0).take (Try.prog.cellsOf 3)) = xs[0]? := g5 0 _ rfl
  have f1 : DataW.trod enc Try.prog W 0 (fun _ => true) held n' 3 ((cs.drop 1).take (Try.prog.cellsOf 3)) = xs[1]? := g5 1 _ rfl
  have f2 : DataW.trod enc Try.prog W 0 (fun _ => true) held n' 47 ((cs.drop 2).take (Try.prog.cellsOf 47)) = xs[2]? := g5 2 _ rfl
  have f3 : DataW.trod enc Try.prog W 0 (fun _ => true) held n' 4 ((cs.drop 3).take (Try.prog.cellsOf 4)) = xs[3]? := g5 3 _ rfl
  have hx2 : xs[2]? = some xs[2] := List.getElem?_eq_getElem (by omega)
  rw [List.getElem?_eq_getElem (by omega)] at f0 f1 f2 f3
  rw [cells3] at f0 f1
  rw [cells47] at f2
  rw [cells4] at f3
  obtain ⟨c0, c1, c2, c3, rfl⟩ : ∃ c0 c1 c2 c3, cs = [c0, c1, c2, c3] := by
    match cs, hl with
    | [c0, c1, c2, c3], _ => exact ⟨c0, c1, c2, c3, rfl⟩
  simp at f0 f1 f2 f3
  obtain ⟨k0, q0, _⟩ := DataW.trod_int Try.underlying3 f0
  obtain ⟨k1, q1, _, hwf⟩ := DataW.trod_int Try.underlying3 f1
  obtain ⟨ma, mc, L, q2, hN, hLl⟩ := nums_of f2
  obtain ⟨b3, q3, _⟩ := DataW.trod_bool Try.underlying4 f3
  simp at q0 q1 q2 q3
  subst q0 q1 q2 q3
  refine ⟨⟨k0, k1, L, b3⟩, ma, mc, rfl, hN, Nat.le_trans hLl ?_, (wf_i64 hwf).2⟩
  have := part_le (l := xs.map (·.1)) (i := 2) (d := xs[2].1) (by simp [hx2])
  simp only [Rows.uptoBulk]
  omega

set_option maxRecDepth 100000 in
/-- A slice of links, read. -/
theorem links_of {H : Type} {enc : TypeId × Value → H} {W : World} {held : Bool} {fuel : Nat} {cs : List Value} {x : DataW H × List MemPlace} (h : DataW.trod enc Try.prog W 0 (fun _ => true) held fuel 48 cs = some x) (hu : Rows.uptoBulk x.1 ≤ 1048576) :
    ∃ a cap, ∃ L : List Lk, cs = [.slice a L.length cap] ∧ LksAt W W.heap.size a L ∧ L.length ≤ 1048576 := by
  rcases DataW.trod_slice Try.underlying48 h with ⟨hcs, hx⟩ | ⟨ad, l, c, elems, rest, n, hf, hcs, hx, hb, hl, hm, hlen, hel, hsp, _⟩
  · exact ⟨none, 0, [], hcs, fun i y hy => by simp at hy, by simp⟩
  · subst hcs
    subst hx
    have hsl := slice_le (elems.map (·.1)) (rest.map (·.1))
    obtain ⟨L, hL1, hL2⟩ := list_of l (fun i (k : Lk) => ∃ g o ma mc Km, (some ad : Option Addr) = some ⟨g, o, none⟩ ∧ g < W.heap.size ∧ W.cell? ⟨g, o + i * 4, none⟩ = some (.int .i64 k.kd) ∧ W.cell? ⟨g, o + i * 4 + 1, none⟩ = some (.int .i64 k.ag) ∧ W.cell? ⟨g, o + i * 4 + 2, none⟩ = some (.slice ma k.ms.length mc) ∧ W.cell? ⟨g, o + i * 4 + 3, none⟩ = some (.bool k.nl) ∧ NumsAt W Km ma k.ms ∧ (∀ b, Km b → b < W.heap.size) ∧ k.ms.length ≤ 1048576 ∧ k.ag < 9223372036854775808) (fun i hi => by
      have h1 := hel i hi
      have hei : elems[i]? = some elems[i] := List.getElem?_eq_getElem (by omega)
      rw [hei, cells56] at h1
      obtain ⟨cs, h2, h3⟩ := Option.bind_eq_some_iff.1 h1
      obtain ⟨_, h4, h5⟩ := World.cells?_some h2
      obtain ⟨k, ma, mc, rfl, hN, hk, hag⟩ := link_of h3
      have h6 := h5 0 (by omega)
      have h7 := h5 1 (by omega)
      have h8 := h5 2 (by omega)
      have h9 := h5 3 (by omega)
      have hspot : ad.spot = none := by
        have g1 := hel 0 (by omega)
        rw [List.getElem?_eq_getElem (by omega), cells56] at g1
        obtain ⟨cs0, g2, g3⟩ := Option.bind_eq_some_iff.1 g1
        obtain ⟨_, g4, g5⟩ := World.cells?_some g2
        have g6 := g5 0 (by omega)
        rw [List.getElem?_eq_getElem (by omega)] at g6
        simpa [Addr.add] using World.cell?_spot g6
      obtain ⟨b, o, spot⟩ := ad
      simp only at hspot
      subst hspot
      rw [addr_plus, addr_plus] at h6 h7 h8 h9
      have hp := part_le (l := elems.map (·.1)) (i := i) (d := elems[i].1) (by simp [hei])
      have hs : Rows.uptoBulkAll (elems.map (·.1)) ≤ 1048576 := by
        simp only [Rows.uptoBulk] at hu
        omega
      exact ⟨k, b, o, ma, mc, _, rfl, World.block_lt_of_cell? W _ h6, h6, h7, h8, h9, hN, fun _ h => h, by omega, hag⟩)
    refine ⟨some ad, c, L, by rw [hL1], hL2, ?_⟩
    simp only [List.length_map] at hsl
    have : Rows.uptoBulk (DataW.slice (elems.map (·.1)) (rest.map (·.1))) ≤ 1048576 := hu
    omega

end Go.Proofs.Ytjkgjckkglfokaa
