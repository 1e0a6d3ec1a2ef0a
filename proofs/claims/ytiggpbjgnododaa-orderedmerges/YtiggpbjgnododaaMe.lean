/- Items, and lists of lists of items, as they are read as data. -/
import Derived.Test.YtiggpbjgnododaaMl
import Derived.ProofKit
import Derived.OpenShut
import Derived.ChangeOld
import Derived.SizedLaws
import Derived.Deep.Slices
namespace Go.Proofs.Ytiggpbjgnododaa.T
open Go.ChangeShapes Go.WideShapes Go.ChangeAt Go.RowKit Go.Deep
set_option linter.unusedVariables false

/-- What is counted of a datum is within reach. -/
def Wt {H : Type} (t : TypeId) (d : DataW H) : Prop := ∀ y ∈ d.weights Try.prog t, y ≤ reachBytes

theorem cells28 : Try.prog.cellsOf 28 = 2 := by kernel_rfl
theorem cells31 : Try.prog.cellsOf 31 = 1 := by kernel_rfl
theorem cells3 : Try.prog.cellsOf 3 = 1 := by kernel_rfl
theorem bytes28 : Try.prog.bytesOf 28 = 16 := by kernel_rfl
theorem bytes31 : Try.prog.bytesOf 31 = 24 := by kernel_rfl

/-- A list that is laid place by place. -/
theorem list_of {α : Type} (n : Nat) (p : Nat → α → Prop) (h : ∀ i, i < n → ∃ x, p i x) : ∃ l : List α, l.length = n ∧ ∀ (i : Nat) x, l[i]? = some x → p i x := by
  induction n with
  | zero => exact ⟨[], rfl, fun i x hx => by simp at hx⟩
  | succ n ih =>
    obtain ⟨l, h1, h2⟩ := ih (fun i hi => h i (by omega))
    obtain ⟨x, hx⟩ := h n (by omega)
    refine ⟨l ++ [x], by simp [h1], fun i y hy => ?_⟩
    by_cases hi : i < l.length
    · rw [List.getElem?_append_left hi] at hy
      exact h2 i y hy
    · rw [List.getElem?_append_right (by omega)] at hy
      have hi0 : i = l.length := by
        have := (List.getElem?_eq_some_iff.1 hy).1
        simp at this
        omega
      subst hi0
      simp at hy
      subst hy
      rw [h1]
      exact hx

set_option maxRecDepth 100000 in
theorem items_read {H : Type} {enc : TypeId × Value → H} {W : World} {base : Nat} {sp : Nat → Bool} {held : Bool} {fuel : Nat} {a : Option Addr} {len cap : Nat} {x : DataW H × List MemPlace}
    (h : DataW.trod enc Try.prog W base sp held fuel 31 [.slice a len cap] = some x) (hsp : ∀ b, sp b = true) (hw : Wt 31 x.1) : ∃ L, Sl W a len cap L ∧ len ≤ 8796093022208 := by
  rcases open_slice Try.underlying31 h with ⟨hcs, hx⟩ | ⟨ad, l, c, m, n, D, Pl, hcs, hb, hl, hm, hmm, hx, hel⟩
  · simp at hcs
    obtain ⟨rfl, rfl, rfl⟩ := hcs
    exact ⟨[], ⟨rfl, fun i y hy => by simp at hy, by omega, by unfold maxLen; omega, fun _ => rfl⟩, by omega⟩
  · simp at hcs
    obtain ⟨rfl, rfl, rfl⟩ := hcs
    rw [hsp, if_pos rfl] at hmm
    subst hmm
    have hlen : len ≤ 8796093022208 := by
      have hb := hw ((len + (m - len)) * Try.prog.bytesOf 28) (by rw [hx]; simp [DataW.weights, Try.underlying31])
      rw [bytes28] at hb
      unfold reachBytes at hb
      omega
    have each : ∀ i, i < len → ∃ y : Int × Int, ∃ b off, ad = ⟨b, off, none⟩ ∧ b < W.heap.size ∧ W.cell? ⟨b, off + i * 2, none⟩ = some (.int .i64 y.1) ∧ W.cell? ⟨b, off + i * 2 + 1, none⟩ = some (.int .i64 y.2) := by
      intro i hi
      obtain ⟨cs', h1, h2⟩ := hel i (by omega)
      rw [cells28] at h1
      obtain ⟨ys, m', _, _, i3, i4, i5⟩ := DataW.trod_struct Try.underlying28 h2
      rw [cells28] at i3
      have y2 : ys.length = 2 := i4
      have f0 : DataW.trod enc Try.prog W base sp held m' 3 ((cs'.drop 0).take (Try.prog.cellsOf 3)) = ys[0]? := i5 0 _ rfl
      have f1 : DataW.trod enc Try.prog W base sp held m' 3 ((cs'.drop 1).take (Try.prog.cellsOf 3)) = ys[1]? := i5 1 _ rfl
      rw [cells3, List.getElem?_eq_getElem (by omega)] at f0 f1
      obtain ⟨k2, e2, _, _⟩ := DataW.trod_int Try.underlying3 f0
      obtain ⟨k3, e3, _, _⟩ := DataW.trod_int Try.underlying3 f1
      obtain ⟨q0, q1, rfl⟩ : ∃ q0 q1, cs' = [q0, q1] := by
        match cs', i3 with
        | [q0, q1], _ => exact ⟨q0, q1, rfl⟩
      simp at e2 e3
      subst e2 e3
      obtain ⟨_, _, hcell⟩ := World.cells?_some h1
      obtain ⟨b, off, spot⟩ := ad
      have r0 := hcell 0 (by omega)
      have r1 := hcell 1 (by omega)
      have hspot : spot = none := by
        obtain ⟨cs0, z1, _⟩ := hel 0 (by omega)
        rw [cells28] at z1
        obtain ⟨_, z2, z3⟩ := World.cells?_some z1
        have z4 := z3 0 (by omega)
        rw [List.getElem?_eq_getElem (by omega)] at z4
        simpa [Addr.add] using World.cell?_spot z4
      subst hspot
      rw [addr_add, addr_add] at r0 r1
      simp only [Nat.add_zero] at r0
      exact ⟨(k2, k3), b, off, rfl, World.block_lt_of_cell? W _ r0, r0, r1⟩
    obtain ⟨L, h1, h2⟩ := list_of len _ each
    refine ⟨L, ⟨h1, fun i y hy => ?_, hl, hm, by intro h; cases h⟩, hlen⟩
    obtain ⟨b, off, e, g1, g2, g3⟩ := h2 i y hy
    exact ⟨b, off, by rw [e], trivial, g1, g2, g3⟩

theorem wt_elems {H : Type} {t e : TypeId} {es sp : List (DataW H)} (hu : Try.prog.underlying t = some (.slice e)) (h : Wt t (.slice es sp)) : ∀ d ∈ es, Wt e d := by
  intro d hd y hy
  apply h
  simp only [DataW.weights, hu]
  have : ∀ (l : List (DataW H)), d ∈ l → y ∈ DataW.weightsAll Try.prog e l := by
    intro l
    induction l with
    | nil => intro h; cases h
    | cons d0 r ih =>
      intro h
      simp only [DataW.weightsAll, List.mem_append]
      rcases List.mem_cons.1 h with rfl | h
      · exact .inl hy
      · exact .inr (ih h)
  exact List.mem_cons_of_mem _ (List.mem_append.2 (.inl (this es hd)))

set_option maxRecDepth 100000 in
theorem lists_read {H : Type} {enc : TypeId × Value → H} {W : World} {base : Nat} {sp : Nat → Bool} {held : Bool} {fuel : Nat} {a : Option Addr} {len cap : Nat} {x : DataW H × List MemPlace}
    (h : DataW.trod enc Try.prog W base sp held fuel 48 [.slice a len cap] = some x) (hsp : ∀ b, sp b = true) (hw : Wt 48 x.1) : ∃ LL, Sll W a len cap LL ∧ len ≤ 5864062014805 ∧ ∀ (i : Nat) L, LL[i]? = some L → L.length ≤ 8796093022208 := by
  rcases open_slice1 Try.underlying48 cells31 h with ⟨hcs, hx⟩ | ⟨ad, l, c, m, n, V, D, Pl, hcs, hb, hl, hm, hmm, hx, hel⟩
  · simp at hcs
    obtain ⟨rfl, rfl, rfl⟩ := hcs
    exact ⟨[], ⟨rfl, fun i y hy => by simp at hy, by omega, by unfold maxLen; omega, fun _ => rfl⟩, by omega, fun i L hL => by simp at hL⟩
  · simp at hcs
    obtain ⟨rfl, rfl, rfl⟩ := hcs
    rw [hsp, if_pos rfl] at hmm
    subst hmm
    rw [hx] at hw
    have hlen : len ≤ 5864062014805 := by
      have hb := hw ((len + (m - len)) * Try.prog.bytesOf 31) (by simp [DataW.weights, Try.underlying48])
      rw [bytes31] at hb
      unfold reachBytes at hb
      omega
    have each : ∀ i, i < len → ∃ L : List (Int × Int), (∃ b off ra rc, ad = ⟨b, off, none⟩ ∧ b < W.heap.size ∧ W.cell? ⟨b, off + i, none⟩ = some (.slice ra L.length rc) ∧ Sl W ra L.length rc L) ∧ L.length ≤ 8796093022208 := by
      intro i hi
      obtain ⟨h1, h2⟩ := hel i (by omega)
      have hwi : Wt 31 (D i) := wt_elems Try.underlying48 hw (D i) (List.mem_map.2 ⟨i, by simpa using hi, rfl⟩)
      obtain ⟨ra, lr, rc, hv⟩ : ∃ ra lr rc, V i = .slice ra lr rc := by
        rcases open_slice Try.underlying31 h2 with ⟨e, _⟩ | ⟨ad', l', c', _, _, _, _, e, _⟩
        · simp at e; exact ⟨_, _, _, e⟩
        · simp at e; exact ⟨_, _, _, e⟩
      rw [hv] at h1 h2
      obtain ⟨L, hL, hb2⟩ := items_read h2 hsp hwi
      have hll := hL.len
      subst hll
      obtain ⟨b, off, spot⟩ := ad
      have hspot : spot = none := by
        have z := (hel 0 (by omega)).1
        simpa [Addr.add] using World.cell?_spot z
      subst hspot
      rw [addr_add] at h1
      exact ⟨L, ⟨b, off, ra, rc, rfl, World.block_lt_of_cell? W _ h1, h1, hL⟩, hb2⟩
    obtain ⟨LL, h1, h2⟩ := list_of len _ each
    refine ⟨LL, ⟨h1, fun i L hL => ?_, hl, hm, by intro h; cases h⟩, hlen, fun i L hL => (h2 i L hL).2⟩
    obtain ⟨⟨b, off, ra, rc, e, g1, g2, g3⟩, _⟩ := h2 i L hL
    exact ⟨b, off, ra, rc, by rw [e], g1, g2, g3⟩

end Go.Proofs.Ytiggpbjgnododaa.T
