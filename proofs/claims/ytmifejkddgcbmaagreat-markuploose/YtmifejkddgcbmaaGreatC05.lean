/- A tree that is read as data lies in memory as a tree. -/
import Derived.Test.YtmifejkddgcbmaaGreatC04
import Derived.Test.YtmifejkddgcbmaaGreatRows
import Derived.WalkKit
import Derived.ProofKit
import Derived.OpenShut
import Derived.ChangeOld
import Derived.SizedLaws
import Derived.Deep.Slices
namespace Go.Proofs.YtmifejkddgcbmaaGreat
open Go.RowKit Go.Deep
set_option linter.unusedVariables false
set_option linter.unusedSimpArgs false

theorem cells40 : Tryz.prog.cellsOf 40 = 5 := by kernel_rfl
theorem cells55 : Tryz.prog.cellsOf 55 = 2 := by kernel_rfl
theorem cells3 : Tryz.prog.cellsOf 3 = 1 := by kernel_rfl
theorem cells9 : Tryz.prog.cellsOf 9 = 1 := by kernel_rfl
theorem cells38 : Tryz.prog.cellsOf 38 = 1 := by kernel_rfl
theorem cells22 : Tryz.prog.cellsOf 22 = 1 := by kernel_rfl
theorem bytes40 : Tryz.prog.bytesOf 40 = 88 := by kernel_rfl
theorem bytes55 : Tryz.prog.bytesOf 55 = 32 := by kernel_rfl

/-- No part of it takes more than a machine's memory. -/
def Wt {H : Type} (t : TypeId) (d : DataW H) : Prop := ∀ y ∈ d.weights Tryz.prog t, y ≤ reachBytes

theorem wt_slice {H : Type} {t e : TypeId} {es sp : List (DataW H)} (hu : Tryz.prog.underlying t = some (.slice e)) (h : Wt t (.slice es sp)) : (es.length + sp.length) * Tryz.prog.bytesOf e ≤ reachBytes ∧ ∀ d ∈ es, Wt e d := by
  unfold Wt at h
  simp only [DataW.weights, hu] at h
  refine ⟨h _ (by simp), fun d hd y hy => h y ?_⟩
  refine List.mem_cons_of_mem _ (List.mem_append_left _ ?_)
  clear h
  induction es with
  | nil => simp at hd
  | cons a r ih =>
    simp only [DataW.weightsAll, List.mem_append]
    rcases List.mem_cons.1 hd with rfl | hd
    · exact .inl hy
    · exact .inr (ih hd)

theorem wt_each {H : Type} : ∀ {ts : List TypeId} {ds : List (DataW H)}, (∀ y ∈ DataW.weightsEach Tryz.prog ts ds, y ≤ reachBytes) → ∀ {j : Nat} {t : TypeId} {d : DataW H}, ts[j]? = some t → ds[j]? = some d → Wt t d
  | [], ds, h, j, t, d, ht, hd => by simp at ht
  | t0 :: ts, [], h, j, t, d, ht, hd => by simp at hd
  | t0 :: ts, d0 :: ds, h, j, t, d, ht, hd => by
    simp only [DataW.weightsEach, List.mem_append] at h
    cases j with
    | zero =>
      simp at ht hd
      subst ht hd
      exact fun y hy => h y (.inl hy)
    | succ j => exact wt_each (fun y hy => h y (.inr hy)) (j := j) (by simpa using ht) (by simpa using hd)

/-- What is there at each place, as a list. -/
theorem list_of {α : Type} : ∀ (len : Nat) (p : Nat → α → Prop), (∀ i, i < len → ∃ k, p i k) → ∃ L : List α, L.length = len ∧ ∀ i k, L[i]? = some k → p i k
  | 0, p, h => ⟨[], rfl, fun i k hk => by simp at hk⟩
  | len + 1, p, h => by
    obtain ⟨L, hl, hL⟩ := list_of len p (fun i hi => h i (by omega))
    obtain ⟨x, hx⟩ := h len (by omega)
    refine ⟨L ++ [x], by simp [hl], fun i k hk => ?_⟩
    rcases Nat.lt_or_ge i len with hi | hi
    · rw [List.getElem?_append_left (by omega)] at hk
      exact hL i k hk
    · have : i = len := by
        have := (List.getElem?_eq_some_iff.1 hk).1
        simp at this
        omega
      subst this
      rw [List.getElem?_append_right (by omega), hl] at hk
      simp at hk
      subst hk
      exact hx

theorem spot_of {W : World} {a : Addr} {v : Value} (h : W.cell? a = some v) : a = ⟨a.block, a.off, none⟩ := by
  have := World.cell?_spot h
  cases a
  simp_all

set_option maxRecDepth 100000 in
/-- A slice of structs, read: each element's cells. -/
theorem slice_cells {H : Type} {enc : TypeId × Value → H} {W : World} {held : Bool} {fuel : Nat} {t e : TypeId} {sz : Nat} {a : Option Addr} {len cap : Nat} {x : DataW H × List MemPlace} (hu : Tryz.prog.underlying t = some (.slice e)) (hc : Tryz.prog.cellsOf e = sz) (hsz : 0 < sz)
    (h : DataW.trod enc Tryz.prog W 0 (fun _ => true) held fuel t [.slice a len cap] = some x) (hw : Wt t x.1) : len ≤ cap ∧ len * Tryz.prog.bytesOf e ≤ reachBytes ∧ ∃ n, n + 1 ≤ fuel ∧ ∀ i, i < len → ∃ (b o : Nat) (cs : List Value) (y : DataW H × List MemPlace), a = some ⟨b, o, none⟩ ∧ b < W.heap.size ∧ cs.length = sz ∧ (∀ j, j < sz → W.cell? ⟨b, o + i * sz + j, none⟩ = cs[j]?) ∧ DataW.trod enc Tryz.prog W 0 (fun _ => true) held n e cs = some y ∧ Wt e y.1 := by
  rcases DataW.trod_slice hu h with ⟨hcs, hx⟩ | ⟨ad, l, c, elems, rest, n, hf, hcs, hx, hb, hl, hm, hlen, hel, hsp, _⟩
  · simp at hcs
    obtain ⟨rfl, rfl, rfl⟩ := hcs
    refine ⟨Nat.le_refl _, by simp, 0, ?_, fun i hi => by omega⟩
    cases fuel with
    | zero => simp [DataW.trod] at h
    | succ n => omega
  · simp at hcs
    obtain ⟨rfl, rfl, rfl⟩ := hcs
    subst hx
    obtain ⟨w1, w2⟩ := wt_slice hu hw
    simp only [List.length_map] at w1
    refine ⟨hl, Nat.le_trans (Nat.mul_le_mul_right _ (by omega)) w1, n, by omega, fun i hi => ?_⟩
    have h1 := hel i hi
    rw [List.getElem?_eq_getElem (by omega), hc] at h1
    obtain ⟨cs, h2, h3⟩ := Option.bind_eq_some_iff.1 h1
    obtain ⟨_, h4, h5⟩ := World.cells?_some h2
    have h6 := h5 0 hsz
    rw [List.getElem?_eq_getElem (by omega)] at h6
    have hspot : ad.spot = none := by
      have g1 := hel 0 (by omega)
      rw [List.getElem?_eq_getElem (by omega), hc] at g1
      obtain ⟨cs0, g2, _⟩ := Option.bind_eq_some_iff.1 g1
      obtain ⟨_, g4, g5⟩ := World.cells?_some g2
      have g6 := g5 0 hsz
      rw [List.getElem?_eq_getElem (by omega)] at g6
      simpa [Addr.add] using World.cell?_spot g6
    obtain ⟨b, o, spot⟩ := ad
    simp only at hspot
    subst hspot
    refine ⟨b, o, cs, elems[i], rfl, ?_, h4, fun j hj => ?_, h3, w2 _ (List.mem_map_of_mem (List.getElem_mem _))⟩
    · rw [addr_plus, addr_plus] at h6
      exact World.block_lt_of_cell? W _ h6
    · have := h5 j hj
      rw [addr_plus, addr_plus] at this
      exact this

theorem reach_a {n : Nat} (h : n * 32 ≤ reachBytes) : n ≤ maxA := by unfold reachBytes at h; unfold maxA; omega
theorem reach_k {n : Nat} (h : n * 88 ≤ reachBytes) : n ≤ maxK := by unfold reachBytes at h; unfold maxK; omega

set_option maxRecDepth 100000 in
/-- Attributes, read. -/
theorem attrs_of {H : Type} {enc : TypeId × Value → H} {W : World} {held : Bool} {fuel : Nat} {a : Option Addr} {len cap : Nat} {x : DataW H × List MemPlace} (h : DataW.trod enc Tryz.prog W 0 (fun _ => true) held fuel 38 [.slice a len cap] = some x) (hw : Wt 38 x.1) :
    ∃ l : List (ByteArray × ByteArray), l.length = len ∧ len ≤ cap ∧ len ≤ maxA ∧ AttrsAt W 0 W.heap.size a l := by
  obtain ⟨h1, h2, n, _, h3⟩ := slice_cells Tryz.underlying38 cells55 (by decide) h hw
  rw [bytes55] at h2
  obtain ⟨l, hl, hL⟩ := list_of len (fun i (p : ByteArray × ByteArray) => ∃ (b o : Nat), a = some ⟨b, o, none⟩ ∧ b < W.heap.size ∧ W.cell? ⟨b, o + i * 2, none⟩ = some (.string p.1) ∧ W.cell? ⟨b, o + i * 2 + 1, none⟩ = some (.string p.2)) (fun i hi => by
    obtain ⟨b, o, cs, y, e1, e2, e3, e4, e5, _⟩ := h3 i hi
    obtain ⟨xs, n', _, _, _, g4, g5⟩ := DataW.trod_struct Tryz.underlying55 e5
    have x2 : xs.length = 2 := g4
    have f0 : DataW.trod enc Tryz.prog W 0 (fun _ => true) held n' 9 ((cs.drop 0).take (Tryz.prog.cellsOf 9)) = xs[0]? := g5 0 _ rfl
    have f1 : DataW.trod enc Tryz.prog W 0 (fun _ => true) held n' 9 ((cs.drop 1).take (Tryz.prog.cellsOf 9)) = xs[1]? := g5 1 _ rfl
    rw [cells9, List.getElem?_eq_getElem (by omega)] at f0 f1
    obtain ⟨s0, q0, _⟩ := DataW.trod_string Tryz.underlying9 f0
    obtain ⟨s1, q1, _⟩ := DataW.trod_string Tryz.underlying9 f1
    obtain ⟨c0, c1, rfl⟩ : ∃ c0 c1, cs = [c0, c1] := by
      match cs, e3 with
      | [c0, c1], _ => exact ⟨c0, c1, rfl⟩
    simp at q0 q1
    subst q0 q1
    exact ⟨(s0, s1), b, o, e1, e2, e4 0 (by omega), e4 1 (by omega)⟩)
  refine ⟨l, hl, h1, reach_a h2, fun i p hp => ?_⟩
  obtain ⟨b, o, e1, e2, e3, e4⟩ := hL i p hp
  exact ⟨b, o, e1, Nat.zero_le _, e2, e3, e4⟩

set_option maxRecDepth 100000 in
/-- A tree, read. -/
theorem tree_of {H : Type} {enc : TypeId × Value → H} {W : World} {held : Bool} : ∀ (N fuel : Nat) (cs : List Value) (x : DataW H × List MemPlace), fuel ≤ N → DataW.trod enc Tryz.prog W 0 (fun _ => true) held fuel 40 cs = some x → Wt 40 x.1 → ∃ t : T N, TreeAt W 0 W.heap.size N cs.toArray t
  | 0, fuel, cs, x, hN, h, hw => by
    have : fuel = 0 := by omega
    subst this
    simp [DataW.trod] at h
  | N + 1, fuel, cs, x, hN, h, hw => by
    obtain ⟨xs, n', hf, rfl, hl, g4, g5⟩ := DataW.trod_struct Tryz.underlying40 h
    have x5 : xs.length = 5 := g4
    rw [cells40] at hl
    have f0 : DataW.trod enc Tryz.prog W 0 (fun _ => true) held n' 3 ((cs.drop 0).take (Tryz.prog.cellsOf 3)) = xs[0]? := g5 0 _ rfl
    have f1 : DataW.trod enc Tryz.prog W 0 (fun _ => true) held n' 9 ((cs.drop 1).take (Tryz.prog.cellsOf 9)) = xs[1]? := g5 1 _ rfl
    have f2 : DataW.trod enc Tryz.prog W 0 (fun _ => true) held n' 38 ((cs.drop 2).take (Tryz.prog.cellsOf 38)) = xs[2]? := g5 2 _ rfl
    have f3 : DataW.trod enc Tryz.prog W 0 (fun _ => true) held n' 9 ((cs.drop 3).take (Tryz.prog.cellsOf 9)) = xs[3]? := g5 3 _ rfl
    have f4 : DataW.trod enc Tryz.prog W 0 (fun _ => true) held n' 22 ((cs.drop 4).take (Tryz.prog.cellsOf 22)) = xs[4]? := g5 4 _ rfl
    have hww : ∀ y ∈ DataW.weightsEach Tryz.prog [3, 9, 38, 9, 22] (xs.map (·.1)), y ≤ reachBytes := by
      intro y hy
      refine hw y ?_
      simp only [DataW.weights, Tryz.underlying40]
      exact hy
    have w2 : Wt 38 (xs[2]'(by omega)).1 := wt_each hww (j := 2) rfl (by rw [List.getElem?_map, List.getElem?_eq_getElem (by omega)]; rfl)
    have w4 : Wt 22 (xs[4]'(by omega)).1 := wt_each hww (j := 4) rfl (by rw [List.getElem?_map, List.getElem?_eq_getElem (by omega)]; rfl)
    rw [List.getElem?_eq_getElem (by omega)] at f0 f1 f2 f3 f4
    rw [cells3] at f0
    rw [cells9] at f1 f3
    rw [cells38] at f2
    rw [cells22] at f4
    obtain ⟨c0, c1, c2, c3, c4, rfl⟩ : ∃ c0 c1 c2 c3 c4, cs = [c0, c1, c2, c3, c4] := by
      match cs, hl with
      | [c0, c1, c2, c3, c4], _ => exact ⟨c0, c1, c2, c3, c4, rfl⟩
    simp at f0 f1 f2 f3 f4
    obtain ⟨k, q0, _⟩ := DataW.trod_int Tryz.underlying3 f0
    obtain ⟨nm, q1, _⟩ := DataW.trod_string Tryz.underlying9 f1
    obtain ⟨tx, q3, _⟩ := DataW.trod_string Tryz.underlying9 f3
    simp at q0 q1 q3
    subst q0 q1 q3
    obtain ⟨a, al, ac, rfl⟩ : ∃ a al ac, c2 = .slice a al ac := by
      rcases DataW.trod_slice Tryz.underlying38 f2 with ⟨e, _⟩ | ⟨ad, l, c, _, _, _, _, e, _⟩
      · simp at e; exact ⟨_, _, _, e⟩
      · simp at e; exact ⟨_, _, _, e⟩
    obtain ⟨ka, kl, kc, rfl⟩ : ∃ a al ac, c4 = .slice a al ac := by
      rcases DataW.trod_slice Tryz.underlying22 f4 with ⟨e, _⟩ | ⟨ad, l, c, _, _, _, _, e, _⟩
      · simp at e; exact ⟨_, _, _, e⟩
      · simp at e; exact ⟨_, _, _, e⟩
    obtain ⟨l, rfl, la, lb, hat⟩ := attrs_of f2 w2
    obtain ⟨ka1, ka2, n, hn, hkid⟩ := slice_cells Tryz.underlying22 cells40 (by decide) f4 w4
    rw [bytes40] at ka2
    obtain ⟨L, rfl, hL⟩ := list_of kl (fun i (q : T N) => ∃ (b o : Nat) (u : Array Value), ka = some ⟨b, o, none⟩ ∧ 0 ≤ b ∧ b < W.heap.size ∧ u.size = 5 ∧ (∀ j, j < 5 → W.cell? ⟨b, o + i * 5 + j, none⟩ = u[j]?) ∧ TreeAt W 0 W.heap.size N u q) (fun i hi => by
      obtain ⟨b, o, cs, y, e1, e2, e3, e4, e5, e6⟩ := hkid i hi
      obtain ⟨q, hq⟩ := tree_of N n cs y (by omega) e5 e6
      exact ⟨q, b, o, cs.toArray, e1, Nat.zero_le _, e2, by simpa using e3, fun j hj => by rw [e4 j hj]; simp, hq⟩)
    exact ⟨({ kind := k, name := nm, attrs := l, text := tx, kids := L } : Nd (T N)), a, ac, ka, kc, rfl, lb, reach_k ka2, la, ka1, hat, hL⟩

/-- A forest, read. -/
theorem forest_of {H : Type} {enc : TypeId × Value → H} {W : World} {held : Bool} {fuel : Nat} {ka : Option Addr} {kl kc : Nat} {x : DataW H × List MemPlace} (h : DataW.trod enc Tryz.prog W 0 (fun _ => true) held fuel 22 [.slice ka kl kc] = some x) (hw : Wt 22 x.1) :
    ∃ (n : Nat) (L : List (T n)), L.length = kl ∧ kl ≤ maxK ∧ Tc.KidsAt W 0 W.heap.size n ka L := by
  obtain ⟨ka1, ka2, n, hn, hkid⟩ := slice_cells Tryz.underlying22 cells40 (by decide) h hw
  rw [bytes40] at ka2
  obtain ⟨L, rfl, hL⟩ := list_of kl (fun i (q : T n) => ∃ (b o : Nat) (u : Array Value), ka = some ⟨b, o, none⟩ ∧ 0 ≤ b ∧ b < W.heap.size ∧ u.size = 5 ∧ (∀ j, j < 5 → W.cell? ⟨b, o + i * 5 + j, none⟩ = u[j]?) ∧ TreeAt W 0 W.heap.size n u q) (fun i hi => by
    obtain ⟨b, o, cs, y, e1, e2, e3, e4, e5, e6⟩ := hkid i hi
    obtain ⟨q, hq⟩ := tree_of n n cs y (Nat.le_refl _) e5 e6
    exact ⟨q, b, o, cs.toArray, e1, Nat.zero_le _, e2, by simpa using e3, fun j hj => by rw [e4 j hj]; simp, hq⟩)
  exact ⟨n, L, rfl, reach_k ka2, hL⟩

end Go.Proofs.YtmifejkddgcbmaaGreat
