/- What the law takes, read as data: a pattern, nodes with their spans, strings. -/
import Derived.Test.YtmeinebfdljndaaCas
import Derived.Test.YtmeinebfdljndaaRows
import Derived.ProofKit
import Derived.OpenShut
import Derived.ChangeOld
import Derived.SizedLaws
import Derived.Deep.Slices
namespace Go.Proofs.Ytmeinebfdljndaa
open Go.RowKit Go.Deep
set_option linter.unusedVariables false
set_option maxRecDepth 100000

theorem cells36 : Try.prog.cellsOf 36 = 3 := by kernel_rfl
theorem cells3 : Try.prog.cellsOf 3 = 1 := by kernel_rfl
theorem cells4 : Try.prog.cellsOf 4 = 1 := by kernel_rfl
theorem cells9 : Try.prog.cellsOf 9 = 1 := by kernel_rfl
theorem cells22 : Try.prog.cellsOf 22 = 1 := by kernel_rfl
theorem cells24 : Try.prog.cellsOf 24 = 3 := by kernel_rfl
theorem cells32 : Try.prog.cellsOf 32 = 1 := by kernel_rfl
theorem cells33 : Try.prog.cellsOf 33 = 1 := by kernel_rfl
theorem cells38 : Try.prog.cellsOf 38 = 4 := by kernel_rfl
theorem bytes38 : Try.prog.bytesOf 38 = 32 := by kernel_rfl
theorem bytes24 : Try.prog.bytesOf 24 = 48 := by kernel_rfl
theorem bytes9 : Try.prog.bytesOf 9 = 16 := by kernel_rfl

theorem wf_i64 {n : Int} (h : (Lit.int .i64 n).wf = true) : -9223372036854775808 ≤ n ∧ n < 9223372036854775808 := by
  simp [Lit.wf, IntKind.min, IntKind.max, IntKind.signed, IntKind.bits] at h
  omega

set_option maxRecDepth 100000 in
theorem sp_of {H : Type} {enc : TypeId × Value → H} {W : World} {held : Bool} {fuel : Nat} {cs : List Value} {x : DataW H × List MemPlace} (h : DataW.trod enc Try.prog W 0 (fun _ => true) held fuel 36 cs = some x) : ∃ s : Sp, cs = (sv s).toList ∧ Lvl s := by
  obtain ⟨xs, n', hf, rfl, hl, g4, g5⟩ := DataW.trod_struct Try.underlying36 h
  have x3 : xs.length = 3 := g4
  rw [cells36] at hl
  have hw3 : cs.length = 3 := hl
  have f0 : DataW.trod enc Try.prog W 0 (fun _ => true) held n' 32 ((cs.drop 0).take (Try.prog.cellsOf 32)) = xs[0]? := g5 0 _ rfl
  have f1 : DataW.trod enc Try.prog W 0 (fun _ => true) held n' 32 ((cs.drop 1).take (Try.prog.cellsOf 32)) = xs[1]? := g5 1 _ rfl
  have f2 : DataW.trod enc Try.prog W 0 (fun _ => true) held n' 3 ((cs.drop 2).take (Try.prog.cellsOf 3)) = xs[2]? := g5 2 _ rfl
  rw [List.getElem?_eq_getElem (by omega)] at f0 f1 f2
  rw [cells32] at f0 f1
  rw [cells3] at f2
  obtain ⟨c0, c1, c2, rfl⟩ : ∃ c0 c1 c2, cs = [c0, c1, c2] := by
    match cs, hw3 with
    | [c0, c1, c2], _ => exact ⟨c0, c1, c2, rfl⟩
  simp at f0 f1 f2
  obtain ⟨k0, q0, _⟩ := DataW.trod_int Try.underlying32 f0
  obtain ⟨k1, q1, _⟩ := DataW.trod_int Try.underlying32 f1
  obtain ⟨k2, q2, _, hwf⟩ := DataW.trod_int Try.underlying3 f2
  simp at q0 q1 q2
  subst q0 q1 q2
  exact ⟨⟨k0, k1, k2⟩, rfl, wf_i64 hwf⟩

set_option maxRecDepth 100000 in
theorem pl_of {H : Type} {enc : TypeId × Value → H} {W : World} {held : Bool} {fuel : Nat} {cs : List Value} {x : DataW H × List MemPlace} (h : DataW.trod enc Try.prog W 0 (fun _ => true) held fuel 38 cs = some x) : ∃ p : Pl, cs = [.int .u64 p.n, .int .u64 p.s.b, .int .u64 p.s.e, .int .i64 p.s.l] ∧ Lvl p.s := by
  obtain ⟨xs, n', hf, rfl, hl, g4, g5⟩ := DataW.trod_struct Try.underlying38 h
  have x3 : xs.length = 2 := g4
  rw [cells38] at hl
  have hw4 : cs.length = 4 := hl
  have f0 : DataW.trod enc Try.prog W 0 (fun _ => true) held n' 33 ((cs.drop 0).take (Try.prog.cellsOf 33)) = xs[0]? := g5 0 _ rfl
  have f1 : DataW.trod enc Try.prog W 0 (fun _ => true) held n' 36 ((cs.drop 1).take (Try.prog.cellsOf 36)) = xs[1]? := g5 1 _ rfl
  rw [List.getElem?_eq_getElem (by omega)] at f0 f1
  rw [cells33] at f0
  rw [cells36] at f1
  obtain ⟨c0, c1, c2, c3, rfl⟩ : ∃ c0 c1 c2 c3, cs = [c0, c1, c2, c3] := by
    match cs, hw4 with
    | [c0, c1, c2, c3], _ => exact ⟨c0, c1, c2, c3, rfl⟩
  simp at f0 f1
  obtain ⟨k0, q0, _⟩ := DataW.trod_int Try.underlying33 f0
  obtain ⟨s, q1, hs⟩ := sp_of f1
  simp [sv] at q0 q1
  obtain ⟨r1, r2, r3⟩ := q1
  subst q0 r1 r2 r3
  exact ⟨⟨k0, s⟩, rfl, hs⟩

theorem addr_plus (b o j : Nat) : (⟨b, o, none⟩ : Addr).add j = ⟨b, o + j, none⟩ := by unfold Addr.add; split <;> simp_all
/-- No part of it takes more than a machine's memory. -/
def Wt {H : Type} (t : TypeId) (d : DataW H) : Prop := ∀ y ∈ d.weights Try.prog t, y ≤ reachBytes

theorem wt_slice {H : Type} {t e : TypeId} {es sp : List (DataW H)} (hu : Try.prog.underlying t = some (.slice e)) (h : Wt t (.slice es sp)) : (es.length + sp.length) * Try.prog.bytesOf e ≤ reachBytes ∧ ∀ d ∈ es, Wt e d := by
  unfold Wt at h
  simp only [DataW.weights, hu] at h
  refine ⟨h _ (by simp), fun d hd y hy => h y ?_⟩
  refine List.mem_cons_of_mem _ (List.mem_append_left _ ?_)
  clear h
  induction es with
  | nil => simp at hd
  | cons a r ih =>
    simp only [DataW.weightsAll, List.mem_append]
    rcases List.mem_cons.1 hd with rfl | hd
    · exact .inl hy
    · exact .inr (ih hd)

theorem wt_each {H : Type} : ∀ {ts : List TypeId} {ds : List (DataW H)}, (∀ y ∈ DataW.weightsEach Try.prog ts ds, y ≤ reachBytes) → ∀ {j : Nat} {t : TypeId} {d : DataW H}, ts[j]? = some t → ds[j]? = some d → Wt t d
  | [], ds, h, j, t, d, ht, hd => by simp at ht
  | t0 :: ts, [], h, j, t, d, ht, hd => by simp at hd
  | t0 :: ts, d0 :: ds, h, j, t, d, ht, hd => by
    simp only [DataW.weightsEach, List.mem_append] at h
    cases j with
    | zero =>
      simp at ht hd
      subst ht hd
      exact fun y hy => h y (.inl hy)
    | succ j => exact wt_each (fun y hy => h y (.inr hy)) (j := j) (by simpa using ht) (by simpa using hd)

/-- What is there at each place, as a list. -/
theorem list_of {α : Type} : ∀ (len : Nat) (p : Nat → α → Prop), (∀ i, i < len → ∃ k, p i k) → ∃ L : List α, L.length = len ∧ ∀ i k, L[i]? = some k → p i k
  | 0, p, h => ⟨[], rfl, fun i k hk => by simp at hk⟩
  | len + 1, p, h => by
    obtain ⟨L, hl, hL⟩ := list_of len p (fun i hi => h i (by omega))
    obtain ⟨x, hx⟩ := h len (by omega)
    refine ⟨L ++ [x], by simp [hl], fun i k hk => ?_⟩
    rcases Nat.lt_or_ge i len with hi | hi
    · rw [List.getElem?_append_left (by omega)] at hk
      exact hL i k hk
    · have : i = len := by
        have := (List.getElem?_eq_some_iff.1 hk).1
        simp at this
        omega
      subst this
      rw [List.getElem?_append_right (by omega), hl] at hk
      simp at hk
      subst hk
      exact hx

theorem spot_of {W : World} {a : Addr} {v : Value} (h : W.cell? a = some v) : a = ⟨a.block, a.off, none⟩ := by
  have := World.cell?_spot h
  cases a
  simp_all

/-- A slice of structs, read: each element's cells. -/
theorem slice_cells {H : Type} {enc : TypeId × Value → H} {W : World} {held : Bool} {fuel : Nat} {t e : TypeId} {sz : Nat} {a : Option Addr} {len cap : Nat} {x : DataW H × List MemPlace} (hu : Try.prog.underlying t = some (.slice e)) (hc : Try.prog.cellsOf e = sz) (hsz : 0 < sz)
    (h : DataW.trod enc Try.prog W 0 (fun _ => true) held fuel t [.slice a len cap] = some x) (hw : Wt t x.1) : len ≤ cap ∧ len * Try.prog.bytesOf e ≤ reachBytes ∧ ∃ n, n + 1 ≤ fuel ∧ ∀ i, i < len → ∃ (b o : Nat) (cs : List Value) (y : DataW H × List MemPlace), a = some ⟨b, o, none⟩ ∧ b < W.heap.size ∧ cs.length = sz ∧ (∀ j, j < sz → W.cell? ⟨b, o + i * sz + j, none⟩ = cs[j]?) ∧ DataW.trod enc Try.prog W 0 (fun _ => true) held n e cs = some y ∧ Wt e y.1 := by
  rcases DataW.trod_slice hu h with ⟨hcs, hx⟩ | ⟨ad, l, c, elems, rest, n, hf, hcs, hx, hb, hl, hm, hlen, hel, hsp, _⟩
  · simp at hcs
    obtain ⟨rfl, rfl, rfl⟩ := hcs
    refine ⟨Nat.le_refl _, by simp, 0, ?_, fun i hi => by omega⟩
    cases fuel with
    | zero => simp [DataW.trod] at h
    | succ n => omega
  · simp at hcs
    obtain ⟨rfl, rfl, rfl⟩ := hcs
    subst hx
    obtain ⟨w1, w2⟩ := wt_slice hu hw
    simp only [List.length_map] at w1
    refine ⟨hl, Nat.le_trans (Nat.mul_le_mul_right _ (by omega)) w1, n, by omega, fun i hi => ?_⟩
    have h1 := hel i hi
    rw [List.getElem?_eq_getElem (by omega), hc] at h1
    obtain ⟨cs, h2, h3⟩ := Option.bind_eq_some_iff.1 h1
    obtain ⟨_, h4, h5⟩ := World.cells?_some h2
    have h6 := h5 0 hsz
    rw [List.getElem?_eq_getElem (by omega)] at h6
    have hspot : ad.spot = none := by
      have g1 := hel 0 (by omega)
      rw [List.getElem?_eq_getElem (by omega), hc] at g1
      obtain ⟨cs0, g2, _⟩ := Option.bind_eq_some_iff.1 g1
      obtain ⟨_, g4, g5⟩ := World.cells?_some g2
      have g6 := g5 0 hsz
      rw [List.getElem?_eq_getElem (by omega)] at g6
      simpa [Addr.add] using World.cell?_spot g6
    obtain ⟨b, o, spot⟩ := ad
    simp only at hspot
    subst hspot
    refine ⟨b, o, cs, elems[i], rfl, ?_, h4, fun j hj => ?_, h3, w2 _ (List.mem_map_of_mem (List.getElem_mem _))⟩
    · rw [addr_plus, addr_plus] at h6
      exact World.block_lt_of_cell? W _ h6
    · have := h5 j hj
      rw [addr_plus, addr_plus] at this
      exact this


set_option maxRecDepth 100000 in
/-- A slice of nodes with their spans, read. -/
theorem pls_of {H : Type} {enc : TypeId × Value → H} {W : World} {held : Bool} {fuel : Nat} {a : Option Addr} {len cap : Nat} {x : DataW H × List MemPlace} (h : DataW.trod enc Try.prog W 0 (fun _ => true) held fuel 25 [.slice a len cap] = some x) (hw : Wt 25 x.1) :
    ∃ L : List Pl, L.length = len ∧ len * 32 ≤ reachBytes ∧ len ≤ cap ∧ PlsAt W W.heap.size a L ∧ ∀ p ∈ L, Lvl p.s := by
  obtain ⟨k1, k2, n, hn, hk⟩ := slice_cells Try.underlying25 cells38 (by decide) h hw
  rw [bytes38] at k2
  obtain ⟨L, rfl, hL⟩ := list_of len (fun i (s : Pl) => Lvl s.s ∧ ∃ b o, a = some ⟨b, o, none⟩ ∧ b < W.heap.size ∧ W.cell? ⟨b, o + i * 4, none⟩ = some (.int .u64 s.n) ∧ W.cell? ⟨b, o + i * 4 + 1, none⟩ = some (.int .u64 s.s.b) ∧ W.cell? ⟨b, o + i * 4 + 2, none⟩ = some (.int .u64 s.s.e) ∧ W.cell? ⟨b, o + i * 4 + 3, none⟩ = some (.int .i64 s.s.l)) (fun i hi => by
    obtain ⟨b, o, cs, y, e1, e2, e3, e4, e5, e6⟩ := hk i hi
    obtain ⟨s, rfl, hs⟩ := pl_of e5
    exact ⟨s, hs, b, o, e1, e2, e4 0 (by omega), e4 1 (by omega), e4 2 (by omega), e4 3 (by omega)⟩)
  refine ⟨L, rfl, k2, k1, fun i y hy => (hL i y hy).2, fun s hs => ?_⟩
  obtain ⟨i, hi⟩ := List.getElem?_of_mem hs
  exact (hL i s hi).1
/-- A slice of strings, read. -/
theorem strs_of {H : Type} {enc : TypeId × Value → H} {W : World} {held : Bool} {fuel : Nat} {a : Option Addr} {len cap : Nat} {x : DataW H × List MemPlace} (h : DataW.trod enc Try.prog W 0 (fun _ => true) held fuel 26 [.slice a len cap] = some x) (hw : Wt 26 x.1) :
    ∃ L : List ByteArray, L.length = len ∧ len * 16 ≤ reachBytes ∧ StA W a L := by
  obtain ⟨k1, k2, n, hn, hk⟩ := slice_cells Try.underlying26 cells9 (by decide) h hw
  rw [bytes9] at k2
  obtain ⟨L, rfl, hL⟩ := list_of len (fun i (s : ByteArray) => ∃ b o, a = some ⟨b, o, none⟩ ∧ b < W.heap.size ∧ W.cell? ⟨b, o + i, none⟩ = some (.string s)) (fun i hi => by
    obtain ⟨b, o, cs, y, e1, e2, e3, e4, e5, e6⟩ := hk i hi
    obtain ⟨c0, rfl⟩ : ∃ c0, cs = [c0] := by
      match cs, e3 with
      | [c0], _ => exact ⟨c0, rfl⟩
    obtain ⟨s, q, _⟩ := DataW.trod_string Try.underlying9 e5
    simp at q
    subst q
    have := e4 0 (by omega)
    exact ⟨s, b, o, e1, e2, by simpa using this⟩)
  exact ⟨L, rfl, k2, hL⟩
theorem reach_t {n : Nat} (h : n * 48 ≤ reachBytes) : n ≤ maxT := by unfold reachBytes at h; unfold maxT; omega
/-- A pattern, read. -/
theorem pat_of {H : Type} {enc : TypeId × Value → H} {W : World} {held : Bool} : ∀ (N fuel : Nat) (cs : List Value) (x : DataW H × List MemPlace), fuel ≤ N → DataW.trod enc Try.prog W 0 (fun _ => true) held fuel 24 cs = some x → Wt 24 x.1 → ∃ t : TP N, TwAt W W.heap.size N cs.toArray t
  | 0, fuel, cs, x, hN, h, hw => by
    have : fuel = 0 := by omega
    subst this
    simp [DataW.trod] at h
  | N + 1, fuel, cs, x, hN, h, hw => by
    obtain ⟨xs, n', hf, rfl, hl, g4, g5⟩ := DataW.trod_struct Try.underlying24 h
    have x5 : xs.length = 3 := g4
    rw [cells24] at hl
    have f0 : DataW.trod enc Try.prog W 0 (fun _ => true) held n' 9 ((cs.drop 0).take (Try.prog.cellsOf 9)) = xs[0]? := g5 0 _ rfl
    have f1 : DataW.trod enc Try.prog W 0 (fun _ => true) held n' 4 ((cs.drop 1).take (Try.prog.cellsOf 4)) = xs[1]? := g5 1 _ rfl
    have f2 : DataW.trod enc Try.prog W 0 (fun _ => true) held n' 22 ((cs.drop 2).take (Try.prog.cellsOf 22)) = xs[2]? := g5 2 _ rfl
    have hww : ∀ y ∈ DataW.weightsEach Try.prog [9, 4, 22] (xs.map (·.1)), y ≤ reachBytes := by
      intro y hy
      refine hw y ?_
      simp only [DataW.weights, Try.underlying24]
      exact hy
    have w2 : Wt 22 (xs[2]'(by omega)).1 := wt_each hww (j := 2) rfl (by rw [List.getElem?_map, List.getElem?_eq_getElem (by omega)]; rfl)
    rw [List.getElem?_eq_getElem (by omega)] at f0 f1 f2
    rw [cells9] at f0
    rw [cells4] at f1
    rw [cells22] at f2
    obtain ⟨c0, c1, c2, rfl⟩ : ∃ c0 c1 c2, cs = [c0, c1, c2] := by
      match cs, hl with
      | [c0, c1, c2], _ => exact ⟨c0, c1, c2, rfl⟩
    simp at f0 f1 f2
    obtain ⟨nm, q0, _⟩ := DataW.trod_string Try.underlying9 f0
    obtain ⟨dr, q1, _⟩ := DataW.trod_bool Try.underlying4 f1
    simp at q0 q1
    subst q0 q1
    obtain ⟨ka, kl, kc, rfl⟩ : ∃ a al ac, c2 = .slice a al ac := by
      rcases DataW.trod_slice Try.underlying22 f2 with ⟨e, _⟩ | ⟨ad, l, c, _, _, _, _, e, _⟩
      · simp at e; exact ⟨_, _, _, e⟩
      · simp at e; exact ⟨_, _, _, e⟩
    obtain ⟨ka1, ka2, n, hn, hkid⟩ := slice_cells Try.underlying22 cells24 (by decide) f2 w2
    rw [bytes24] at ka2
    obtain ⟨L, rfl, hL⟩ := list_of kl (fun i (q : TP N) => ∃ (b o : Nat) (u : Array Value), ka = some ⟨b, o, none⟩ ∧ b < W.heap.size ∧ u.size = 3 ∧ (∀ j, j < 3 → W.cell? ⟨b, o + i * 3 + j, none⟩ = u[j]?) ∧ TwAt W W.heap.size N u q) (fun i hi => by
      obtain ⟨b, o, cs, y, e1, e2, e3, e4, e5, e6⟩ := hkid i hi
      obtain ⟨q, hq⟩ := pat_of N n cs y (by omega) e5 e6
      exact ⟨q, b, o, cs.toArray, e1, e2, by simpa using e3, fun j hj => by rw [e4 j hj]; simp, hq⟩)
    exact ⟨(⟨nm, dr, L⟩ : Pn (TP N)), ka, kc, rfl, reach_t ka2, ka1, hL⟩

end Go.Proofs.Ytmeinebfdljndaa
