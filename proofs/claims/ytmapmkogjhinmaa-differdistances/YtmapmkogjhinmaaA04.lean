/- A tree that is read as data lies in memory as a tree. -/
import Derived.Test.YtmapmkogjhinmaaA03
import Derived.Test.YtmapmkogjhinmaaRows
import Derived.WalkKit
import Derived.ProofKit
import Derived.OpenShut
import Derived.ChangeOld
import Derived.SizedLaws
import Derived.Deep.Slices
import Derived.Test.YtmapmkogjhinmaaA02
import Derived.Laws.Bits64b
namespace Go.Proofs.Ytmapmkogjhinmaa
open Go.RowKit Go.Deep
set_option linter.unusedVariables false
set_option linter.unusedSimpArgs false
set_option maxRecDepth 100000
theorem cells36 : Try.prog.cellsOf 36 = 5 := by kernel_rfl
theorem cells99 : Try.prog.cellsOf 99 = 2 := by kernel_rfl
theorem cells3r : Try.prog.cellsOf 3 = 1 := by kernel_rfl
theorem cells9 : Try.prog.cellsOf 9 = 1 := by kernel_rfl
theorem cells34 : Try.prog.cellsOf 34 = 1 := by kernel_rfl
theorem cells22 : Try.prog.cellsOf 22 = 1 := by kernel_rfl
theorem bytes36 : Try.prog.bytesOf 36 = 88 := by kernel_rfl
theorem bytes99 : Try.prog.bytesOf 99 = 32 := by kernel_rfl
def Wt {H : Type} (t : TypeId) (d : DataW H) : Prop := ∀ y ∈ d.weights Try.prog t, y <= reachBytes
theorem wt_slice {H : Type} {t e : TypeId} {es sp : List (DataW H)} (hu : Try.prog.underlying t = some (.slice e)) (h : Wt t (.slice es sp)) : (es.length + sp.length) * Try.prog.bytesOf e <= reachBytes /\ ∀ d ∈ es, Wt e d := by
 unfold Wt at h
 simp only [DataW.weights, hu] at h
 refine ⟨h _ (by simp), fun d hd y hy => h y ?_⟩
 refine List.mem_cons_of_mem _ (List.mem_append_left _ ?_)
 clear h
 induction es with
 | nil => simp at hd
 | cons a r ih =>
  simp only [DataW.weightsAll, List.mem_append]
  rcases List.mem_cons.1 hd with rfl | hd
  ·exact .inl hy
  ·exact .inr (ih hd)
theorem wt_each {H : Type} : ∀ {ts : List TypeId} {ds : List (DataW H)}, (∀ y ∈ DataW.weightsEach Try.prog ts ds, y <= reachBytes) -> ∀ {j : Nat} {t : TypeId} {d : DataW H}, ts[j]? = some t -> ds[j]? = some d -> Wt t d
 | [], ds, h, j, t, d, ht, hd => by simp at ht
 | t0 :: ts, [], h, j, t, d, ht, hd => by simp at hd
 | t0 :: ts, d0 :: ds, h, j, t, d, ht, hd => by
  simp only [DataW.weightsEach, List.mem_append] at h
  cases j with
  | zero =>
   simp at ht hd
   subst ht hd
   exact fun y hy => h y (.inl hy)
  | succ j => exact wt_each (fun y hy => h y (.inr hy)) (j := j) (by simpa using ht) (by simpa using hd)
theorem listOf9 {α : Type} : ∀ (len : Nat) (p : Nat -> α -> Prop), (∀ i, i < len -> ∃ k, p i k) -> ∃ L : List α, L.length = len /\ ∀ i k, L[i]? = some k -> p i k
 | 0, p, h => ⟨[], rfl, fun i k hk => by simp at hk⟩
 | len + 1, p, h => by
  obtain ⟨L, hl, hL⟩ := listOf9 len p (fun i hi => h i (by omega))
  obtain ⟨x, hx⟩ := h len (by omega)
  refine ⟨L ++ [x], by simp [hl], fun i k hk => ?_⟩
  rcases Nat.lt_or_ge i len with hi | hi
  ·rw [List.getElem?_append_left (by omega)] at hk
   exact hL i k hk
  ·have : i = len := by
    have := (List.getElem?_eq_some_iff.1 hk).1
    simp at this
    omega
   subst this
   rw [List.getElem?_append_right (by omega), hl] at hk
   simp at hk
   subst hk
   exact hx
theorem slice_cells {H : Type} {enc : TypeId × Value -> H} {W : World} {held : Bool} {fuel : Nat} {t e : TypeId} {sz : Nat} {a : Option Addr} {len cap : Nat} {x : DataW H × List MemPlace} (hu : Try.prog.underlying t = some (.slice e)) (hc : Try.prog.cellsOf e = sz) (hsz : 0 < sz)
  (h : DataW.trod enc Try.prog W 0 (fun _ => true) held fuel t [.slice a len cap] = some x) (hw : Wt t x.1) : len <= cap /\ len * Try.prog.bytesOf e <= reachBytes /\ ∃ n, n + 1 <= fuel /\ ∀ i, i < len -> ∃ (b o : Nat) (cs : List Value) (y : DataW H × List MemPlace), a = some ⟨b, o, none⟩ /\ b < W.heap.size /\ cs.length = sz /\ (∀ j, j < sz -> W.cell? ⟨b, o + i * sz + j, none⟩ = cs[j]?) /\ DataW.trod enc Try.prog W 0 (fun _ => true) held n e cs = some y /\ Wt e y.1 := by
 rcases DataW.trod_slice hu h with ⟨hcs, hx⟩ | ⟨ad, l, c, elems, rest, n, hf, hcs, hx, hb, hl, hm, hlen, hel, hsp, _⟩
 ·simp at hcs
  obtain ⟨rfl, rfl, rfl⟩ := hcs
  refine ⟨Nat.le_refl _, by simp, 0, ?_, fun i hi => by omega⟩
  cases fuel with
  | zero => simp [DataW.trod] at h
  | succ n => omega
 ·simp at hcs
  obtain ⟨rfl, rfl, rfl⟩ := hcs
  subst hx
  obtain ⟨w1, w2⟩ := wt_slice hu hw
  simp only [List.length_map] at w1
  refine ⟨hl, Nat.le_trans (Nat.mul_le_mul_right _ (by omega)) w1, n, by omega, fun i hi => ?_⟩
  have h1 := hel i hi
  rw [List.getElem?_eq_getElem (by omega), hc] at h1
  obtain ⟨cs, h2, h3⟩ := Option.bind_eq_some_iff.1 h1
  obtain ⟨_, h4, h5⟩ := World.cells?_some h2
  have h6 := h5 0 hsz
  rw [List.getElem?_eq_getElem (by omega)] at h6
  have hspot : ad.spot = none := by
   have g1 := hel 0 (by omega)
   rw [List.getElem?_eq_getElem (by omega), hc] at g1
   obtain ⟨cs0, g2, _⟩ := Option.bind_eq_some_iff.1 g1
   obtain ⟨_, g4, g5⟩ := World.cells?_some g2
   have g6 := g5 0 hsz
   rw [List.getElem?_eq_getElem (by omega)] at g6
   simpa [Addr.add] using World.cell?_spot g6
  obtain ⟨b, o, spot⟩ := ad
  simp only at hspot
  subst hspot
  refine ⟨b, o, cs, elems[i], rfl, ?_, h4, fun j hj => ?_, h3, w2 _ (List.mem_map_of_mem (List.getElem_mem _))⟩
  ·rw [addr_plus, addr_plus] at h6
   exact World.block_lt_of_cell? W _ h6
  ·have := h5 j hj
   rw [addr_plus, addr_plus] at this
   exact this
theorem reach_a {n : Nat} (h : n * 32 <= reachBytes) : n <= maxA := by unfold reachBytes at h; unfold maxA; omega
theorem reach_k {n : Nat} (h : n * 88 <= reachBytes) : n <= maxK := by unfold reachBytes at h; unfold maxK; omega
theorem attrs_of {H : Type} {enc : TypeId × Value -> H} {W : World} {held : Bool} {fuel : Nat} {a : Option Addr} {len cap : Nat} {x : DataW H × List MemPlace} (h : DataW.trod enc Try.prog W 0 (fun _ => true) held fuel 34 [.slice a len cap] = some x) (hw : Wt 34 x.1) :
  ∃ l : List (ByteArray × ByteArray), l.length = len /\ len <= cap /\ len <= maxA /\ AttrsAt W 0 W.heap.size a l := by
 obtain ⟨h1, h2, n, _, h3⟩ := slice_cells Try.underlying34 cells99 (by decide) h hw
 rw [bytes99] at h2
 obtain ⟨l, hl, hL⟩ := listOf9 len (fun i (p : ByteArray × ByteArray) => ∃ (b o : Nat), a = some ⟨b, o, none⟩ /\ b < W.heap.size /\ W.cell? ⟨b, o + i * 2, none⟩ = some (.string p.1) /\ W.cell? ⟨b, o + i * 2 + 1, none⟩ = some (.string p.2)) (fun i hi => by
  obtain ⟨b, o, cs, y, e1, e2, e3, e4, e5, _⟩ := h3 i hi
  obtain ⟨xs, n', _, _, _, g4, g5⟩ := DataW.trod_struct Try.underlying99 e5
  have x2 : xs.length = 2 := g4
  have f0 : DataW.trod enc Try.prog W 0 (fun _ => true) held n' 9 ((cs.drop 0).take (Try.prog.cellsOf 9)) = xs[0]? := g5 0 _ rfl
  have f1 : DataW.trod enc Try.prog W 0 (fun _ => true) held n' 9 ((cs.drop 1).take (Try.prog.cellsOf 9)) = xs[1]? := g5 1 _ rfl
  rw [cells9, List.getElem?_eq_getElem (by omega)] at f0 f1
  obtain ⟨s0, q0, _⟩ := DataW.trod_string Try.underlying9 f0
  obtain ⟨s1, q1, _⟩ := DataW.trod_string Try.underlying9 f1
  obtain ⟨c0, c1, rfl⟩ : ∃ c0 c1, cs = [c0, c1] := by
   match cs, e3 with
   | [c0, c1], _ => exact ⟨c0, c1, rfl⟩
  simp at q0 q1
  subst q0 q1
  exact ⟨(s0, s1), b, o, e1, e2, e4 0 (by omega), e4 1 (by omega)⟩)
 refine ⟨l, hl, h1, reach_a h2, fun i p hp => ?_⟩
 obtain ⟨b, o, e1, e2, e3, e4⟩ := hL i p hp
 exact ⟨b, o, e1, Nat.zero_le _, e2, e3, e4⟩
theorem tree_of {H : Type} {enc : TypeId × Value -> H} {W : World} {held : Bool} : ∀ (N fuel : Nat) (cs : List Value) (x : DataW H × List MemPlace), fuel <= N -> DataW.trod enc Try.prog W 0 (fun _ => true) held fuel 36 cs = some x -> Wt 36 x.1 -> ∃ t : T N, TreeAt W 0 W.heap.size N cs.toArray t
 | 0, fuel, cs, x, hN, h, hw => by
  have : fuel = 0 := by omega
  subst this
  simp [DataW.trod] at h
 | N + 1, fuel, cs, x, hN, h, hw => by
  obtain ⟨xs, n', hf, rfl, hl, g4, g5⟩ := DataW.trod_struct Try.underlying36 h
  have x5 : xs.length = 5 := g4
  rw [cells36] at hl
  have f0 : DataW.trod enc Try.prog W 0 (fun _ => true) held n' 3 ((cs.drop 0).take (Try.prog.cellsOf 3)) = xs[0]? := g5 0 _ rfl
  have f1 : DataW.trod enc Try.prog W 0 (fun _ => true) held n' 9 ((cs.drop 1).take (Try.prog.cellsOf 9)) = xs[1]? := g5 1 _ rfl
  have f2 : DataW.trod enc Try.prog W 0 (fun _ => true) held n' 34 ((cs.drop 2).take (Try.prog.cellsOf 34)) = xs[2]? := g5 2 _ rfl
  have f3 : DataW.trod enc Try.prog W 0 (fun _ => true) held n' 9 ((cs.drop 3).take (Try.prog.cellsOf 9)) = xs[3]? := g5 3 _ rfl
  have f4 : DataW.trod enc Try.prog W 0 (fun _ => true) held n' 22 ((cs.drop 4).take (Try.prog.cellsOf 22)) = xs[4]? := g5 4 _ rfl
  have hww : ∀ y ∈ DataW.weightsEach Try.prog [3, 9, 34, 9, 22] (xs.map (·.1)), y <= reachBytes := by
   intro y hy
   refine hw y ?_
   simp only [DataW.weights, Try.underlying36]
   exact hy
  have w2 : Wt 34 (xs[2]'(by omega)).1 := wt_each hww (j := 2) rfl (by rw [List.getElem?_map, List.getElem?_eq_getElem (by omega)]; rfl)
  have w4 : Wt 22 (xs[4]'(by omega)).1 := wt_each hww (j := 4) rfl (by rw [List.getElem?_map, List.getElem?_eq_getElem (by omega)]; rfl)
  rw [List.getElem?_eq_getElem (by omega)] at f0 f1 f2 f3 f4
  rw [cells3r] at f0
  rw [cells9] at f1 f3
  rw [cells34] at f2
  rw [cells22] at f4
  obtain ⟨c0, c1, c2, c3, c4, rfl⟩ : ∃ c0 c1 c2 c3 c4, cs = [c0, c1, c2, c3, c4] := by
   match cs, hl with
   | [c0, c1, c2, c3, c4], _ => exact ⟨c0, c1, c2, c3, c4, rfl⟩
  simp at f0 f1 f2 f3 f4
  obtain ⟨k, q0, _⟩ := DataW.trod_int Try.underlying3 f0
  obtain ⟨nm, q1, _⟩ := DataW.trod_string Try.underlying9 f1
  obtain ⟨tx, q3, _⟩ := DataW.trod_string Try.underlying9 f3
  simp at q0 q1 q3
  subst q0 q1 q3
  obtain ⟨a, al, ac, rfl⟩ : ∃ a al ac, c2 = .slice a al ac := by
   rcases DataW.trod_slice Try.underlying34 f2 with ⟨e, _⟩ | ⟨ad, l, c, _, _, _, _, e, _⟩
   ·simp at e; exact ⟨_, _, _, e⟩
   ·simp at e; exact ⟨_, _, _, e⟩
  obtain ⟨ka, kl, kc, rfl⟩ : ∃ a al ac, c4 = .slice a al ac := by
   rcases DataW.trod_slice Try.underlying22 f4 with ⟨e, _⟩ | ⟨ad, l, c, _, _, _, _, e, _⟩
   ·simp at e; exact ⟨_, _, _, e⟩
   ·simp at e; exact ⟨_, _, _, e⟩
  obtain ⟨l, rfl, la, lb, hat⟩ := attrs_of f2 w2
  obtain ⟨ka1, ka2, n, hn, hkid⟩ := slice_cells Try.underlying22 cells36 (by decide) f4 w4
  rw [bytes36] at ka2
  obtain ⟨L, rfl, hL⟩ := listOf9 kl (fun i (q : T N) => ∃ (b o : Nat) (u : Array Value), ka = some ⟨b, o, none⟩ /\ 0 <= b /\ b < W.heap.size /\ u.size = 5 /\ (∀ j, j < 5 -> W.cell? ⟨b, o + i * 5 + j, none⟩ = u[j]?) /\ TreeAt W 0 W.heap.size N u q) (fun i hi => by
   obtain ⟨b, o, cs, y, e1, e2, e3, e4, e5, e6⟩ := hkid i hi
   obtain ⟨q, hq⟩ := tree_of N n cs y (by omega) e5 e6
   exact ⟨q, b, o, cs.toArray, e1, Nat.zero_le _, e2, by simpa using e3, fun j hj => by rw [e4 j hj]; simp, hq⟩)
  exact ⟨({ kind := k, name := nm, attrs := l, text := tx, kids := L } : Nd (T N)), a, ac, ka, kc, rfl, lb, reach_k ka2, la, ka1, hat, hL⟩
theorem forest_of {H : Type} {enc : TypeId × Value -> H} {W : World} {held : Bool} {fuel : Nat} {a : Option Addr} {len cap : Nat} {x : DataW H × List MemPlace} (h : DataW.trod enc Try.prog W 0 (fun _ => true) held fuel 22 [.slice a len cap] = some x) (hw : Wt 22 x.1) :
  ∃ (N : Nat) (L : List (T N)), L.length = len /\ KidsAt W 0 W.heap.size N a L /\ len <= maxK := by
 obtain ⟨ka1, ka2, n, hn, hkid⟩ := slice_cells Try.underlying22 cells36 (by decide) h hw
 rw [bytes36] at ka2
 obtain ⟨L, rfl, hL⟩ := listOf9 len (fun i (q : T n) => ∃ (b o : Nat) (u : Array Value), a = some ⟨b, o, none⟩ /\ 0 <= b /\ b < W.heap.size /\ u.size = 5 /\ (∀ j, j < 5 -> W.cell? ⟨b, o + i * 5 + j, none⟩ = u[j]?) /\ TreeAt W 0 W.heap.size n u q) (fun i hi => by
  obtain ⟨b, o, cs, y, e1, e2, e3, e4, e5, e6⟩ := hkid i hi
  obtain ⟨q, hq⟩ := tree_of n n cs y (Nat.le_refl _) e5 e6
  exact ⟨q, b, o, cs.toArray, e1, Nat.zero_le _, e2, by simpa using e3, fun j hj => by rw [e4 j hj]; simp, hq⟩)
 exact ⟨n, L, rfl, hL, reach_k ka2⟩
end Go.Proofs.Ytmapmkogjhinmaa
/- Distances of parts of two forests, in plain. -/
namespace Go.Proofs.Ytmapmkogjhinmaa
open Go.RowKit
set_option linter.unusedVariables false
set_option linter.unusedSimpArgs false
structure Kn where
 kind : Int
 name : ByteArray
 attrs : List (ByteArray × ByteArray)
 text : ByteArray
def sameK (x y : Kn) : Bool := decide (x.kind = y.kind) && (if x.kind = 2 then decide (x.text = y.text) else (decide (x.name = y.name) && decide (x.attrs = y.attrs)))
def fsN (E : List (Kn × Nat)) (i : Nat) : Nat := match E[i]? with
 | some p => p.2
 | none => 0
def turnN (A B : List (Kn × Nat)) (i j : Nat) : Nat := match A[i]?, B[j]? with
 | some x, some y => if sameK x.1 y.1 then 0 else 1
 | _, _ => 1
theorem turnN_le (A B : List (Kn × Nat)) (i j : Nat) : turnN A B i j <= 1 := by
 unfold turnN
 split
 ·split <;> omega
 ·omega
def zs (A B : List (Kn × Nat)) : Nat -> Nat -> Nat -> Nat -> Nat -> Nat
 | 0, _, _, _, _ => 0
 | f + 1, a, b, c, d => if a = b \/ c = d then (b - a) + (d - c) else
  min (turnN A B (b - 1) (d - 1) + zs A B f (fsN A (b - 1)) (b - 1) (fsN B (d - 1)) (d - 1) + zs A B f a (fsN A (b - 1)) c (fsN B (d - 1))) (min (zs A B f a (b - 1) c d + 1) (zs A B f a b c (d - 1) + 1))
structure Cl (E : List (Kn × Nat)) (a b : Nat) : Prop where
 le : a <= b
 len : b <= E.length
 fs : ∀ i, a <= i -> i < b -> a <= fsN E i
def WP (E : List (Kn × Nat)) : Prop := ∀ i, i < E.length -> fsN E i <= i /\ ∀ j, fsN E i <= j -> j < i -> fsN E i <= fsN E j
theorem Cl.in {E : List (Kn × Nat)} (hE : WP E) {a b : Nat} (h : Cl E a b) (hab : a ≠ b) : Cl E (fsN E (b - 1)) (b - 1) /\ Cl E a (fsN E (b - 1)) /\ Cl E a (b - 1) /\ a <= fsN E (b - 1) /\ fsN E (b - 1) <= b - 1 := by
 have h1 := h.le
 have h2 := h.len
 obtain ⟨h3, h4⟩ := hE (b - 1) (by omega)
 have h5 := h.fs (b - 1) (by omega) (by omega)
 exact ⟨⟨h3, by omega, h4⟩, ⟨h5, by omega, fun i hi hi2 => h.fs i hi (by omega)⟩, ⟨by omega, by omega, fun i hi hi2 => h.fs i hi (by omega)⟩, h5, h3⟩
theorem zs_fuel {A B : List (Kn × Nat)} (hA : WP A) (hB : WP B) : ∀ (f g a b c d : Nat), Cl A a b -> Cl B c d -> (b - a) + (d - c) < f -> (b - a) + (d - c) < g -> zs A B f a b c d = zs A B g a b c d
 | 0, _, _, _, _, _, _, _, h, _ => by omega
 | _ + 1, 0, _, _, _, _, _, _, _, h => by omega
 | f + 1, g + 1, a, b, c, d, hab, hcd, h1, h2 => by
  unfold zs
  by_cases e : a = b \/ c = d
  ·rw [if_pos e, if_pos e]
  ·rw [if_neg e, if_neg e]
   have e1 : a ≠ b := fun h => e (.inl h)
   have e2 : c ≠ d := fun h => e (.inr h)
   obtain ⟨p1, p2, p3, p4, p5⟩ := hab.in hA e1
   obtain ⟨q1, q2, q3, q4, q5⟩ := hcd.in hB e2
   have l1 := hab.le
   have l2 := hcd.le
   rw [zs_fuel hA hB f g _ _ _ _ p1 q1 (by omega) (by omega), zs_fuel hA hB f g _ _ _ _ p2 q2 (by omega) (by omega), zs_fuel hA hB f g _ _ _ _ p3 hcd (by omega) (by omega), zs_fuel hA hB f g _ _ _ _ hab q3 (by omega) (by omega)]
def Z (A B : List (Kn × Nat)) (a b c d : Nat) : Nat := zs A B ((b - a) + (d - c) + 1) a b c d
theorem Z_base {A B : List (Kn × Nat)} {a b c d : Nat} (h : a = b \/ c = d) : Z A B a b c d = (b - a) + (d - c) := by
 unfold Z zs
 rw [if_pos h]
theorem Z_step {A B : List (Kn × Nat)} (hA : WP A) (hB : WP B) {a b c d : Nat} (hab : Cl A a b) (hcd : Cl B c d) (e1 : a ≠ b) (e2 : c ≠ d) :
  Z A B a b c d = min (turnN A B (b - 1) (d - 1) + Z A B (fsN A (b - 1)) (b - 1) (fsN B (d - 1)) (d - 1) + Z A B a (fsN A (b - 1)) c (fsN B (d - 1))) (min (Z A B a (b - 1) c d + 1) (Z A B a b c (d - 1) + 1)) := by
 obtain ⟨p1, p2, p3, p4, p5⟩ := hab.in hA e1
 obtain ⟨q1, q2, q3, q4, q5⟩ := hcd.in hB e2
 have l1 := hab.le
 have l2 := hcd.le
 unfold Z
 rw [zs, if_neg (by omega)]
 rw [zs_fuel hA hB ((b - a) + (d - c)) ((b - 1 - fsN A (b - 1)) + (d - 1 - fsN B (d - 1)) + 1) _ _ _ _ p1 q1 (by omega) (by omega), zs_fuel hA hB ((b - a) + (d - c)) ((fsN A (b - 1) - a) + (fsN B (d - 1) - c) + 1) _ _ _ _ p2 q2 (by omega) (by omega),
  zs_fuel hA hB ((b - a) + (d - c)) ((b - 1 - a) + (d - c) + 1) _ _ _ _ p3 hcd (by omega) (by omega), zs_fuel hA hB ((b - a) + (d - c)) ((b - a) + (d - 1 - c) + 1) _ _ _ _ hab q3 (by omega) (by omega)]
theorem Z_le {A B : List (Kn × Nat)} (hA : WP A) (hB : WP B) : ∀ (n a b c d : Nat), Cl A a b -> Cl B c d -> (b - a) + (d - c) <= n -> Z A B a b c d <= (b - a) + (d - c)
 | n, a, b, c, d, hab, hcd, hn => by
  by_cases e : a = b \/ c = d
  ·rw [Z_base e]; exact Nat.le_refl _
  ·have e1 : a ≠ b := fun h => e (.inl h)
   have e2 : c ≠ d := fun h => e (.inr h)
   obtain ⟨p1, p2, p3, p4, p5⟩ := hab.in hA e1
   have l1 := hab.le
   rw [Z_step hA hB hab hcd e1 e2]
   cases n with
   | zero => omega
   | succ n =>
    have := Z_le hA hB n a (b - 1) c d p3 hcd (by omega)
    omega
theorem Z_le' {A B : List (Kn × Nat)} (hA : WP A) (hB : WP B) {a b c d : Nat} (hab : Cl A a b) (hcd : Cl B c d) : Z A B a b c d <= (b - a) + (d - c) := Z_le hA hB _ a b c d hab hcd (Nat.le_refl _)
end Go.Proofs.Ytmapmkogjhinmaa
/- Documents as lists of slots, in plain, and how they lie in memory. -/
namespace Go.Proofs.Ytmapmkogjhinmaa
open Go.RowKit
set_option linter.unusedVariables false
set_option linter.unusedSimpArgs false
structure Sl where
 gen : Nat
 live : Bool
 kind : Int
 name : ByteArray
 attrs : List (ByteArray × ByteArray)
 text : ByteArray
 parent : Nat
 kids : List Nat
structure Dc where
 S : List Sl
 roots : List Nat
def hnd (i g : Nat) : Nat := g * 4294967296 + (i + 1)
def atI (S : List Sl) (h : Nat) : Option Nat :=
 if h % 4294967296 = 0 then none else
  match S[h % 4294967296 - 1]? with
  | none => none
  | some s => if s.live = true /\ s.gen = h / 4294967296 then some (h % 4294967296 - 1) else none
def sl (D : Dc) (h : Nat) : Option Sl := (atI D.S h).bind fun i => D.S[i]?
theorem atI_some {S : List Sl} {h i : Nat} (e : atI S h = some i) : ∃ s, S[i]? = some s /\ s.live = true /\ s.gen = h / 4294967296 /\ i = h % 4294967296 - 1 /\ h % 4294967296 ≠ 0 /\ h = hnd i s.gen := by
 unfold atI at e
 split at e
 ·cases e
 ·rename_i h0
  split at e
  ·cases e
  ·rename_i s hs
   split at e
   ·rename_i hl
    cases e
    refine ⟨s, hs, hl.1, hl.2, rfl, h0, ?_⟩
    unfold hnd
    omega
   ·cases e
theorem atI_hnd {S : List Sl} {i : Nat} {s : Sl} (h : S[i]? = some s) (hl : s.live = true) (hi : i < 4294967295) : atI S (hnd i s.gen) = some i := by
 have h1 : hnd i s.gen % 4294967296 = i + 1 := by unfold hnd; omega
 have h2 : hnd i s.gen / 4294967296 = s.gen := by unfold hnd; omega
 unfold atI
 rw [h1, h2, if_neg (by omega), show i + 1 - 1 = i from rfl, h]
 simp [hl]
theorem sl_some {D : Dc} {h : Nat} {s : Sl} (e : sl D h = some s) : ∃ i, atI D.S h = some i /\ D.S[i]? = some s := by
 unfold sl at e
 exact Option.bind_eq_some_iff.1 e
theorem atI_zero (S : List Sl) : atI S 0 = none := by simp [atI]
def HandsAt (w : World) (R : Nat -> Prop) (a : Option Addr) (l : List Nat) : Prop :=
 ∀ (i h : Nat), l[i]? = some h -> ∃ b o, a = some ⟨b, o, none⟩ /\ R b /\ w.cell? ⟨b, o + i, none⟩ = some (.int .u64 (h : Int))
def SlotAt (w : World) (R : Nat -> Prop) (b o : Nat) (s : Sl) : Prop :=
 ∃ (aa : Option Addr) (ac : Nat) (ka : Option Addr) (kc : Nat),
  w.cell? ⟨b, o, none⟩ = some (.int .u32 (s.gen : Int)) /\ w.cell? ⟨b, o + 1, none⟩ = some (.bool s.live) /\ w.cell? ⟨b, o + 2, none⟩ = some (.int .i64 s.kind) /\ w.cell? ⟨b, o + 3, none⟩ = some (.string s.name) /\
  w.cell? ⟨b, o + 4, none⟩ = some (.slice aa s.attrs.length ac) /\ w.cell? ⟨b, o + 5, none⟩ = some (.string s.text) /\ w.cell? ⟨b, o + 6, none⟩ = some (.int .u64 (s.parent : Int)) /\ w.cell? ⟨b, o + 7, none⟩ = some (.slice ka s.kids.length kc) /\
  s.attrs.length <= ac /\ s.kids.length <= kc /\ AttrsR w R aa s.attrs /\ HandsAt w R ka s.kids
def SlotsAt (w : World) (R : Nat -> Prop) (a : Option Addr) (S : List Sl) : Prop :=
 ∀ i s, S[i]? = some s -> ∃ b o, a = some ⟨b, o, none⟩ /\ R b /\ SlotAt w R b (o + i * 8) s
structure View (w : World) (R : Nat -> Prop) (db : Nat) (D : Dc) : Prop where
 docs : R db
 lt : ∀ b, R b -> b < w.heap.size
 head : ∃ a cap, w.cell? ⟨db, 0, none⟩ = some (.slice a D.S.length cap) /\ D.S.length <= cap /\ SlotsAt w R a D.S
 roots : ∃ a cap, w.cell? ⟨db, 1, none⟩ = some (.slice a D.roots.length cap) /\ D.roots.length <= cap /\ HandsAt w R a D.roots
theorem HandsAt.to {w w' : World} {R R' : Nat -> Prop} {a : Option Addr} {l : List Nat} (h : HandsAt w R a l) (hR : ∀ b, R b -> R' b) (hc : ∀ b o, R b -> w'.cell? ⟨b, o, none⟩ = w.cell? ⟨b, o, none⟩) : HandsAt w' R' a l := by
 intro i x hx
 obtain ⟨b, o, h1, h2, h3⟩ := h i x hx
 exact ⟨b, o, h1, hR _ h2, (hc _ _ h2).trans h3⟩
theorem SlotAt.to {w w' : World} {R R' : Nat -> Prop} {b o : Nat} {s : Sl} (h : SlotAt w R b o s) (hb : R b) (hR : ∀ b, R b -> R' b) (hc : ∀ b o, R b -> w'.cell? ⟨b, o, none⟩ = w.cell? ⟨b, o, none⟩) : SlotAt w' R' b o s := by
 obtain ⟨aa, ac, ka, kc, c0, c1, c2, c3, c4, c5, c6, c7, l1, l2, h1, h2⟩ := h
 exact ⟨aa, ac, ka, kc, (hc _ _ hb).trans c0, (hc _ _ hb).trans c1, (hc _ _ hb).trans c2, (hc _ _ hb).trans c3, (hc _ _ hb).trans c4, (hc _ _ hb).trans c5, (hc _ _ hb).trans c6, (hc _ _ hb).trans c7, l1, l2, h1.to hR hc, h2.to hR hc⟩
theorem SlotsAt.to {w w' : World} {R R' : Nat -> Prop} {a : Option Addr} {S : List Sl} (h : SlotsAt w R a S) (hR : ∀ b, R b -> R' b) (hc : ∀ b o, R b -> w'.cell? ⟨b, o, none⟩ = w.cell? ⟨b, o, none⟩) : SlotsAt w' R' a S := by
 intro i s hs
 obtain ⟨b, o, h1, h2, h3⟩ := h i s hs
 exact ⟨b, o, h1, hR _ h2, h3.to h2 hR hc⟩
theorem View.to {w w' : World} {R R' : Nat -> Prop} {db : Nat} {D : Dc} (h : View w R db D) (hR : ∀ b, R b -> R' b) (hl : ∀ b, R' b -> b < w'.heap.size) (hc : ∀ b o, R b -> w'.cell? ⟨b, o, none⟩ = w.cell? ⟨b, o, none⟩) : View w' R' db D := by
 obtain ⟨a, cap, h1, h2, h3⟩ := h.head
 obtain ⟨a', cap', g1, g2, g3⟩ := h.roots
 exact ⟨hR _ h.docs, hl, ⟨a, cap, (hc _ _ h.docs).trans h1, h2, h3.to hR hc⟩, ⟨a', cap', (hc _ _ h.docs).trans g1, g2, g3.to hR hc⟩⟩
theorem View.below {w w' : World} {R : Nat -> Prop} {db : Nat} {D : Dc} (h : View w R db D) (hb : Below w.heap.size w w') : View w' R db D :=
 h.to (fun _ h => h) (fun b hb' => Nat.lt_of_lt_of_le (h.lt b hb') hb.size) (fun b o hb' => hb.cell (p := ⟨b, o, none⟩) (h.lt b hb'))
theorem View.turn {w w' : World} {R A : Nat -> Prop} {db : Nat} {D : Dc} (h : View w R db D) (ht : Turn A w w') (hA : ∀ b, R b -> ¬ A b) : View w' R db D :=
 h.to (fun _ h => h) (fun b hb' => Nat.lt_of_lt_of_le (h.lt b hb') ht.size) (fun b o hb' => World.cell?_of_block (w := w) (a := ⟨b, o, none⟩) (ht.block b (h.lt b hb') (hA b hb')))
theorem View.slot {w : World} {R : Nat -> Prop} {db : Nat} {D : Dc} (h : View w R db D) {i : Nat} {s : Sl} (hs : D.S[i]? = some s) :
  ∃ b o cap aa ac ka kc, w.cell? ⟨db, 0, none⟩ = some (.slice (some ⟨b, o, none⟩) D.S.length cap) /\ D.S.length <= cap /\ R b /\ w.cell? ⟨b, o + i * 8, none⟩ = some (.int .u32 (s.gen : Int)) /\ w.cell? ⟨b, o + i * 8 + 1, none⟩ = some (.bool s.live) /\ w.cell? ⟨b, o + i * 8 + 2, none⟩ = some (.int .i64 s.kind) /\ w.cell? ⟨b, o + i * 8 + 3, none⟩ = some (.string s.name) /\
  w.cell? ⟨b, o + i * 8 + 4, none⟩ = some (.slice aa s.attrs.length ac) /\ w.cell? ⟨b, o + i * 8 + 5, none⟩ = some (.string s.text) /\ w.cell? ⟨b, o + i * 8 + 6, none⟩ = some (.int .u64 (s.parent : Int)) /\ w.cell? ⟨b, o + i * 8 + 7, none⟩ = some (.slice ka s.kids.length kc) /\
  s.attrs.length <= ac /\ s.kids.length <= kc /\ AttrsR w R aa s.attrs /\ HandsAt w R ka s.kids := by
 obtain ⟨a, cap, h1, h2, h3⟩ := h.head
 obtain ⟨b, o, rfl, hb, aa, ac, ka, kc, c⟩ := h3 i s hs
 exact ⟨b, o, cap, aa, ac, ka, kc, h1, h2, hb, c⟩
end Go.Proofs.Ytmapmkogjhinmaa
/- A handle's slot: the program's find. -/
namespace Go.Proofs.Ytmapmkogjhinmaa
open Go.RowKit
set_option linter.unusedVariables false
set_option linter.unusedSimpArgs false
set_option maxRecDepth 100000
set_option maxHeartbeats 1000000
attribute [local go_sem] Bel.cell Bel.fz
def placeI (h len : Nat) : Int := if len + 1 <= h % 4294967296 then -1 else ((h % 4294967296 : Nat) : Int) - 1
theorem place_any (w : World) (h len : Nat) (hh : h < 18446744073709551616) (hl : len <= 4096) : Calls Try.prog 42 #[.int .u64 (h : Int), .int .i64 (len : Int)] w fun e w' => e = .returned (.int .i64 (placeI h len)) /\ w' = w := by
 go_enter Try.func42, Try.ntmps42
 go_wp2
 all_goals go_ret
 all_goals refine ⟨congrArg _ (v_int ?_), rfl⟩
 ·unfold placeI
  rw [if_pos (by omega)]
 ·unfold placeI
  rw [if_neg (by omega)]
  omega
theorem beq_nat (g m : Nat) : ((g : Int) == (m : Int)) = decide (g = m) := by
 rw [Bool.eq_iff_iff]
 simp
 omega
theorem isOf_any (w : World) (g : Nat) (lv : Bool) (k : Int) (nm : ByteArray) (av : Value) (tx : ByteArray) (p : Nat) (kv : Value) (h : Nat) (hh : h < 18446744073709551616) (hg : g < 4294967296) :
  Calls Try.prog 43 #[.agg #[.int .u32 (g : Int), .bool lv, .int .i64 k, .string nm, av, .string tx, .int .u64 (p : Int), kv], .int .u64 (h : Int)] w fun e w' => e = .returned (.bool (lv && decide (g = h / 4294967296))) /\ Below w.heap.size w w' := by
 cases lv
 ·go_enter Try.func43, Try.ntmps43
  go_wp2
  go_ret
  exact ⟨rfl, below_new' w _⟩
 ·go_enter Try.func43, Try.ntmps43
  go_wp2
  go_ret
  refine ⟨congrArg _ (v_bool ?_), below_new' w _⟩
  rw [Bool.true_and, <- beq_nat]
  simp
structure Fits (D : Dc) : Prop where
 len : D.S.length <= 4096
 gen : ∀ (i : Nat) (s : Sl), D.S[i]? = some s -> s.gen < 4294967296
theorem find_out (w : World) (R : Nat -> Prop) (db : Nat) (D : Dc) (h : Nat) (hv : View w R db D) (hf : D.S.length <= 4096) (hh : h < 18446744073709551616) (hp : placeI h D.S.length = -1) :
  Calls Try.prog 27 #[.pointer (some ⟨db, 0, none⟩), .int .u64 (h : Int)] w fun e w' => e = .returned (.pointer none) /\ Below w.heap.size w w' := by
 obtain ⟨a, cap, h1, h2, _⟩ := hv.head
 have hpl := place_any w h D.S.length hh hf
 rw [hp] at hpl
 clear hp hv
 go_enter Try.func27, Try.ntmps27
 go_wp2_with fail
 refine hpl.mono ?_
 rintro e w' ⟨rfl, rfl⟩
 go_wp2
 go_ret
 exact ⟨rfl, Below.refl _ _⟩
theorem find_at (w : World) (R : Nat -> Prop) (db : Nat) (D : Dc) (h : Nat) (i : Nat) (s : Sl) (hv : View w R db D) (hf : Fits D) (hh : h < 18446744073709551616) (hs : D.S[i]? = some s) (hi : h % 4294967296 = i + 1) (b o cap : Nat) (hc : w.cell? ⟨db, 0, none⟩ = some (.slice (some ⟨b, o, none⟩) D.S.length cap)) :
  Calls Try.prog 27 #[.pointer (some ⟨db, 0, none⟩), .int .u64 (h : Int)] w fun e w' => e = .returned (.pointer (if s.live = true /\ s.gen = h / 4294967296 then some ⟨b, o + i * 8, none⟩ else none)) /\ Below w.heap.size w w' := by
 have hlt := (List.getElem?_eq_some_iff.1 hs).1
 have hp : placeI h D.S.length = (i : Int) := by unfold placeI; rw [if_neg (by omega)]; omega
 have hpl := place_any w h D.S.length hh hf.len
 rw [hp] at hpl
 obtain ⟨b', o', cap', aa, ac, ka, kc, h1, hcl, hb, c0, c1, c2, c3, c4, c5, c6, c7, _⟩ := hv.slot hs
 rw [hc] at h1
 simp only [Option.some.injEq, Value.slice.injEq, Addr.mk.injEq, and_true, true_and] at h1
 obtain ⟨⟨rfl, rfl⟩, rfl⟩ := h1
 have hof := fun W => isOf_any W s.gen s.live s.kind s.name (.slice aa s.attrs.length ac) s.text s.parent (.slice ka s.kids.length kc) h hh (hf.gen i s hs)
 have hl : ((D.S.length : Nat) : Int) <= 4096 := by have := hf.len; omega
 have hbl := hv.lt b hb
 have hdl := hv.lt db hv.docs
 clear hp hv hf hs hi
 by_cases hx : s.live = true /\ s.gen = h / 4294967296
 ·rw [if_pos hx]
  have hy : (s.live && decide (s.gen = h / 4294967296)) = true := by simp [hx.1, hx.2]
  rw [hy] at hof
  clear hx hy
  go_enter Try.func27, Try.ntmps27
  go_wp2_with fail
  refine hpl.mono ?_
  rintro e w' ⟨rfl, rfl⟩
  go_wp2_with fail
  refine (hof _).mono ?_
  rintro e w2 ⟨rfl, hb2⟩
  obtain ⟨hcc, hff⟩ := bcell hb2
  have HB2 : Hid (Below w'.heap.size w' w2) := hb2
  clear hb2
  go_wp2
  go_ret
  exact ⟨rfl, HB2.out⟩
 ·rw [if_neg hx]
  have hy : (s.live && decide (s.gen = h / 4294967296)) = false := by
   rw [Bool.and_eq_false_iff]
   by_cases h1 : s.live = true
   ·exact .inr (by simpa using fun h2 => hx ⟨h1, h2⟩)
   ·exact .inl (by simpa using h1)
  rw [hy] at hof
  clear hx hy
  go_enter Try.func27, Try.ntmps27
  go_wp2_with fail
  refine hpl.mono ?_
  rintro e w' ⟨rfl, rfl⟩
  go_wp2_with fail
  refine (hof _).mono ?_
  rintro e w2 ⟨rfl, hb2⟩
  obtain ⟨hcc, hff⟩ := bcell hb2
  have HB2 : Hid (Below w'.heap.size w' w2) := hb2
  clear hb2
  go_wp2
  go_ret
  exact ⟨rfl, HB2.out⟩
theorem find_none (w : World) (R : Nat -> Prop) (db : Nat) (D : Dc) (h : Nat) (hv : View w R db D) (hf : Fits D) (hh : h < 18446744073709551616) (ha : atI D.S h = none) :
  Calls Try.prog 27 #[.pointer (some ⟨db, 0, none⟩), .int .u64 (h : Int)] w fun e w' => e = .returned (.pointer none) /\ Below w.heap.size w w' := by
 by_cases h0 : h % 4294967296 = 0
 ·exact find_out w R db D h hv hf.len hh (by unfold placeI; rw [if_neg (by omega), h0]; rfl)
 ·by_cases hl : D.S.length + 1 <= h % 4294967296
  ·exact find_out w R db D h hv hf.len hh (by unfold placeI; rw [if_pos hl])
  ·obtain ⟨s, hs⟩ : ∃ s, D.S[h % 4294967296 - 1]? = some s := ⟨_, List.getElem?_eq_getElem (by omega)⟩
   obtain ⟨b, o, cap, aa, ac, ka, kc, h1, _⟩ := hv.slot hs
   have hn : ¬ (s.live = true /\ s.gen = h / 4294967296) := by
    intro hx
    simp [atI, h0, hs, hx] at ha
   have := find_at w R db D h _ s hv hf hh hs (by omega) b o cap h1
   rw [if_neg hn] at this
   exact this
theorem find_some (w : World) (R : Nat -> Prop) (db : Nat) (D : Dc) (h i : Nat) (hv : View w R db D) (hf : Fits D) (hh : h < 18446744073709551616) (ha : atI D.S h = some i) (b o cap : Nat) (hc : w.cell? ⟨db, 0, none⟩ = some (.slice (some ⟨b, o, none⟩) D.S.length cap)) :
  Calls Try.prog 27 #[.pointer (some ⟨db, 0, none⟩), .int .u64 (h : Int)] w fun e w' => e = .returned (.pointer (some ⟨b, o + i * 8, none⟩)) /\ Below w.heap.size w w' := by
 obtain ⟨s, hs, h1, h2, h3, h4, _⟩ := atI_some ha
 have := find_at w R db D h i s hv hf hh hs (by omega) b o cap hc
 rw [if_pos ⟨h1, h2⟩] at this
 exact this
end Go.Proofs.Ytmapmkogjhinmaa
/- What every document keeps; the way from a node up to its root. -/
namespace Go.Proofs.Ytmapmkogjhinmaa
open Go.RowKit
set_option linter.unusedVariables false
set_option linter.unusedSimpArgs false
def zeroSl (g : Nat) : Sl := { gen := g, live := false, kind := 0, name := ⟨#[]⟩, attrs := [], text := ⟨#[]⟩, parent := 0, kids := [] }
def ndOf (s : Sl) : Nd Empty := { kind := s.kind, name := s.name, attrs := s.attrs, text := s.text, kids := [] }
def lst (D : Dc) (p : Nat) : List Nat := if p = 0 then D.roots else match sl D p with | some s => s.kids | none => []
def Lev (D : Dc) (lv : Nat -> Nat) : Prop := ∀ h s, sl D h = some s -> lv h <= 63 /\ ((s.parent = 0 /\ lv h = 0) \/ ∃ p, sl D s.parent = some p /\ lv h = lv s.parent + 1)
structure WF (D : Dc) : Prop where
 fits : Fits D
 gen1 : ∀ (i : Nat) (s : Sl), D.S[i]? = some s -> 1 <= s.gen
 dead : ∀ (i : Nat) (s : Sl), D.S[i]? = some s -> s.live = false -> s = zeroSl s.gen
 own : ∀ (i : Nat) (s : Sl), D.S[i]? = some s -> s.live = true -> ownE (ndOf s) = 0
 used : ∀ (i : Nat) (s : Sl), D.S[i]? = some s -> s.live = true -> (s.kind = 2 -> s.kids = [] /\ s.name = ⟨#[]⟩ /\ s.attrs = []) /\ (s.kind = 1 -> s.text = ⟨#[]⟩)
 lev : ∃ lv, Lev D lv
 up : ∀ h s, sl D h = some s -> h ∈ lst D s.parent
 down : ∀ p, (p = 0 \/ ∃ q, sl D p = some q) -> ∀ h ∈ lst D p, ∃ s, sl D h = some s /\ s.parent = p
 nodup : ∀ p, (lst D p).Nodup
theorem sl_zero (D : Dc) : sl D 0 = none := by simp [sl, atI_zero]
theorem sl_live {D : Dc} {h : Nat} {s : Sl} (e : sl D h = some s) : ∃ i, atI D.S h = some i /\ D.S[i]? = some s /\ s.live = true /\ h = hnd i s.gen := by
 obtain ⟨i, h1, h2⟩ := sl_some e
 obtain ⟨s', g1, g2, _, _, _, g3⟩ := atI_some h1
 rw [h2] at g1
 cases g1
 exact ⟨i, h1, h2, g2, g3⟩
theorem sl_of_at {D : Dc} {h i : Nat} (e : atI D.S h = some i) : ∃ s, sl D h = some s /\ D.S[i]? = some s := by
 obtain ⟨s, h1, _⟩ := atI_some e
 exact ⟨s, by simp [sl, e, h1], h1⟩
theorem sl_none {D : Dc} {h : Nat} (e : sl D h = none) : atI D.S h = none := by
 cases ha : atI D.S h with
 | none => rfl
 | some i =>
  obtain ⟨s, h1, _⟩ := sl_of_at ha
  rw [e] at h1
  cases h1
theorem WF.lt {D : Dc} (hw : WF D) {h : Nat} {s : Sl} (e : sl D h = some s) : h < 18446744073709551616 /\ 0 < h /\ ∃ i, atI D.S h = some i /\ D.S[i]? = some s /\ i < 4096 := by
 obtain ⟨i, h1, h2, h3, h4⟩ := sl_live e
 have hi := (List.getElem?_eq_some_iff.1 h2).1
 have hl := hw.fits.len
 have hg := hw.fits.gen i s h2
 refine ⟨?_, ?_, i, h1, h2, by omega⟩
 ·rw [h4]; unfold hnd; omega
 ·rw [h4]; unfold hnd; omega
theorem WF.kind {D : Dc} (hw : WF D) {h : Nat} {s : Sl} (e : sl D h = some s) : s.kind = 1 \/ s.kind = 2 := by
 obtain ⟨i, _, h2, h3, _⟩ := sl_live e
 have h := hw.own i s h2 h3
 unfold ownE ndOf at h
 simp only at h
 by_cases k1 : s.kind = 1
 ·exact .inl k1
 ·rw [if_neg k1] at h
  by_cases k2 : s.kind = 2
  ·exact .inr k2
  ·rw [if_neg k2] at h; omega
def par (D : Dc) (h : Nat) : Nat := match sl D h with | some s => s.parent | none => 0
def chain (D : Dc) : Nat -> Nat -> List Nat
 | 0, _ => []
 | k + 1, h => if h = 0 then [] else h :: chain D k (par D h)
theorem Lev.par {D : Dc} {lv : Nat -> Nat} (hl : Lev D lv) {h : Nat} {s : Sl} (e : sl D h = some s) : (s.parent = 0 /\ lv h = 0) \/ (∃ p, sl D s.parent = some p /\ lv h = lv s.parent + 1) := (hl h s e).2
def dep (lv : Nat -> Nat) (h : Nat) : Nat := if h = 0 then 0 else lv h + 1
theorem dep_par {D : Dc} {lv : Nat -> Nat} (hl : Lev D lv) {h : Nat} {s : Sl} (e : sl D h = some s) : dep lv h = dep lv s.parent + 1 /\ (s.parent = 0 \/ ∃ p, sl D s.parent = some p) := by
 have h0 : h ≠ 0 := by rintro rfl; rw [sl_zero] at e; cases e
 rcases hl.par e with ⟨h1, h2⟩ | ⟨p, h1, h2⟩
 ·exact ⟨by simp [dep, h0, h1, h2], .inl h1⟩
 ·have hp0 : s.parent ≠ 0 := by intro h3; rw [h3, sl_zero] at h1; cases h1
  exact ⟨by simp [dep, h0, hp0, h2], .inr ⟨p, h1⟩⟩
theorem dep_le {D : Dc} {lv : Nat -> Nat} (hl : Lev D lv) {h : Nat} (hh : h = 0 \/ ∃ s, sl D h = some s) : dep lv h <= 64 := by
 rcases hh with rfl | ⟨s, e⟩
 ·simp [dep]
 ·have := (hl h s e).1
  unfold dep
  split <;> omega
theorem chain_eq {D : Dc} {lv : Nat -> Nat} (hl : Lev D lv) : ∀ (k : Nat) (h : Nat), (h = 0 \/ ∃ s, sl D h = some s) -> dep lv h <= k -> chain D k h = chain D (dep lv h) h /\ (chain D k h).length = dep lv h
 | 0, h, hh, hk => by
  have : dep lv h = 0 := by omega
  rw [this]
  exact ⟨rfl, rfl⟩
 | k + 1, h, hh, hk => by
  rcases hh with rfl | ⟨s, e⟩
  ·simp [chain, dep]
  ·have h0 : h ≠ 0 := by rintro rfl; rw [sl_zero] at e; cases e
   obtain ⟨h1, h2⟩ := dep_par hl e
   have hp : par D h = s.parent := by simp [par, e]
   have ih := chain_eq hl k s.parent h2 (by omega)
   have e1 : chain D (k + 1) h = h :: chain D k s.parent := by rw [chain, if_neg h0, hp]
   have e2 : chain D (dep lv s.parent + 1) h = h :: chain D (dep lv s.parent) s.parent := by rw [chain, if_neg h0, hp]
   rw [h1, e1, e2, ih.1]
   refine ⟨rfl, ?_⟩
   have := ih.2
   rw [ih.1] at this
   simp [this]
def ups (D : Dc) (h : Nat) : List Nat := chain D 64 h
theorem ups_step {D : Dc} {lv : Nat -> Nat} (hl : Lev D lv) {h : Nat} {s : Sl} (e : sl D h = some s) : ups D h = h :: ups D s.parent := by
 have h0 : h ≠ 0 := by rintro rfl; rw [sl_zero] at e; cases e
 obtain ⟨h1, h2⟩ := dep_par hl e
 have hp : par D h = s.parent := by simp [par, e]
 have hd := dep_le hl (.inr ⟨s, e⟩)
 unfold ups
 rw [(chain_eq hl 64 h (.inr ⟨s, e⟩) hd).1, (chain_eq hl 64 s.parent h2 (by omega)).1, h1, chain, if_neg h0, hp]
theorem ups_zero (D : Dc) : ups D 0 = [] := by simp [ups, chain]
theorem ups_length {D : Dc} {lv : Nat -> Nat} (hl : Lev D lv) {h : Nat} (hh : h = 0 \/ ∃ s, sl D h = some s) : (ups D h).length = dep lv h := (chain_eq hl 64 h hh (dep_le hl hh)).2
end Go.Proofs.Ytmapmkogjhinmaa
/- The program: is a node live, what lies around it. -/
namespace Go.Proofs.Ytmapmkogjhinmaa
open Go.RowKit
set_option linter.unusedVariables false
set_option linter.unusedSimpArgs false
set_option maxRecDepth 100000
set_option maxHeartbeats 400000
def liveB (D : Dc) (h : Nat) : Bool := decide (h = 0) || (atI D.S h).isSome
theorem isLive_any (w : World) (R : Nat -> Prop) (db : Nat) (D : Dc) (h : Nat) (hv : View w R db D) (hf : Fits D) (hh : h < 18446744073709551616) :
  Calls Try.prog 32 #[.pointer (some ⟨db, 0, none⟩), .int .u64 (h : Int)] w fun e w' => e = .returned (.bool (liveB D h)) /\ Below w.heap.size w w' := by
 by_cases h0 : h = 0
 ·have hb : ((h : Int) == 0) = true := by simp [h0]
  have e1 : liveB D h = true := by simp [liveB, h0]
  rw [e1]
  clear e1 h0 hv
  go_enter Try.func32, Try.ntmps32
  go_wp2
  go_ret
  exact ⟨rfl, Below.refl _ _⟩
 ·have hb : ((h : Int) == 0) = false := by simp; omega
  cases ha : atI D.S h with
  | none =>
   have hfi := find_none w R db D h hv hf hh ha
   have e1 : liveB D h = false := by simp [liveB, h0, ha]
   rw [e1]
   clear e1 h0 hv ha
   go_enter Try.func32, Try.ntmps32
   go_wp2_with fail
   refine hfi.mono ?_
   rintro e w' ⟨rfl, hb'⟩
   go_wp2
   go_ret
   exact ⟨rfl, hb'⟩
  | some i =>
   obtain ⟨s, hs, -⟩ := atI_some ha
   obtain ⟨b, o, cap, aa, ac, ka, kc, h1, -⟩ := hv.slot hs
   have hfi := find_some w R db D h i hv hf hh ha b o cap h1
   have e1 : liveB D h = true := by simp [liveB, ha]
   rw [e1]
   clear e1 h0 hv ha
   go_enter Try.func32, Try.ntmps32
   go_wp2_with fail
   refine hfi.mono ?_
   rintro e w' ⟨rfl, hb'⟩
   go_wp2
   go_ret
   exact ⟨rfl, hb'⟩
def arD (D : Dc) (wh : Int) (a : Nat) : Nat := if wh = 3 \/ wh = 4 then par D a else a
theorem around_any (w : World) (R : Nat -> Prop) (db : Nat) (D : Dc) (wh : Int) (a : Nat) (hv : View w R db D) (hf : Fits D) (hh : a < 18446744073709551616) (hl : wh = 3 \/ wh = 4 -> ∃ s, sl D a = some s) :
  Calls Try.prog 33 #[.pointer (some ⟨db, 0, none⟩), .int .i64 wh, .int .u64 (a : Int)] w fun e w' => e = .returned (.int .u64 (arD D wh a : Int)) /\ Below w.heap.size w w' := by
 by_cases h3 : wh = 3 \/ wh = 4
 ·obtain ⟨s, hs⟩ := hl h3
  obtain ⟨i, ha, hsi, -⟩ := sl_live hs
  obtain ⟨b, o, cap, aa, ac, ka, kc, h1, hcl, hb, c0, c1, c2, c3, c4, c5, c6, c7, -⟩ := hv.slot hsi
  have hfi := find_some w R db D a i hv hf hh ha b o cap h1
  have e1 : arD D wh a = s.parent := by simp [arD, h3, par, hs]
  have hbl := hv.lt b hb
  rw [e1]
  clear e1 hl hv ha hs hsi
  rcases h3 with rfl | rfl
  ·go_enter Try.func33, Try.ntmps33
   go_wp2_with fail
   refine hfi.mono ?_
   rintro e w' ⟨rfl, hb'⟩
   obtain ⟨hcc, -⟩ := bcell hb'
   have HB : Hid (Below w.heap.size w w') := hb'
   clear hb'
   go_wp2
   go_ret
   exact ⟨rfl, HB.out⟩
  ·go_enter Try.func33, Try.ntmps33
   go_wp2_with fail
   refine hfi.mono ?_
   rintro e w' ⟨rfl, hb'⟩
   obtain ⟨hcc, -⟩ := bcell hb'
   have HB : Hid (Below w.heap.size w w') := hb'
   clear hb'
   go_wp2
   go_ret
   exact ⟨rfl, HB.out⟩
 ·have e1 : arD D wh a = a := by simp [arD, h3]
  rw [e1]
  have hb1 : (wh == 3) = false := beq_eq_false_iff_ne.2 (fun h => h3 (.inl h))
  have hb2 : (wh == 4) = false := beq_eq_false_iff_ne.2 (fun h => h3 (.inr h))
  clear e1 hl hv h3
  go_enter Try.func33, Try.ntmps33
  go_wp2
  go_ret
  exact ⟨rfl, Below.refl _ _⟩
theorem depth_any (w : World) (R : Nat -> Prop) (db : Nat) (D : Dc) (h : Nat) (hv : View w R db D) (hw : WF D) (hh : h = 0 \/ ∃ s, sl D h = some s) :
  Calls Try.prog 48 #[.pointer (some ⟨db, 0, none⟩), .int .u64 (h : Int)] w fun e w' => e = .returned (.int .i64 ((ups D h).length : Int)) /\ Below w.heap.size w w' := by
 obtain ⟨lv, hlv⟩ := hw.lev
 rw [ups_length hlv hh]
 have hd64 := dep_le hlv hh
 have HV : Hid (View w R db D) := hv
 have HW : Hid (WF D) := hw
 have HL : Hid (Lev D lv) := hlv
 clear hv hw hlv
 go_enter Try.func48, Try.ntmps48
 go_wp2
 go_loopw [1, 5] (fun v c wr => ∃ (x k : Nat), v = .int .u64 (x : Int) /\ c = .int .i64 (k : Int) /\ Hid (x = 0 \/ ∃ s, sl D x = some s) /\ Hid (k + dep lv x = dep lv h) /\ k <= 64 /\ Hid (Below w.heap.size w wr)) (fun v c _ => 64 - (intOf c).toNat)
 case atStart => exact ⟨h, 0, rfl, rfl, hh, Nat.zero_add _, by omega, Below.refl _ _⟩
 case round =>
  obtain ⟨x, k, rfl, rfl, hx, hk, hk64, hbw⟩ := hrel
  by_cases h0 : x = 0
  ·have hb : ((x : Int) == 0) = true := by simp [h0]
   have hkk : k = dep lv h := by have := hk.out; rw [h0] at this; simpa [dep] using this
   clear h0 hk
   go_wp2
   go_ret
   exact ⟨congrArg _ (v_int (by omega)), hbw.out⟩
  ·have hb : ((x : Int) == 0) = false := by simp; omega
   obtain ⟨s, hs⟩ : ∃ s, sl D x = some s := by
    rcases hx.out with h | h
    ·exact absurd h h0
    ·exact h
   obtain ⟨hdp, hpp⟩ := dep_par HL.out hs
   have hkk := hk.out
   have hdx := dep_le HL.out (.inr ⟨s, hs⟩)
   obtain ⟨hxl, -, i, ha, hsi, -⟩ := HW.out.lt hs
   have hv' := HV.out.below hbw.out
   obtain ⟨b, o, cap, aa, ac, ka, kc, h1, hcl, hbR, c0, c1, c2, c3, c4, c5, c6, c7, -⟩ := hv'.slot hsi
   have hfi := find_some wr R db D x i hv' HW.out.fits hxl ha b o cap h1
   have hbl := hv'.lt b hbR
   have HK : Hid (k + 1 + dep lv s.parent = dep lv h) := by show _ = _; omega
   have HP : Hid (s.parent = 0 \/ ∃ p, sl D s.parent = some p) := hpp
   have hk63 : k + 1 <= 64 := by omega
   clear hdp hpp hkk hdx hv' ha hsi hs h0 hk hx c0 c1 c2 c3 c4 c5 c7 hcl
   go_wp2_with fail
   refine hfi.mono ?_
   rintro e w2 ⟨rfl, hb2⟩
   obtain ⟨hcc, -⟩ := bcell hb2
   have HB2 : Hid (Below w.heap.size w w2) := hbw.out.trans (hb2.mono hbw.out.size)
   clear hb2
   go_wp2
   go_roundw
   case rel => exact ⟨s.parent, k + 1, rfl, by go_num, HP, HK, hk63, HB2⟩
   case measure => simp [intOf]; omega
end Go.Proofs.Ytmapmkogjhinmaa
/- The document: a handle's slot, its children, what lies around it. -/
namespace Go.Proofs.Ytmapmkogjhinmaa
open Go.RowKit
set_option linter.unusedVariables false
set_option linter.unusedSimpArgs false
attribute [local go_sem] Bel.cell Bel.fz
theorem bits_hnd (g i : Nat) (hg : g < 4294967296) (hi : i < 4294967295) : bits .or .u64 ((g : Int) * 4294967296) ((i : Int) + 1) = (hnd i g : Int) := by
 have h := bits_or_u64_nat (g * 4294967296) (i + 1) (by omega) (by omega)
 have e1 : ((g * 4294967296 : Nat) : Int) = (g : Int) * 4294967296 := by omega
 have e2 : ((i + 1 : Nat) : Int) = (i : Int) + 1 := by omega
 rw [e1, e2] at h
 rw [h]
 have := Nat.shiftLeft_add_eq_or_of_lt (b := i + 1) (i := 32) (by omega) g
 rw [Nat.shiftLeft_eq] at this
 unfold hnd
 rw [<- this]
theorem View.lst {w : World} {R : Nat -> Prop} {db : Nat} {D : Dc} (hv : View w R db D) {p : Nat} (hp : p = 0 \/ ∃ s, sl D p = some s) : ∃ a cap, (lst D p).length <= cap /\ HandsAt w R a (lst D p) /\
  ((p = 0 /\ w.cell? ⟨db, 1, none⟩ = some (.slice a (lst D p).length cap)) \/ (p ≠ 0 /\ ∃ i b o cap', atI D.S p = some i /\ i < D.S.length /\ w.cell? ⟨db, 0, none⟩ = some (.slice (some ⟨b, o, none⟩) D.S.length cap') /\ D.S.length <= cap' /\ R b /\ w.cell? ⟨b, o + i * 8 + 7, none⟩ = some (.slice a (lst D p).length cap))) := by
 rcases hp with rfl | ⟨s, hs⟩
 ·obtain ⟨a, cap, h1, h2, h3⟩ := hv.roots
  exact ⟨a, cap, h2, h3, .inl ⟨rfl, h1⟩⟩
 ·have h0 : p ≠ 0 := by rintro rfl; rw [sl_zero] at hs; cases hs
  obtain ⟨i, ha, hsi, _⟩ := sl_live hs
  obtain ⟨b, o, cap, aa, ac, ka, kc, h1, hcl, hbR, c0, c1, c2, c3, c4, c5, c6, c7, l1, l2, h3, h4⟩ := hv.slot hsi
  have e : Go.Proofs.Ytmapmkogjhinmaa.lst D p = s.kids := by simp [Go.Proofs.Ytmapmkogjhinmaa.lst, h0, hs]
  rw [e]
  exact ⟨ka, kc, l2, h4, .inr ⟨h0, i, b, o, cap, ha, (List.getElem?_eq_some_iff.1 hsi).1, h1, hcl, hbR, c7⟩⟩
end Go.Proofs.Ytmapmkogjhinmaa
/- The document: lists, levels, what lies within. -/
namespace Go.Proofs.Ytmapmkogjhinmaa
open Go.RowKit
set_option linter.unusedVariables false
set_option linter.unusedSimpArgs false
attribute [local go_sem] Bel.cell Bel.fz
end Go.Proofs.Ytmapmkogjhinmaa
/- A node and all within it, in plain. -/
namespace Go.Proofs.Ytmapmkogjhinmaa
open Go.RowKit
set_option linter.unusedVariables false
set_option linter.unusedSimpArgs false
def alls (D : Dc) : Nat -> Nat -> List Nat
 | 0, _ => []
 | k + 1, h => h :: (lst D h).flatMap (alls D k)
def allH (D : Dc) (h : Nat) : List Nat := alls D 64 h
theorem WF.kid {D : Dc} (hw : WF D) {lv : Nat -> Nat} (hl : Lev D lv) {p : Nat} {q : Sl} (hp : sl D p = some q) {c : Nat} (hc : c ∈ lst D p) : ∃ s, sl D c = some s /\ s.parent = p /\ lv c = lv p + 1 := by
 obtain ⟨s, h1, h2⟩ := hw.down p (.inr ⟨q, hp⟩) c hc
 refine ⟨s, h1, h2, ?_⟩
 have h0 : p ≠ 0 := by rintro rfl; rw [sl_zero] at hp; cases hp
 rcases hl.par h1 with ⟨h3, _⟩ | ⟨_, _, h4⟩
 ·rw [h2] at h3; exact absurd h3 h0
 ·rw [h4, h2]
theorem WF.root {D : Dc} (hw : WF D) {lv : Nat -> Nat} (hl : Lev D lv) {c : Nat} (hc : c ∈ D.roots) : ∃ s, sl D c = some s /\ s.parent = 0 /\ lv c = 0 := by
 obtain ⟨s, h1, h2⟩ := hw.down 0 (.inl rfl) c (by simpa [lst] using hc)
 refine ⟨s, h1, h2, ?_⟩
 rcases hl.par h1 with ⟨_, h4⟩ | ⟨q, h3, _⟩
 ·exact h4
 ·rw [h2, sl_zero] at h3; cases h3
theorem alls_ups {D : Dc} (hw : WF D) {lv : Nat -> Nat} (hl : Lev D lv) : ∀ (k : Nat) (h : Nat) (s : Sl), sl D h = some s -> ∀ x ∈ alls D k h, (∃ s', sl D x = some s') /\ h ∈ ups D x
 | 0, h, s, e, x, hx => by simp [alls] at hx
 | k + 1, h, s, e, x, hx => by
  rw [alls, List.mem_cons, List.mem_flatMap] at hx
  rcases hx with rfl | ⟨c, hc, hx⟩
  ·exact ⟨⟨s, e⟩, by rw [ups_step hl e]; simp⟩
  ·obtain ⟨s', h1, hp, _⟩ := hw.kid hl e hc
   obtain ⟨h2, h3⟩ := alls_ups hw hl k c s' h1 x hx
   refine ⟨h2, ?_⟩
   clear hx
   obtain ⟨sx, hsx⟩ := h2
   have key : ∀ (m : Nat) (y : Nat) (sy : Sl), sl D y = some sy -> lv y <= m -> c ∈ ups D y -> h ∈ ups D y := by
    intro m
    induction m with
    | zero =>
     intro y sy hy hm hcy
     rw [ups_step hl hy, List.mem_cons] at hcy
     rcases hcy with rfl | hcy
     ·rw [hy] at h1
      cases h1
      rw [ups_step hl hy, hp, ups_step hl e]
      simp
     ·rcases hl.par hy with ⟨h4, _⟩ | ⟨_, _, h5⟩
      ·rw [h4, ups_zero] at hcy; simp at hcy
      ·omega
    | succ m ih =>
     intro y sy hy hm hcy
     rw [ups_step hl hy, List.mem_cons] at hcy
     rcases hcy with rfl | hcy
     ·rw [hy] at h1
      cases h1
      rw [ups_step hl hy, hp, ups_step hl e]
      simp
     ·rw [ups_step hl hy]
      rcases hl.par hy with ⟨h4, _⟩ | ⟨q, h4, h5⟩
      ·rw [h4, ups_zero] at hcy; simp at hcy
      ·exact List.mem_cons_of_mem _ (ih _ q h4 (by omega) hcy)
   exact key (lv x) x sx hsx (Nat.le_refl _) h3
theorem ups_one {D : Dc} {lv : Nat -> Nat} (hl : Lev D lv) : ∀ (m : Nat) (x : Nat) (s : Sl), sl D x = some s -> lv x <= m -> (∀ y ∈ ups D x, lv y <= lv x) /\ ∀ y ∈ ups D x, ∀ z ∈ ups D x, lv y = lv z -> y = z
 | m, x, s, e, hm => by
  rw [ups_step hl e]
  rcases hl.par e with ⟨h1, h2⟩ | ⟨q, h1, h2⟩
  ·rw [h1, ups_zero]
   simp
  ·cases m with
   | zero => omega
   | succ m =>
    obtain ⟨i1, i2⟩ := ups_one hl m s.parent q h1 (by omega)
    refine ⟨fun y hy => ?_, fun y hy z hz hyz => ?_⟩
    ·rcases List.mem_cons.1 hy with rfl | hy
     ·exact Nat.le_refl _
     ·have := i1 y hy; omega
    ·rcases List.mem_cons.1 hy with h3 | h3
     ·rcases List.mem_cons.1 hz with h4 | h4
      ·rw [h3, h4]
      ·have := i1 z h4; rw [h3] at hyz; omega
     ·rcases List.mem_cons.1 hz with h4 | h4
      ·have := i1 y h3; rw [h4] at hyz; omega
      ·exact i2 y h3 z h4 hyz
theorem sib_nodup {D : Dc} (hw : WF D) {lv : Nat -> Nat} (hl : Lev D lv) {k : Nat} {l : List Nat} {m : Nat} (hn : l.Nodup) (hm : ∀ c ∈ l, ∃ s, sl D c = some s /\ lv c = m) (ih : ∀ c ∈ l, (alls D k c).Nodup) : (l.flatMap (alls D k)).Nodup := by
 unfold List.Nodup at *
 rw [List.pairwise_flatMap]
 refine ⟨ih, ?_⟩
 refine List.Pairwise.imp_of_mem (fun {a b} ha hb hab => ?_) hn
 intro x hx y hy he
 subst he
 obtain ⟨sa, h1, h2⟩ := hm a ha
 obtain ⟨sb, h3, h4⟩ := hm b hb
 obtain ⟨⟨s', hs'⟩, u1⟩ := alls_ups hw hl k a sa h1 x hx
 obtain ⟨_, u2⟩ := alls_ups hw hl k b sb h3 x hy
 exact hab ((ups_one hl (lv x) x s' hs' (Nat.le_refl _)).2 a u1 b u2 (by omega))
theorem alls_nodup {D : Dc} (hw : WF D) {lv : Nat -> Nat} (hl : Lev D lv) : ∀ (k : Nat) (h : Nat) (s : Sl), sl D h = some s -> (alls D k h).Nodup
 | 0, h, s, e => by simp [alls]
 | k + 1, h, s, e => by
  rw [alls, List.nodup_cons]
  refine ⟨fun hx => ?_, sib_nodup hw hl (m := lv h + 1) (hw.nodup h) (fun c hc => ?_) (fun c hc => ?_)⟩
  ·obtain ⟨c, hc, hx⟩ := List.mem_flatMap.1 hx
   obtain ⟨s', h1, _, h2⟩ := hw.kid hl e hc
   obtain ⟨_, u⟩ := alls_ups hw hl k c s' h1 h hx
   have := (ups_one hl (lv h) h s e (Nat.le_refl _)).1 c u
   omega
  ·obtain ⟨s', h1, _, h2⟩ := hw.kid hl e hc
   exact ⟨s', h1, h2⟩
  ·obtain ⟨s', h1, _, _⟩ := hw.kid hl e hc
   exact alls_nodup hw hl k c s' h1
def allR (D : Dc) : List Nat := D.roots.flatMap (allH D)
theorem allR_nodup {D : Dc} (hw : WF D) : (allR D).Nodup := by
 obtain ⟨lv, hl⟩ := hw.lev
 have hn := hw.nodup 0
 have e : lst D 0 = D.roots := by simp [lst]
 rw [e] at hn
 exact sib_nodup hw hl (m := 0) hn (fun c hc => by obtain ⟨s, h1, _, h2⟩ := hw.root hl hc; exact ⟨s, h1, h2⟩) (fun c hc => by obtain ⟨s, h1, _, _⟩ := hw.root hl hc; exact alls_nodup hw hl _ c s h1)
theorem allH_nodup {D : Dc} (hw : WF D) {h : Nat} {s : Sl} (e : sl D h = some s) : (allH D h).Nodup := by
 obtain ⟨lv, hl⟩ := hw.lev
 exact alls_nodup hw hl _ h s e
theorem allH_live {D : Dc} (hw : WF D) {h : Nat} {s : Sl} (e : sl D h = some s) : ∀ x ∈ allH D h, ∃ s', sl D x = some s' := by
 obtain ⟨lv, hl⟩ := hw.lev
 exact fun x hx => (alls_ups hw hl _ h s e x hx).1
theorem allR_live {D : Dc} (hw : WF D) : ∀ x ∈ allR D, ∃ s', sl D x = some s' := by
 obtain ⟨lv, hl⟩ := hw.lev
 intro x hx
 obtain ⟨c, hc, hx⟩ := List.mem_flatMap.1 hx
 obtain ⟨s, h1, _⟩ := hw.root hl hc
 exact allH_live hw h1 x hx
theorem nodup_len : ∀ (N : Nat) (L : List Nat), L.Nodup -> (∀ x ∈ L, x < N) -> L.length <= N
 | 0, L, _, h => by
  cases L with
  | nil => simp
  | cons a r => have := h a (by simp); omega
 | N + 1, L, hn, h => by
  have h1 := nodup_len N (L.erase N) (hn.erase N) (fun x hx => by
   have h2 := h x (List.mem_of_mem_erase hx)
   have h3 : x ≠ N := by rintro rfl; exact hn.not_mem_erase hx
   omega)
  by_cases hm : N ∈ L
  ·rw [List.length_erase_of_mem hm] at h1; omega
  ·rw [List.erase_of_not_mem hm] at h1; omega
theorem live_len {D : Dc} (hw : WF D) {L : List Nat} (hn : L.Nodup) (hl : ∀ x ∈ L, ∃ s, sl D x = some s) : L.length <= D.S.length := by
 have h1 : (L.map fun h => h % 4294967296 - 1).Nodup := by
  unfold List.Nodup
  rw [List.pairwise_map]
  refine List.Pairwise.imp_of_mem (fun {a b} ha hb hab => ?_) hn
  intro he
  obtain ⟨sa, h1⟩ := hl a ha
  obtain ⟨sb, h2⟩ := hl b hb
  obtain ⟨i, a1, a2, a3, a4⟩ := sl_live h1
  obtain ⟨j, b1, b2, b3, b4⟩ := sl_live h2
  obtain ⟨_, _, _, _, a5, _⟩ := atI_some a1
  obtain ⟨_, _, _, _, b5, _⟩ := atI_some b1
  rw [<- a5, <- b5] at he
  subst he
  rw [a2] at b2
  cases b2
  exact hab (a4.trans b4.symm)
 have h2 := nodup_len D.S.length _ h1 (fun x hx => by
  obtain ⟨h, hh, rfl⟩ := List.mem_map.1 hx
  obtain ⟨s, hs⟩ := hl h hh
  obtain ⟨i, a1, a2, _⟩ := sl_live hs
  obtain ⟨_, _, _, _, a5, _⟩ := atI_some a1
  have := (List.getElem?_eq_some_iff.1 a2).1
  omega)
 simpa using h2
end Go.Proofs.Ytmapmkogjhinmaa
/- A node and all within it: the program's gather and All. -/
namespace Go.Proofs.Ytmapmkogjhinmaa
open Go.RowKit
set_option linter.unusedVariables false
set_option linter.unusedSimpArgs false
def hvals (l : List Nat) : List Value := l.map fun h : Nat => .int .u64 (h : Int)
theorem hvals_length (l : List Nat) : (hvals l).length = l.length := by simp [hvals]
theorem hvals_append (l m : List Nat) : hvals (l ++ m) = hvals l ++ hvals m := by simp [hvals]
theorem hvals_one (l : List Nat) : ∀ u ∈ hvals l, u.oneCell' = true := by
 intro u hu
 obtain ⟨t, _, rfl⟩ := List.mem_map.1 hu
 rfl
theorem info42 : InfoOf Try.prog 67 (.int .u64 0) 1 8 := by unfold InfoOf; kernel_rfl
theorem own_after {w w' : World} {base : Nat} {e : TypeId} {size : Nat} {v : Value} {n : Nat} {xs : List Value} (h : w.ownsRow base e size v n xs) (hb : Below w.heap.size w w') : w'.ownsRow base e size v n xs :=
 own_of_block h (fun k hk => hb.block k (own_block_lt h k hk).2)
end Go.Proofs.Ytmapmkogjhinmaa
/- All: the program's and the document's. -/
namespace Go.Proofs.Ytmapmkogjhinmaa
open Go.RowKit
set_option linter.unusedVariables false
set_option linter.unusedSimpArgs false
theorem own_nil (w : World) (base : Nat) (e : TypeId) (size : Nat) : w.ownsRow base e size (.slice none 0 0) 0 [] := ⟨by simp, .inl ⟨rfl, rfl⟩⟩
theorem roots_len {D : Dc} (hw : WF D) : D.roots.length <= 4096 /\ (allR D).length <= 4096 := by
 have h1 := live_len hw (allR_nodup hw) (allR_live hw)
 have hl := hw.fits.len
 have hn := hw.nodup 0
 have e : lst D 0 = D.roots := by simp [lst]
 rw [e] at hn
 obtain ⟨lv, hlv⟩ := hw.lev
 have h2 := live_len hw hn (fun x hx => by obtain ⟨s, h, _⟩ := hw.root hlv hx; exact ⟨s, h⟩)
 omega
theorem kids_len {D : Dc} (hw : WF D) {h : Nat} {s : Sl} (e : sl D h = some s) : s.kids.length <= 4096 /\ (allH D h).length <= 4096 := by
 have h1 := live_len hw (allH_nodup hw e) (allH_live hw e)
 have hl := hw.fits.len
 have hn := hw.nodup h
 have h0 : h ≠ 0 := by rintro rfl; rw [sl_zero] at e; cases e
 have ek : lst D h = s.kids := by simp [lst, h0, e]
 obtain ⟨lv, hlv⟩ := hw.lev
 have h2 := live_len hw hn (fun x hx => by obtain ⟨s, h, _⟩ := hw.kid hlv e hx; exact ⟨s, h⟩)
 rw [ek] at h2
 omega
theorem lst_len {D : Dc} (hw : WF D) {p : Nat} (hp : p = 0 \/ ∃ s, sl D p = some s) : (lst D p).length <= 4096 := by
 rcases hp with rfl | ⟨s, hs⟩
 ·have := (roots_len hw).1
  simpa [lst] using this
 ·have h0 : p ≠ 0 := by rintro rfl; rw [sl_zero] at hs; cases hs
  have := (kids_len hw hs).1
  simpa [lst, h0, hs] using this
end Go.Proofs.Ytmapmkogjhinmaa
/- All, by the document. -/
namespace Go.Proofs.Ytmapmkogjhinmaa
open Go.RowKit
set_option linter.unusedVariables false
set_option linter.unusedSimpArgs false
theorem WF.ltz {D : Dc} (hw : WF D) {h : Nat} (hh : h = 0 \/ ∃ s, sl D h = some s) : h < 18446744073709551616 := by
 rcases hh with rfl | ⟨s, hs⟩
 ·omega
 ·exact (hw.lt hs).1
end Go.Proofs.Ytmapmkogjhinmaa
/- All of the document at its face; heights. -/
namespace Go.Proofs.Ytmapmkogjhinmaa
open Go.RowKit
set_option linter.unusedVariables false
set_option linter.unusedSimpArgs false
def hgts (D : Dc) : Nat -> Nat -> Nat
 | 0, _ => 0
 | k + 1, h => ((lst D h).map (hgts D k)).foldl max 0 + 1
def hgt (D : Dc) (h : Nat) : Nat := hgts D 64 h
theorem foldl_max_le (l : List Nat) (N a : Nat) (ha : a <= N) (h : ∀ x ∈ l, x <= N) : l.foldl max a <= N := by
 induction l generalizing a with
 | nil => exact ha
 | cons x r ih => exact ih (max a x) (by have := h x (by simp); omega) (fun y hy => h y (by simp [hy]))
theorem hgts_eq {D : Dc} (hw : WF D) {lv : Nat -> Nat} (hl : Lev D lv) : ∀ (k : Nat) (h : Nat) (s : Sl), sl D h = some s -> 64 - lv h <= k -> ∀ j, 64 - lv h <= j -> hgts D k h = hgts D j h
 | 0, h, s, e, hk => by have := (hl h s e).1; omega
 | k + 1, h, s, e, hk => by
  intro j hj
  cases j with
  | zero => have := (hl h s e).1; omega
  | succ j =>
   rw [hgts, hgts]
   have : (lst D h).map (hgts D k) = (lst D h).map (hgts D j) := List.map_congr_left fun c hc => by
    obtain ⟨s', h1, _, h2⟩ := hw.kid hl e hc
    exact hgts_eq hw hl k c s' h1 (by omega) j (by omega)
   rw [this]
theorem hgt_step {D : Dc} (hw : WF D) {h : Nat} {s : Sl} (e : sl D h = some s) : hgt D h = ((lst D h).map (hgt D)).foldl max 0 + 1 := by
 obtain ⟨lv, hl⟩ := hw.lev
 unfold hgt
 rw [hgts]
 have : (lst D h).map (hgts D 63) = (lst D h).map (hgts D 64) := List.map_congr_left fun c hc => by
  obtain ⟨s', h1, _, h2⟩ := hw.kid hl e hc
  exact hgts_eq hw hl 63 c s' h1 (by omega) 64 (by omega)
 rw [this]
end Go.Proofs.Ytmapmkogjhinmaa
