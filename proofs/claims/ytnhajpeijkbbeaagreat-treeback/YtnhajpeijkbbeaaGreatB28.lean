/- A tree that is read as data lies in memory as a tree. -/
import Derived.Test.YtnhajpeijkbbeaaGreatB27
import Derived.Test.YtnhajpeijkbbeaaGreatRows
import Derived.WalkKit
import Derived.ProofKit
import Derived.OpenShut
import Derived.ChangeOld
import Derived.SizedLaws
import Derived.Deep.Slices
import Derived.Test.YtnhajpeijkbbeaaGreatB19
import Derived.Test.YtnhajpeijkbbeaaGreatB13
import Derived.Test.YtnhajpeijkbbeaaGreatB12
import Derived.Test.YtnhajpeijkbbeaaGreatB22
namespace Go.Proofs.YtnhajpeijkbbeaaGreat
open Go.RowKit Go.Deep
set_option linter.unusedVariables false
set_option linter.unusedSimpArgs false
set_option maxRecDepth 100000
theorem cells46 : Tryz.prog.cellsOf 46 = 5 := by kernel_rfl
theorem cells128 : Tryz.prog.cellsOf 128 = 2 := by kernel_rfl
theorem cells3 : Tryz.prog.cellsOf 3 = 1 := by kernel_rfl
theorem cells9 : Tryz.prog.cellsOf 9 = 1 := by kernel_rfl
theorem cells43 : Tryz.prog.cellsOf 43 = 1 := by kernel_rfl
theorem cells44 : Tryz.prog.cellsOf 44 = 1 := by kernel_rfl
theorem bytes46 : Tryz.prog.bytesOf 46 = 88 := by kernel_rfl
theorem bytes128 : Tryz.prog.bytesOf 128 = 32 := by kernel_rfl
def Wt {H : Type} (t : TypeId) (d : DataW H) : Prop := ∀ y ∈ d.weights Tryz.prog t, y <= reachBytes
theorem wt_slice {H : Type} {t e : TypeId} {es sp : List (DataW H)} (hu : Tryz.prog.underlying t = some (.slice e)) (h : Wt t (.slice es sp)) : (es.length + sp.length) * Tryz.prog.bytesOf e <= reachBytes /\ ∀ d ∈ es, Wt e d := by
 unfold Wt at h
 simp only [DataW.weights, hu] at h
 refine ⟨h _ (by simp), fun d hd y hy => h y ?_⟩
 refine List.mem_cons_of_mem _ (List.mem_append_left _ ?_)
 clear h
 induction es with
 | nil => simp at hd
 | cons a r ih =>
  simp only [DataW.weightsAll, List.mem_append]
  rcases List.mem_cons.1 hd with rfl | hd
  ·exact .inl hy
  ·exact .inr (ih hd)
theorem wt_each {H : Type} : ∀ {ts : List TypeId} {ds : List (DataW H)}, (∀ y ∈ DataW.weightsEach Tryz.prog ts ds, y <= reachBytes) -> ∀ {j : Nat} {t : TypeId} {d : DataW H}, ts[j]? = some t -> ds[j]? = some d -> Wt t d
 | [], ds, h, j, t, d, ht, hd => by simp at ht
 | t0 :: ts, [], h, j, t, d, ht, hd => by simp at hd
 | t0 :: ts, d0 :: ds, h, j, t, d, ht, hd => by
  simp only [DataW.weightsEach, List.mem_append] at h
  cases j with
  | zero =>
   simp at ht hd
   subst ht hd
   exact fun y hy => h y (.inl hy)
  | succ j => exact wt_each (fun y hy => h y (.inr hy)) (j := j) (by simpa using ht) (by simpa using hd)
theorem listOf9 {α : Type} : ∀ (len : Nat) (p : Nat -> α -> Prop), (∀ i, i < len -> ∃ k, p i k) -> ∃ L : List α, L.length = len /\ ∀ i k, L[i]? = some k -> p i k
 | 0, p, h => ⟨[], rfl, fun i k hk => by simp at hk⟩
 | len + 1, p, h => by
  obtain ⟨L, hl, hL⟩ := listOf9 len p (fun i hi => h i (by omega))
  obtain ⟨x, hx⟩ := h len (by omega)
  refine ⟨L ++ [x], by simp [hl], fun i k hk => ?_⟩
  rcases Nat.lt_or_ge i len with hi | hi
  ·rw [List.getElem?_append_left (by omega)] at hk
   exact hL i k hk
  ·have : i = len := by
    have := (List.getElem?_eq_some_iff.1 hk).1
    simp at this
    omega
   subst this
   rw [List.getElem?_append_right (by omega), hl] at hk
   simp at hk
   subst hk
   exact hx
theorem slice_cells {H : Type} {enc : TypeId × Value -> H} {W : World} {held : Bool} {fuel : Nat} {t e : TypeId} {sz : Nat} {a : Option Addr} {len cap : Nat} {x : DataW H × List MemPlace} (hu : Tryz.prog.underlying t = some (.slice e)) (hc : Tryz.prog.cellsOf e = sz) (hsz : 0 < sz)
  (h : DataW.trod enc Tryz.prog W 0 (fun _ => true) held fuel t [.slice a len cap] = some x) (hw : Wt t x.1) : len <= cap /\ len * Tryz.prog.bytesOf e <= reachBytes /\ ∃ n, n + 1 <= fuel /\ ∀ i, i < len -> ∃ (b o : Nat) (cs : List Value) (y : DataW H × List MemPlace), a = some ⟨b, o, none⟩ /\ b < W.heap.size /\ cs.length = sz /\ (∀ j, j < sz -> W.cell? ⟨b, o + i * sz + j, none⟩ = cs[j]?) /\ DataW.trod enc Tryz.prog W 0 (fun _ => true) held n e cs = some y /\ Wt e y.1 := by
 rcases DataW.trod_slice hu h with ⟨hcs, hx⟩ | ⟨ad, l, c, elems, rest, n, hf, hcs, hx, hb, hl, hm, hlen, hel, hsp, _⟩
 ·simp at hcs
  obtain ⟨rfl, rfl, rfl⟩ := hcs
  refine ⟨Nat.le_refl _, by simp, 0, ?_, fun i hi => by omega⟩
  cases fuel with
  | zero => simp [DataW.trod] at h
  | succ n => omega
 ·simp at hcs
  obtain ⟨rfl, rfl, rfl⟩ := hcs
  subst hx
  obtain ⟨w1, w2⟩ := wt_slice hu hw
  simp only [List.length_map] at w1
  refine ⟨hl, Nat.le_trans (Nat.mul_le_mul_right _ (by omega)) w1, n, by omega, fun i hi => ?_⟩
  have h1 := hel i hi
  rw [List.getElem?_eq_getElem (by omega), hc] at h1
  obtain ⟨cs, h2, h3⟩ := Option.bind_eq_some_iff.1 h1
  obtain ⟨_, h4, h5⟩ := World.cells?_some h2
  have h6 := h5 0 hsz
  rw [List.getElem?_eq_getElem (by omega)] at h6
  have hspot : ad.spot = none := by
   have g1 := hel 0 (by omega)
   rw [List.getElem?_eq_getElem (by omega), hc] at g1
   obtain ⟨cs0, g2, _⟩ := Option.bind_eq_some_iff.1 g1
   obtain ⟨_, g4, g5⟩ := World.cells?_some g2
   have g6 := g5 0 hsz
   rw [List.getElem?_eq_getElem (by omega)] at g6
   simpa [Addr.add] using World.cell?_spot g6
  obtain ⟨b, o, spot⟩ := ad
  simp only at hspot
  subst hspot
  refine ⟨b, o, cs, elems[i], rfl, ?_, h4, fun j hj => ?_, h3, w2 _ (List.mem_map_of_mem (List.getElem_mem _))⟩
  ·rw [addr_plus, addr_plus] at h6
   exact World.block_lt_of_cell? W _ h6
  ·have := h5 j hj
   rw [addr_plus, addr_plus] at this
   exact this
theorem reach_a {n : Nat} (h : n * 32 <= reachBytes) : n <= maxA := by unfold reachBytes at h; unfold maxA; omega
theorem reach_k {n : Nat} (h : n * 88 <= reachBytes) : n <= maxK := by unfold reachBytes at h; unfold maxK; omega
theorem attrs_of {H : Type} {enc : TypeId × Value -> H} {W : World} {held : Bool} {fuel : Nat} {a : Option Addr} {len cap : Nat} {x : DataW H × List MemPlace} (h : DataW.trod enc Tryz.prog W 0 (fun _ => true) held fuel 43 [.slice a len cap] = some x) (hw : Wt 43 x.1) :
  ∃ l : List (ByteArray × ByteArray), l.length = len /\ len <= cap /\ len <= maxA /\ AttrsAt W 0 W.heap.size a l := by
 obtain ⟨h1, h2, n, _, h3⟩ := slice_cells Tryz.underlying43 cells128 (by decide) h hw
 rw [bytes128] at h2
 obtain ⟨l, hl, hL⟩ := listOf9 len (fun i (p : ByteArray × ByteArray) => ∃ (b o : Nat), a = some ⟨b, o, none⟩ /\ b < W.heap.size /\ W.cell? ⟨b, o + i * 2, none⟩ = some (.string p.1) /\ W.cell? ⟨b, o + i * 2 + 1, none⟩ = some (.string p.2)) (fun i hi => by
  obtain ⟨b, o, cs, y, e1, e2, e3, e4, e5, _⟩ := h3 i hi
  obtain ⟨xs, n', _, _, _, g4, g5⟩ := DataW.trod_struct Tryz.underlying128 e5
  have x2 : xs.length = 2 := g4
  have f0 : DataW.trod enc Tryz.prog W 0 (fun _ => true) held n' 9 ((cs.drop 0).take (Tryz.prog.cellsOf 9)) = xs[0]? := g5 0 _ rfl
  have f1 : DataW.trod enc Tryz.prog W 0 (fun _ => true) held n' 9 ((cs.drop 1).take (Tryz.prog.cellsOf 9)) = xs[1]? := g5 1 _ rfl
  rw [cells9, List.getElem?_eq_getElem (by omega)] at f0 f1
  obtain ⟨s0, q0, _⟩ := DataW.trod_string Tryz.underlying9 f0
  obtain ⟨s1, q1, _⟩ := DataW.trod_string Tryz.underlying9 f1
  obtain ⟨c0, c1, rfl⟩ : ∃ c0 c1, cs = [c0, c1] := by
   match cs, e3 with
   | [c0, c1], _ => exact ⟨c0, c1, rfl⟩
  simp at q0 q1
  subst q0 q1
  exact ⟨(s0, s1), b, o, e1, e2, e4 0 (by omega), e4 1 (by omega)⟩)
 refine ⟨l, hl, h1, reach_a h2, fun i p hp => ?_⟩
 obtain ⟨b, o, e1, e2, e3, e4⟩ := hL i p hp
 exact ⟨b, o, e1, Nat.zero_le _, e2, e3, e4⟩
theorem tree_of {H : Type} {enc : TypeId × Value -> H} {W : World} {held : Bool} : ∀ (N fuel : Nat) (cs : List Value) (x : DataW H × List MemPlace), fuel <= N -> DataW.trod enc Tryz.prog W 0 (fun _ => true) held fuel 46 cs = some x -> Wt 46 x.1 -> ∃ t : T N, TreeAt W 0 W.heap.size N cs.toArray t
 | 0, fuel, cs, x, hN, h, hw => by
  have : fuel = 0 := by omega
  subst this
  simp [DataW.trod] at h
 | N + 1, fuel, cs, x, hN, h, hw => by
  obtain ⟨xs, n', hf, rfl, hl, g4, g5⟩ := DataW.trod_struct Tryz.underlying46 h
  have x5 : xs.length = 5 := g4
  rw [cells46] at hl
  have f0 : DataW.trod enc Tryz.prog W 0 (fun _ => true) held n' 3 ((cs.drop 0).take (Tryz.prog.cellsOf 3)) = xs[0]? := g5 0 _ rfl
  have f1 : DataW.trod enc Tryz.prog W 0 (fun _ => true) held n' 9 ((cs.drop 1).take (Tryz.prog.cellsOf 9)) = xs[1]? := g5 1 _ rfl
  have f2 : DataW.trod enc Tryz.prog W 0 (fun _ => true) held n' 43 ((cs.drop 2).take (Tryz.prog.cellsOf 43)) = xs[2]? := g5 2 _ rfl
  have f3 : DataW.trod enc Tryz.prog W 0 (fun _ => true) held n' 9 ((cs.drop 3).take (Tryz.prog.cellsOf 9)) = xs[3]? := g5 3 _ rfl
  have f4 : DataW.trod enc Tryz.prog W 0 (fun _ => true) held n' 44 ((cs.drop 4).take (Tryz.prog.cellsOf 44)) = xs[4]? := g5 4 _ rfl
  have hww : ∀ y ∈ DataW.weightsEach Tryz.prog [3, 9, 43, 9, 44] (xs.map (·.1)), y <= reachBytes := by
   intro y hy
   refine hw y ?_
   simp only [DataW.weights, Tryz.underlying46]
   exact hy
  have w2 : Wt 43 (xs[2]'(by omega)).1 := wt_each hww (j := 2) rfl (by rw [List.getElem?_map, List.getElem?_eq_getElem (by omega)]; rfl)
  have w4 : Wt 44 (xs[4]'(by omega)).1 := wt_each hww (j := 4) rfl (by rw [List.getElem?_map, List.getElem?_eq_getElem (by omega)]; rfl)
  rw [List.getElem?_eq_getElem (by omega)] at f0 f1 f2 f3 f4
  rw [cells3] at f0
  rw [cells9] at f1 f3
  rw [cells43] at f2
  rw [cells44] at f4
  obtain ⟨c0, c1, c2, c3, c4, rfl⟩ : ∃ c0 c1 c2 c3 c4, cs = [c0, c1, c2, c3, c4] := by
   match cs, hl with
   | [c0, c1, c2, c3, c4], _ => exact ⟨c0, c1, c2, c3, c4, rfl⟩
  simp at f0 f1 f2 f3 f4
  obtain ⟨k, q0, _⟩ := DataW.trod_int Tryz.underlying3 f0
  obtain ⟨nm, q1, _⟩ := DataW.trod_string Tryz.underlying9 f1
  obtain ⟨tx, q3, _⟩ := DataW.trod_string Tryz.underlying9 f3
  simp at q0 q1 q3
  subst q0 q1 q3
  obtain ⟨a, al, ac, rfl⟩ : ∃ a al ac, c2 = .slice a al ac := by
   rcases DataW.trod_slice Tryz.underlying43 f2 with ⟨e, _⟩ | ⟨ad, l, c, _, _, _, _, e, _⟩
   ·simp at e; exact ⟨_, _, _, e⟩
   ·simp at e; exact ⟨_, _, _, e⟩
  obtain ⟨ka, kl, kc, rfl⟩ : ∃ a al ac, c4 = .slice a al ac := by
   rcases DataW.trod_slice Tryz.underlying44 f4 with ⟨e, _⟩ | ⟨ad, l, c, _, _, _, _, e, _⟩
   ·simp at e; exact ⟨_, _, _, e⟩
   ·simp at e; exact ⟨_, _, _, e⟩
  obtain ⟨l, rfl, la, lb, hat⟩ := attrs_of f2 w2
  obtain ⟨ka1, ka2, n, hn, hkid⟩ := slice_cells Tryz.underlying44 cells46 (by decide) f4 w4
  rw [bytes46] at ka2
  obtain ⟨L, rfl, hL⟩ := listOf9 kl (fun i (q : T N) => ∃ (b o : Nat) (u : Array Value), ka = some ⟨b, o, none⟩ /\ 0 <= b /\ b < W.heap.size /\ u.size = 5 /\ (∀ j, j < 5 -> W.cell? ⟨b, o + i * 5 + j, none⟩ = u[j]?) /\ TreeAt W 0 W.heap.size N u q) (fun i hi => by
   obtain ⟨b, o, cs, y, e1, e2, e3, e4, e5, e6⟩ := hkid i hi
   obtain ⟨q, hq⟩ := tree_of N n cs y (by omega) e5 e6
   exact ⟨q, b, o, cs.toArray, e1, Nat.zero_le _, e2, by simpa using e3, fun j hj => by rw [e4 j hj]; simp, hq⟩)
  exact ⟨({ kind := k, name := nm, attrs := l, text := tx, kids := L } : Nd (T N)), a, ac, ka, kc, rfl, lb, reach_k ka2, la, ka1, hat, hL⟩
theorem cells48 : Tryz.prog.cellsOf 48 = 12 := by kernel_rfl
theorem bytes48 : Tryz.prog.bytesOf 48 = 160 := by kernel_rfl
theorem cells4 : Tryz.prog.cellsOf 4 = 1 := by kernel_rfl
theorem cells42 : Tryz.prog.cellsOf 42 = 1 := by kernel_rfl
theorem u64_of {n : Int} (h : (Lit.int .u64 n).wf = true) : ∃ m : Nat, n = (m : Int) /\ m < 18446744073709551616 := by
 have hb := bounds_u64 h
 exact ⟨n.toNat, by omega, by omega⟩
theorem act_form {H : Type} {enc : TypeId × Value -> H} {W : World} {held : Bool} {fuel : Nat} {cs : List Value} {x : DataW H × List MemPlace} (h : DataW.trod enc Tryz.prog W 0 (fun _ => true) held fuel 48 cs = some x) (hw : Wt 48 x.1) (hl : cs.length = 12) : ∃ k wh how n a nm vl xk xn xa xal xac xt xka xkl xkc, n < 18446744073709551616 /\ a < 18446744073709551616 /\ cs = (actv k wh how n a nm vl xk xn xa xal xac xt xka xkl xkc).toList /\ ∃ (m : Nat) (t : T m), TreeAt W 0 W.heap.size m #[.int .i64 xk, .string xn, .slice xa xal xac, .string xt, .slice xka xkl xkc] t := by
 obtain ⟨xs, n', hf, rfl, _, g4, g5⟩ := DataW.trod_struct Tryz.underlying48 h
 have x8 : xs.length = 8 := g4
 have f0 : DataW.trod enc Tryz.prog W 0 (fun _ => true) held n' 3 ((cs.drop 0).take (Tryz.prog.cellsOf 3)) = xs[0]? := g5 0 _ rfl
 have f1 : DataW.trod enc Tryz.prog W 0 (fun _ => true) held n' 3 ((cs.drop 1).take (Tryz.prog.cellsOf 3)) = xs[1]? := g5 1 _ rfl
 have f2 : DataW.trod enc Tryz.prog W 0 (fun _ => true) held n' 4 ((cs.drop 2).take (Tryz.prog.cellsOf 4)) = xs[2]? := g5 2 _ rfl
 have f3 : DataW.trod enc Tryz.prog W 0 (fun _ => true) held n' 42 ((cs.drop 3).take (Tryz.prog.cellsOf 42)) = xs[3]? := g5 3 _ rfl
 have f4 : DataW.trod enc Tryz.prog W 0 (fun _ => true) held n' 42 ((cs.drop 4).take (Tryz.prog.cellsOf 42)) = xs[4]? := g5 4 _ rfl
 have f5 : DataW.trod enc Tryz.prog W 0 (fun _ => true) held n' 9 ((cs.drop 5).take (Tryz.prog.cellsOf 9)) = xs[5]? := g5 5 _ rfl
 have f6 : DataW.trod enc Tryz.prog W 0 (fun _ => true) held n' 9 ((cs.drop 6).take (Tryz.prog.cellsOf 9)) = xs[6]? := g5 6 _ rfl
 have f7 : DataW.trod enc Tryz.prog W 0 (fun _ => true) held n' 46 ((cs.drop 7).take (Tryz.prog.cellsOf 46)) = xs[7]? := g5 7 _ rfl
 have hww : ∀ y ∈ DataW.weightsEach Tryz.prog [3, 3, 4, 42, 42, 9, 9, 46] (xs.map (·.1)), y <= reachBytes := by
  intro y hy
  refine hw y ?_
  simp only [DataW.weights, Tryz.underlying48]
  exact hy
 have w7 : Wt 46 (xs[7]'(by omega)).1 := wt_each hww (j := 7) rfl (by rw [List.getElem?_map, List.getElem?_eq_getElem (by omega)]; rfl)
 rw [List.getElem?_eq_getElem (by omega)] at f0 f1 f2 f3 f4 f5 f6 f7
 rw [cells3] at f0 f1
 rw [cells4] at f2
 rw [cells42] at f3 f4
 rw [cells9] at f5 f6
 rw [cells46] at f7
 obtain ⟨c0, c1, c2, c3, c4, c5, c6, c7, c8, c9, c10, c11, rfl⟩ : ∃ c0 c1 c2 c3 c4 c5 c6 c7 c8 c9 c10 c11, cs = [c0, c1, c2, c3, c4, c5, c6, c7, c8, c9, c10, c11] := by
  match cs, hl with
  | [c0, c1, c2, c3, c4, c5, c6, c7, c8, c9, c10, c11], _ => exact ⟨c0, c1, c2, c3, c4, c5, c6, c7, c8, c9, c10, c11, rfl⟩
 simp at f0 f1 f2 f3 f4 f5 f6 f7
 obtain ⟨k, q0, _⟩ := DataW.trod_int Tryz.underlying3 f0
 obtain ⟨wh, q1, _⟩ := DataW.trod_int Tryz.underlying3 f1
 obtain ⟨how, q2, _⟩ := DataW.trod_bool Tryz.underlying4 f2
 obtain ⟨n, q3, _, hn⟩ := DataW.trod_int Tryz.underlying42 f3
 obtain ⟨a, q4, _, ha⟩ := DataW.trod_int Tryz.underlying42 f4
 obtain ⟨nm, q5, _⟩ := DataW.trod_string Tryz.underlying9 f5
 obtain ⟨vl, q6, _⟩ := DataW.trod_string Tryz.underlying9 f6
 simp at q0 q1 q2 q3 q4 q5 q6
 subst q0 q1 q2 q3 q4 q5 q6
 obtain ⟨n, rfl, hn9⟩ := u64_of hn
 obtain ⟨a, rfl, ha9⟩ := u64_of ha
 obtain ⟨t, ht⟩ := tree_of n' n' _ _ (Nat.le_refl _) f7 w7
 obtain ⟨xk, xn, xa, xal, xac, xt, xka, xkl, xkc, e⟩ := ht.toR.form
 simp at e
 obtain ⟨rfl, rfl, rfl, rfl, rfl⟩ := e
 exact ⟨k, wh, how, n, a, nm, vl, xk, xn, xa, xal, xac, xt, xka, xkl, xkc, hn9, ha9, rfl, n', t, ht⟩
theorem act_of {H : Type} {enc : TypeId × Value -> H} {W : World} {held : Bool} {fuel : Nat} {cs : List Value} {x : DataW H × List MemPlace} {b o : Nat} (h : DataW.trod enc Tryz.prog W 0 (fun _ => true) held fuel 48 cs = some x) (hw : Wt 48 x.1) (hl : cs.length = 12) (hc : ∀ j, j < 12 -> W.cell? ⟨b, o + j, none⟩ = cs[j]?) : ActAt W W.heap.size b o := by
 obtain ⟨k, wh, how, n, a, nm, vl, xk, xn, xa, xal, xac, xt, xka, xkl, xkc, g1, g2, rfl, m, t, ht⟩ := act_form h hw hl
 exact ⟨k, wh, how, n, a, nm, vl, xk, xn, xa, xal, xac, xt, xka, xkl, xkc, g1, g2, fun j hj => by rw [hc j hj]; simp, m, t, ht⟩
theorem acts_of {H : Type} {enc : TypeId × Value -> H} {W : World} {held : Bool} {fuel : Nat} {a : Option Addr} {len cap : Nat} {x : DataW H × List MemPlace} (h : DataW.trod enc Tryz.prog W 0 (fun _ => true) held fuel 26 [.slice a len cap] = some x) (hw : Wt 26 x.1) : ActsAt W W.heap.size a len /\ len < 4611686018427387904 := by
 obtain ⟨h1, h2, n, _, h3⟩ := slice_cells Tryz.underlying26 cells48 (by decide) h hw
 rw [bytes48] at h2
 refine ⟨fun i hi => ?_, by unfold reachBytes at h2; omega⟩
 obtain ⟨b, o, cs, y, e1, e2, e3, e4, e5, e6⟩ := h3 i hi
 exact ⟨b, o, e1, e2, act_of e5 e6 e3 e4⟩
end Go.Proofs.YtnhajpeijkbbeaaGreat
/- There and back, in plain: a tree that was put in stands there. -/
namespace Go.Proofs.YtnhajpeijkbbeaaGreat
open Go.RowKit
set_option linter.unusedVariables false
set_option linter.unusedSimpArgs false
def HoldT (E : Dc) (P : Nat -> Prop) : (n : Nat) -> T n -> Nat -> Prop
 | 0, _, _ => False
 | n + 1, t, h => P h /\ ∃ s, sl E h = some s /\ s.kind = (t : Nd (T n)).kind /\ (s.kind = 2 -> s.text = (t : Nd (T n)).text) /\ (s.kind ≠ 2 -> s.kind = 1 /\ s.name = (t : Nd (T n)).name /\ s.attrs = (t : Nd (T n)).attrs) /\ (kidsT (t : Nd (T n))).length = s.kids.length /\ ∀ (i : Nat) (k : T n) (c : Nat), (kidsT (t : Nd (T n)))[i]? = some k -> s.kids[i]? = some c -> HoldT E P n k c
theorem HoldT.mono {E E' : Dc} {P P' : Nat -> Prop} (hP : ∀ x, P x -> P' x) (hs : ∀ x, P x -> sl E' x = sl E x) : ∀ (n : Nat) (t : T n) (h : Nat), HoldT E P n t h -> HoldT E' P' n t h
 | 0, _, _, h => h.elim
 | n + 1, t, h, H => by
  obtain ⟨h1, s, h2, h3, h4, h5, h6, h7⟩ := H
  exact ⟨hP _ h1, s, (hs _ h1).trans h2, h3, h4, h5, h6, fun i k c hk hc => HoldT.mono hP hs n k c (h7 i k c hk hc)⟩
theorem grow_hold : ∀ (n : Nat) (t : T n) (p : Nat) (D : Dc), Sane D -> cnt takenB D.S + ndT n t <= 4096 -> (p = 0 \/ ∃ q, sl D p = some q) -> okT n t ->
  ∃ N, Grown D (growD n t p D).1 p N [(growD n t p D).2] (ndT n t) (htT n t) /\ HoldT (growD n t p D).1 (fun x => x ∈ N) n t (growD n t p D).2 := by
 intro n
 induction n with
 | zero => intro t; cases t
 | succ n ih =>
  intro t p D hs hc hp hok
  have hlist : ∀ (l : List (T n)) (h : Nat) (D : Dc), Sane D -> cnt takenB D.S + (l.map (ndT n)).sum <= 4096 -> (h = 0 \/ ∃ q, sl D h = some q) -> (∀ k ∈ l, okT n k) ->
    ∃ N, Grown D (growK (growD n) h l D).1 h N (growK (growD n) h l D).2 (l.map (ndT n)).sum ((l.map (htT n)).foldl max 0) /\ l.length = (growK (growD n) h l D).2.length /\
     ∀ (i : Nat) (k : T n) (c : Nat), l[i]? = some k -> (growK (growD n) h l D).2[i]? = some c -> HoldT (growK (growD n) h l D).1 (fun x => x ∈ N) n k c := by
   intro l
   induction l with
   | nil =>
    intro h D hs _ _ _
    exact ⟨[], Grown.none hs h, rfl, fun i k c hk => by simp at hk⟩
   | cons k r ihl =>
    intro h D hs hc hh hk
    simp only [List.map_cons, List.sum_cons] at hc
    obtain ⟨N1, g1, o1⟩ := ih k h D hs (by omega) hh (hk k (by simp))
    have hh1 : h = 0 \/ ∃ q, sl (growD n k h D).1 h = some q := hh.imp id (fun ⟨q, hq⟩ => ⟨q, by
     rw [g1.old h (fun e => ?_)]
     ·exact hq
     ·have := (g1.new h e).1
      rw [hq] at this
      cases this⟩)
    obtain ⟨N2, g2, e2, o2⟩ := ihl h (growD n k h D).1 g1.sane (by rw [g1.tk]; omega) hh1 (fun x hx => hk x (by simp [hx]))
    refine ⟨N1 ++ N2, ?_, by simp [growK, e2], fun i k' c hk' hc' => ?_⟩
    ·have := g1.cons g2
     rw [List.map_cons, List.sum_cons, List.map_cons, foldl_max_cons]
     exact this
    ·cases i with
     | zero =>
      simp only [List.getElem?_cons_zero, Option.some.injEq] at hk' hc'
      subst hk'
      have hc2 : (growD n k h D).2 = c := by simpa [growK] using hc'
      rw [<- hc2]
      refine HoldT.mono (fun x hx => List.mem_append.2 (.inl hx)) (fun x hx => g2.old x (fun h2 => ?_)) n k _ o1
      obtain ⟨s, h3, _⟩ := g1.kids x hx
      rw [(g2.new x h2).1] at h3
      cases h3
     | succ i =>
      simp only [List.getElem?_cons_succ] at hk'
      have hc2 : (growK (growD n) h r (growD n k h D).1).2[i]? = some c := by simpa [growK] using hc'
      exact HoldT.mono (fun x hx => List.mem_append.2 (.inr hx)) (fun _ _ => rfl) n k' c (o2 i k' c hk' hc2)
  have hnd : ndT (n + 1) t = ((kidsT t).map (ndT n)).sum + 1 := rfl
  rw [hnd] at hc
  obtain ⟨ho, hks⟩ := hok
  obtain ⟨s1, s2, s3, s4, s5, s6, s7, s8, s9, s10⟩ := seed_facts hs (by omega) t p ho
  have hsl : sl (seed D t p) (seedH D) = some (mkS (genAt (freeD D).2 (freeD D).1 + 1) t p []) := by unfold sl; rw [s6]; exact s7
  obtain ⟨N, g, el, oh⟩ := hlist (kidsT t) (seedH D) (seed D t p) s1 (by rw [s3]; omega) (.inr ⟨_, hsl⟩) hks
  obtain ⟨g1, g2, g3, g4⟩ := Grown.node hs (by omega) t p hp ho g (fun h2 => by
   have : kidsT t = [] := by unfold kidsT; rw [if_neg (by omega)]
   rw [this]
   rfl)
  have hN : seedH D ∉ N := fun e => by
   have := (g.new _ e).1
   rw [hsl] at this
   cases this
  have hsl2 := fun x => sl_setS (s' := { mkS (genAt (freeD D).2 (freeD D).1 + 1) t p [] with kids := (growK (growD n) (seedH D) (kidsT t) (seed D t p)).2 }) g4 rfl rfl x
  have e1 : (growD (n + 1) t p D).1 = setS (growK (growD n) (seedH D) (kidsT t) (seed D t p)).1 (freeD D).1 { mkS (genAt (freeD D).2 (freeD D).1 + 1) t p [] with kids := (growK (growD n) (seedH D) (kidsT t) (seed D t p)).2 } := by
   show setKI _ _ _ = _
   exact setKI_some g4 _
  rw [<- e1] at hsl2
  refine ⟨seedH D :: N, g1, by simp [growD], { mkS (genAt (freeD D).2 (freeD D).1 + 1) t p [] with kids := (growK (growD n) (seedH D) (kidsT t) (seed D t p)).2 }, (hsl2 _).trans (if_pos g3), rfl, fun h2 => ?_, fun h2 => ?_, el, fun i k c hk hc' => ?_⟩
  ·have h2' : t.kind = 2 := h2
   simp [mkS, h2']
  ·have h2' : t.kind ≠ 2 := h2
   have := (mkS_own (g := 0) (p := 0) (ks := []) ho).2
   exact ⟨by show t.kind = 1; omega, by simp [mkS, h2'], by simp [mkS, h2']⟩
  ·refine HoldT.mono (fun x hx => List.mem_cons_of_mem _ hx) (fun x hx => ?_) n k c (oh i k c hk hc')
   refine (hsl2 x).trans (if_neg (fun e => hN ?_))
   rw [<- at_same g3 e]
   exact hx
theorem ins_hold {D : Dc} (hw : WF D) {wh : Int} {a n : Nat} {t : T n} (h : insE D wh a n t = 0) : HoldT (insD D wh a n t).1 (fun x => x ≠ 0) n t (insD D wh a n t).2 := by
 obtain ⟨h1, h2, h3, h4, h5⟩ := insE_ok h
 obtain ⟨o1, o2, o3⟩ := chk_ok n t 1 0 (by omega) (by omega) (by omega) h2
 obtain ⟨N, g, o⟩ := grow_hold n t (placeE D wh a).1 D hw.sane h5 (placeE_live hw h3).1 o1
 obtain ⟨_, _, s, k1, k2⟩ := ins_grown hw h
 unfold insD
 rw [if_pos h]
 show HoldT (putD _ _ _ _ _) _ _ _ _
 rw [putD_same k1 k2]
 refine HoldT.mono (fun x hx => (g.new x hx).2) (fun x hx => ?_) n t _ o
 exact sl_setL_ne (fun e => g.notin (placeE_live hw h3).1 (e ▸ hx))
def EqT : (n m : Nat) -> T n -> T m -> Prop
 | 0, _, _, _ => False
 | _ + 1, 0, _, _ => False
 | n + 1, m + 1, t, u => (t : Nd (T n)).kind = (u : Nd (T m)).kind /\ ((t : Nd (T n)).kind = 2 -> (t : Nd (T n)).text = (u : Nd (T m)).text) /\ ((t : Nd (T n)).kind ≠ 2 -> (t : Nd (T n)).name = (u : Nd (T m)).name /\ (t : Nd (T n)).attrs = (u : Nd (T m)).attrs /\ (t : Nd (T n)).kids.length = (u : Nd (T m)).kids.length /\
   ∀ (i : Nat) (a : T n) (b : T m), (t : Nd (T n)).kids[i]? = some a -> (u : Nd (T m)).kids[i]? = some b -> EqT n m a b)
theorem htT_pos : ∀ (n : Nat) (t : T n), 1 <= htT n t
 | 0, t => by cases t
 | n + 1, t => by rw [htT]; omega
theorem hold_eq {E : Dc} {P : Nat -> Prop} (hP : ∀ x, P x -> x ≠ 0) : ∀ (n m : Nat) (t : T n) (h : Nat), HoldT E P n t h -> htT n t <= m + 1 -> EqT (m + 1) n (subT E m h) t
 | 0, _, _, _, h, _ => h.elim
 | n + 1, m, t, h, H, hm => by
  obtain ⟨h1, s, h2, h3, h4, h5, h6, h7⟩ := H
  have hs : slD E h = s := by simp [slD, h2]
  have hht : htT (n + 1) t = ((kidsT (t : Nd (T n))).map (htT n)).foldl max 0 + 1 := rfl
  have hle : ∀ k ∈ kidsT (t : Nd (T n)), htT n k <= m := fun k hk => by
   have := (foldl_max_ge ((kidsT (t : Nd (T n))).map (htT n)) 0).2 (htT n k) (List.mem_map_of_mem hk)
   omega
  have hks : s.kind ≠ 2 -> kidsT (t : Nd (T n)) = (t : Nd (T n)).kids := fun e => by
   unfold kidsT
   rw [if_pos (h3 ▸ (h5 e).1)]
  unfold EqT subT mkN
  rw [hs]
  refine ⟨h3, h4, fun e => ⟨(h5 e).2.1, (h5 e).2.2, ?_⟩⟩
  cases m with
  | zero =>
   have hnil : kidsT (t : Nd (T n)) = [] := List.eq_nil_iff_forall_not_mem.2 (fun k hk => by have := hle k hk; have := htT_pos n k; omega)
   rw [<- hks e, hnil]
   exact ⟨rfl, fun i a b ha => by simp [kidT] at ha⟩
  | succ m =>
   have hl : lst E h = s.kids := lst_of h2
   rw [<- hks e]
   have hkm : kidT E (m + 1) h = s.kids.map (fun c => subT E m c) := by rw [kidT, hl]; rfl
   refine ⟨?_, fun i a b ha hb => ?_⟩
   ·show (kidT E (m + 1) h).length = _
    rw [hkm, List.length_map]
    exact h6.symm
   have ha' : (kidT E (m + 1) h)[i]? = some a := ha
   rw [hkm, List.getElem?_map] at ha'
   obtain ⟨c, hc, rfl⟩ := Option.map_eq_some_iff.1 ha'
   exact hold_eq hP n m b c (h7 i b c hb hc) (hle b (List.mem_of_getElem? hb))
end Go.Proofs.YtnhajpeijkbbeaaGreat
/- A node moved away and back, under itself, taken away: in plain. -/
namespace Go.Proofs.YtnhajpeijkbbeaaGreat
open Go.RowKit
set_option linter.unusedVariables false
set_option linter.unusedSimpArgs false
theorem set_same {S : List Sl} {i : Nat} {s : Sl} (h : S[i]? = some s) : S.set i s = S := by
 apply List.ext_getElem?
 intro j
 by_cases e : i = j
 ·subst e
  rw [List.getElem?_set_self (List.getElem?_eq_some_iff.1 h).1, h]
 ·rw [List.getElem?_set_ne e]
theorem at_idx {S S' : List Sl} {h i j : Nat} (ha : atI S h = some i) (hb : atI S' h = some j) : j = i := by
 obtain ⟨_, -, -, -, e1, -⟩ := atI_some ha
 obtain ⟨_, -, -, -, e2, -⟩ := atI_some hb
 rw [e1, e2]
theorem setL_twice {D : Dc} {p : Nat} {l m : List Nat} (hp : p = 0 \/ ∃ s, sl D p = some s) : setL (setL D p l) p m = setL D p m := by
 rcases hp with rfl | ⟨s, hs⟩
 ·simp [setL_zero]
 ·have h0 : p ≠ 0 := by rintro rfl; rw [sl_zero] at hs; cases hs
  obtain ⟨i, ha, hi⟩ := sl_some hs
  obtain ⟨i', ha', hi'⟩ := sl_some (sl_setL_eq (l' := l) hs)
  obtain rfl := at_idx ha ha'
  rw [setL_some h0 ha' hi', setL_some h0 ha hi, setL_some h0 ha hi]
  simp [List.set_set]
theorem setL_id {D : Dc} {p : Nat} (hp : p = 0 \/ ∃ s, sl D p = some s) : setL D p (lst D p) = D := by
 rcases hp with rfl | ⟨s, hs⟩
 ·simp [setL_zero, lst]
 ·have h0 : p ≠ 0 := by rintro rfl; rw [sl_zero] at hs; cases hs
  obtain ⟨i, ha, hi⟩ := sl_some hs
  rw [setL_some h0 ha hi, lst_of hs]
  show { D with S := D.S.set i s } = D
  rw [set_same hi]
theorem setPar_twice {D : Dc} {n p q : Nat} {s : Sl} (hs : sl D n = some s) : setPar (setPar D n p) n q = setPar D n q := by
 have hs' : sl (setPar D n p) n = some { s with parent := p } := by rw [sl_setPar hs, if_pos rfl]
 obtain ⟨i, ha, hi, e⟩ := setPar_of (p := p) hs
 obtain ⟨i2, ha2, hi2, e2⟩ := setPar_of (p := q) hs
 obtain ⟨i', ha', hi', e'⟩ := setPar_of (p := q) hs'
 obtain rfl := at_idx ha ha2
 obtain rfl := at_idx ha2 ha'
 rw [e', e, e2]
 simp [setS, List.set_set]
theorem par_setL {D : Dc} {p : Nat} {l : List Nat} (y : Nat) : par (setL D p l) y = par D y := by
 unfold par
 cases e : sl D y with
 | some t =>
  obtain ⟨t', h1, h2⟩ := sl_setL_into (p := p) (l' := l) e
  rw [h1]
  exact h2
 | none =>
  cases e' : sl (setL D p l) y with
  | none => rfl
  | some t' =>
   obtain ⟨t, h1, -⟩ := sl_setL_from e'
   rw [e] at h1
   cases h1
theorem chain_congr {D E : Dc} {h : Nat} (hp : ∀ y, y ≠ h -> par E y = par D y) : ∀ (k x : Nat), h ∉ chain D k x -> chain E k x = chain D k x
 | 0, _, _ => rfl
 | k + 1, x, hx => by
  rw [chain, chain]
  by_cases e : x = 0
  ·rw [if_pos e, if_pos e]
  ·rw [chain, if_neg e] at hx
   rw [if_neg e, if_neg e, hp x (fun e' => hx (by simp [e'])), chain_congr hp k _ (fun h' => hx (by simp [h']))]
theorem hgts_congr {D E : Dc} {A : List Nat} (hA : ∀ x ∈ A, lst E x = lst D x /\ ∀ c ∈ lst D x, c ∈ A) : ∀ (k x : Nat), x ∈ A -> hgts E k x = hgts D k x
 | 0, _, _ => rfl
 | k + 1, x, hx => by
  rw [hgts, hgts, (hA x hx).1, List.map_congr_left (fun c hc => hgts_congr hA k c ((hA x hx).2 c hc))]
theorem mov_cycle {E : Dc} (hw : WF E) {h x : Nat} {s : Sl} (hs : sl E h = some s) (hx : x ∈ allH E h) {wh : Int} (hwh : 1 <= wh /\ wh <= 4) : movD E h wh x = (E, 34) := by
 obtain ⟨lv, hl⟩ := hw.lev
 obtain ⟨⟨t, ht⟩, hup⟩ := alls_ups hw hl 64 h s hs x hx
 have h0 : x ≠ 0 := by rintro rfl; rw [sl_zero] at ht; cases ht
 have hpl : ¬ isPlaceB wh x = false := by
  unfold isPlaceB
  have : wh = 1 \/ wh = 2 \/ ((wh = 3 \/ wh = 4) /\ x ≠ 0) := by omega
  simp [this]
 have h8 : (placeE E wh x).2 ≠ 8 := by
  unfold placeE
  rw [if_neg h0, ht]
  simp only
  split
  ·split <;> simp
  ·simp
 unfold movD
 rw [if_neg hpl, hs]
 simp only
 rw [if_neg h8, if_pos (by simpa using hup)]
theorem idx_nodup {l : List Nat} {h k : Nat} (hn : l.Nodup) (hk : l[k]? = some h) : idxH l h = (k : Int) :=
 idxH_of hk (fun j x hj hx e => by
  subst e
  have := (List.getElem?_inj (List.getElem?_eq_some_iff.1 hx).1 hn).1 (hx.trans hk.symm)
  omega)
theorem mov_away {E : Dc} (hw : WF E) {h : Nat} {s : Sl} (hs : sl E h = some s) {k : Nat} (hk : (lst E s.parent)[k]? = some h) :
  movD E h 1 0 = (setPar (setL (setL E s.parent ((lst E s.parent).take k ++ (lst E s.parent).drop (k + 1))) 0 (h :: lst (setL E s.parent ((lst E s.parent).take k ++ (lst E s.parent).drop (k + 1))) 0)) h 0, 0) := by
 have hi := idx_nodup (hw.nodup _) hk
 have ho : outD E h s = setL E s.parent ((lst E s.parent).take k ++ (lst E s.parent).drop (k + 1)) := by
  unfold outD
  rw [hi]
  simp
 have hpl : placeE E 1 0 = (0, 0) := by simp [placeE]
 have hg : hgt E h <= 64 := hgts_le E 64 h
 unfold movD
 rw [if_neg (by simp [isPlaceB]), hs]
 simp only [hpl]
 rw [if_neg (by decide), if_neg (by simp [ups_zero]), if_neg (by decide), if_neg (by rw [ups_zero]; simp; omega), ho]
 unfold putD ins whereN
 simp
theorem mov_back {E : Dc} (hw : WF E) {h : Nat} {s : Sl} (hs : sl E h = some s) {k : Nat} (hk : (lst E s.parent)[k]? = some h) {wh : Int} {a : Nat}
  (hc : (wh = 3 /\ (lst E s.parent)[k + 1]? = some a) \/ (wh = 2 /\ a = s.parent /\ (lst E s.parent).length = k + 1)) : movD (movD E h 1 0).1 h wh a = (E, 0) := by
 obtain ⟨lv, hl⟩ := hw.lev
 have h0 : h ≠ 0 := by rintro rfl; rw [sl_zero] at hs; cases hs
 have hpl : s.parent = 0 \/ ∃ q, sl E s.parent = some q := (dep_par hl hs).2
 have hhp : h ≠ s.parent := fun e => by
  rcases hl.par hs with ⟨h1, _⟩ | ⟨p, h1, h2⟩
  ·exact h0 (e.trans h1)
  ·rw [<- e] at h2; omega
 have hup : h ∉ ups E s.parent := fun e => by
  rcases hpl with e0 | ⟨q, hq⟩
  ·rw [e0, ups_zero] at e; cases e
  ·have h3 := (ups_one hl _ s.parent q hq (Nat.le_refl _)).1 h e
   rcases hl.par hs with ⟨h1, _⟩ | ⟨p, h1, h2⟩
   ·rw [h1, sl_zero] at hq; cases hq
   ·omega
 have hfit : (ups E s.parent).length + hgt E h <= 64 := by
  have h1 := hgts_eq hw hl 64 h s hs (by omega) (64 - lv h) (by omega)
  have h2 := hgts_le E (64 - lv h) h
  have h3 := ups_length hl hpl
  have h4 := (dep_par hl hs).1
  have h5 : dep lv h = lv h + 1 := by simp [dep, h0]
  have h6 := (hl h s hs).1
  unfold hgt
  omega
 have hnod := hw.nodup s.parent
 have hkl := (List.getElem?_eq_some_iff.1 hk).1
 obtain ⟨c1, c2⟩ := cut_facts hnod hk
 rw [mov_away hw hs hk]
 have hkids : ∀ q, sl E s.parent = some q -> q.kind ≠ 2 := fun q hq e => by
  obtain ⟨i, -, h2, h3, -⟩ := sl_live hq
  have := ((hw.used i q h2 h3).1 e).1
  rw [lst_of hq, this] at hk
  simp at hk
 obtain ⟨F, hF⟩ : ∃ F, F = setL E s.parent ((lst E s.parent).take k ++ (lst E s.parent).drop (k + 1)) := ⟨_, rfl⟩
 have hsF : sl F h = some s := by rw [hF, sl_setL_ne hhp]; exact hs
 have hsX : sl (setL F 0 (h :: lst F 0)) h = some s := by rw [sl_setL_ne h0]; exact hsF
 have hlF : lst F s.parent = (lst E s.parent).take k ++ (lst E s.parent).drop (k + 1) := by rw [hF]; exact lst_setL_eq hpl
 rw [<- hF]
 obtain ⟨E1, hE1⟩ : ∃ E1, E1 = setPar (setL F 0 (h :: lst F 0)) h 0 := ⟨_, rfl⟩
 rw [<- hE1]
 have hs1 : sl E1 h = some { s with parent := 0 } := by rw [hE1, sl_setPar hsX, if_pos rfl]
 have hslx : ∀ x, x ≠ h -> x ≠ 0 -> sl E1 x = sl F x := fun x e1 e2 => by rw [hE1, sl_setPar hsX, if_neg e1, sl_setL_ne e2]
 have hl1 : lst E1 0 = h :: lst F 0 := by rw [hE1, lst_setPar hsX, lst_setL_eq (.inl rfl)]
 have hlx : ∀ x, x ≠ 0 -> x ≠ s.parent -> lst E1 x = lst E x := fun x e1 e2 => by rw [hE1, lst_setPar hsX, lst_setL_ne e1, hF, lst_setL_ne e2]
 have hpar : ∀ y, y ≠ h -> par E1 y = par E y := fun y e => by
  have e1 : par E1 y = par (setL F 0 (h :: lst F 0)) y := by unfold par; rw [hE1, sl_setPar hsX, if_neg e]
  rw [e1, par_setL, hF, par_setL]
 have hups : ups E1 s.parent = ups E s.parent := chain_congr hpar 64 _ hup
 have hhg : hgt E1 h = hgt E h := hgts_congr (A := allH E h) (fun x hx => by
  obtain ⟨⟨t, ht⟩, hu⟩ := alls_ups hw hl 64 h s hs x hx
  refine ⟨hlx x (by rintro rfl; rw [sl_zero] at ht; cases ht) (by rintro rfl; exact hup hu), (allH_kid hw hl _ h s hs (Nat.le_refl _) x hx).1⟩) 64 h (by rw [allH_step hw hs]; simp)
 -- where it goes
 have hpe : isPlaceB wh a = true /\ placeE E1 wh a = (s.parent, 0) /\ (ups E1 a).contains h = false /\ ins ((lst E s.parent).take k ++ (lst E s.parent).drop (k + 1)) (whereN ((lst E s.parent).take k ++ (lst E s.parent).drop (k + 1)) wh a) h = lst E s.parent := by
  have hspl : (lst E s.parent).take k ++ [h] ++ (lst E s.parent).drop (k + 1) = lst E s.parent := by
   rw [List.append_assoc, List.singleton_append]
   have := (List.getElem?_eq_some_iff.1 hk).2
   conv => rhs; rw [<- List.take_append_drop k (lst E s.parent), List.drop_eq_getElem_cons hkl, this]
  have htk : ((lst E s.parent).take k).length = k := by rw [List.length_take]; omega
  rcases hc with ⟨rfl, ha⟩ | ⟨rfl, rfl, hlen⟩
  ·have ham := List.mem_of_getElem? ha
   obtain ⟨ta, hta, htp⟩ := hw.down s.parent hpl a ham
   have ha0 : a ≠ 0 := by rintro rfl; rw [sl_zero] at hta; cases hta
   have hah : a ≠ h := fun e => by
    subst e
    have := (List.getElem?_inj (List.getElem?_eq_some_iff.1 ha).1 hnod).1 (ha.trans hk.symm)
    omega
   obtain ⟨tF, h1, h2⟩ := sl_setL_into (p := s.parent) (l' := (lst E s.parent).take k ++ (lst E s.parent).drop (k + 1)) hta
   rw [<- hF] at h1
   have h1' := (hslx a hah ha0).trans h1
   refine ⟨by simp [isPlaceB, ha0], by simp [placeE, ha0, h1', h2, htp], ?_, ?_⟩
   ·have hpa : par E a = s.parent := by simp [par, hta, htp]
    have hua : ups E a = a :: ups E s.parent := by rw [ups_step hl hta, htp]
    have hna : h ∉ ups E a := by rw [hua]; simp; exact ⟨fun e => hah e.symm, hup⟩
    have : ups E1 a = ups E a := chain_congr hpar 64 _ hna
    rw [this]
    simpa using hna
   ·have hix : ((lst E s.parent).take k ++ (lst E s.parent).drop (k + 1))[k]? = some a := by
     rw [List.getElem?_append_right (by omega), htk, List.getElem?_drop]
     simpa using ha
    have := idx_nodup c2 hix
    unfold whereN
    rw [if_neg (by decide), if_pos rfl, this]
    unfold ins
    rw [Int.toNat_natCast, List.take_append_of_le_length (by omega), List.take_of_length_le (by omega), List.drop_append_of_le_length (by omega), List.drop_of_length_le (by omega)]
    simpa using hspl
  ·have hd : (lst E s.parent).drop (k + 1) = [] := List.drop_of_length_le (by omega)
   refine ⟨by simp [isPlaceB], ?_, ?_, ?_⟩
   ·unfold placeE
    by_cases e0 : s.parent = 0
    ·rw [if_pos e0, e0]
    ·obtain ⟨q, hq⟩ := hpl.resolve_left e0
     have h1 : sl F s.parent = some { q with kids := (lst E s.parent).take k ++ (lst E s.parent).drop (k + 1) } := by rw [hF]; exact sl_setL_eq hq
     have h1' := (hslx s.parent (Ne.symm hhp) e0).trans h1
     rw [if_neg e0, h1']
     simp [hkids q hq]
   ·rw [hups]
    simpa using hup
   ·unfold whereN
    rw [if_pos rfl, hd]
    unfold ins
    simp only [List.append_nil]
    rw [htk, List.take_of_length_le (by omega), List.drop_of_length_le (by omega)]
    rw [hd] at hspl
    simpa using hspl
 obtain ⟨p1, p2, p3, p4⟩ := hpe
 have hF0 : lst F 0 = lst F 0 := rfl
 have hout : outD E1 h { s with parent := 0 } = setPar F h 0 := by
  unfold outD
  simp only
  have hix : idxH (lst E1 0) h = ((0 : Nat) : Int) := idxH_of (by rw [hl1]; rfl) (fun j x hj => by omega)
  rw [hix, hl1]
  simp only [Int.toNat_natCast, List.take_zero, List.nil_append, Nat.zero_add, List.drop_succ_cons, List.drop_zero]
  rw [hE1, setL_setPar hsX, setL_twice (.inl rfl), setL_id (.inl rfl)]
 have hput : putD (setPar F h 0) h s.parent wh a = E := by
  unfold putD
  rw [lst_setPar hsF, hlF, p4, setL_setPar hsF]
  have e1 : setL F s.parent (lst E s.parent) = E := by rw [hF, setL_twice hpl, setL_id hpl]
  rw [e1, setPar_twice hs]
  exact setPar_same hs rfl
 unfold movD
 rw [if_neg (by simp [p1]), hs1]
 simp only [p2]
 rw [if_neg (by decide), if_neg (by rw [p3]; simp), if_neg (by decide), if_neg (by rw [hups, hhg]; omega), hout, hput]
theorem del_dead {E : Dc} {h x : Nat} {s : Sl} (hs : sl E h = some s) (hx : x ∈ allH E h) : sl (delD E h).1 x = none /\ (delD E h).2 = 0 := by
 unfold delD
 rw [hs]
 simp only
 rw [sl_killA, if_pos hx]
 exact ⟨rfl, trivial⟩
end Go.Proofs.YtnhajpeijkbbeaaGreat
/- ref.Same of two trees that are told to be the same. -/
namespace Go.Proofs.YtnhajpeijkbbeaaGreat
open Go.RowKit
set_option linter.unusedVariables false
set_option linter.unusedSimpArgs false
set_option maxRecDepth 100000
set_option maxHeartbeats 1000000
attribute [local go_sem] Bel.cell Bel.fz
def EqAll (n : Nat) : Prop := ∀ (m : Nat) (w : World) (R R' : Nat -> Prop) (v v' : Array Value) (t : T n) (t' : T m), TreeR w R n v t -> TreeR w R' m v' t' -> EqT n m t t' -> (∀ b, R b -> b < w.heap.size) -> (∀ b, R' b -> b < w.heap.size) ->
 Calls Tryz.prog 20 #[.agg v, .agg v'] w fun e w' => e = .returned (.bool true) /\ Below w.heap.size w w'
theorem forests_eq (n m : Nat) (ih : EqAll n) (w : World) (R R' : Nat -> Prop) (a a' : Option Addr) (L : List (T n)) (L' : List (T m)) (c c' : Nat) (h : ForR w R n a L) (h' : ForR w R' m a' L') (hll : L.length = L'.length) (hEQ : ∀ (i : Nat) (x : T n) (y : T m), L[i]? = some x -> L'[i]? = some y -> EqT n m x y) (hR : ∀ b, R b -> b < w.heap.size) (hR' : ∀ b, R' b -> b < w.heap.size) (hl : L.length <= 4398046511104) :
  Calls Tryz.prog 60 #[.slice a L.length c, .slice a' L.length c'] w fun e w' => e = .returned (.bool true) /\ Below w.heap.size w w' := by
 have H1 : Hid (ForR w R n a L) := h
 have H2 : Hid (ForR w R' m a' L') := h'
 have HL : Hid (L.length = L'.length) := hll
 have HE : Hid (∀ (i : Nat) (x : T n) (y : T m), L[i]? = some x -> L'[i]? = some y -> EqT n m x y) := hEQ
 have HR : Hid (∀ b, R b -> b < w.heap.size) := hR
 have HR' : Hid (∀ b, R' b -> b < w.heap.size) := hR'
 have HI : Hid (EqAll n) := ih
 clear h h' hR hR' ih hll hEQ
 go_enter Tryz.func60, Tryz.ntmps60
 go_wp2
 go_loopw [5] (fun iv wr => ∃ (i : Nat), i <= L.length /\ iv = .int .i64 (i : Int) /\ Hid (Below w.heap.size w wr)) (fun iv _ => L.length - (intOf iv).toNat)
 case atStart => exact ⟨0, by omega, rfl, Below.refl _ _⟩
 case round =>
  obtain ⟨i, hi, rfl, hbw⟩ := hrel
  have hbs := hbw.out.size
  by_cases hlt : i < L.length
  ·obtain ⟨k, hk⟩ : ∃ k, L[i]? = some k := ⟨_, List.getElem?_eq_getElem hlt⟩
   obtain ⟨k', hk'⟩ : ∃ k', L'[i]? = some k' := ⟨_, List.getElem?_eq_getElem (by rw [<- HL.out]; exact hlt)⟩
   have g1 := H1.out.to (w' := wr) (fun _ h => h) (fun b o hb => hbw.out.cell (p := ⟨b, o, none⟩) (HR.out b hb))
   have g2 := H2.out.to (w' := wr) (fun _ h => h) (fun b o hb => hbw.out.cell (p := ⟨b, o, none⟩) (HR'.out b hb))
   obtain ⟨b, o, kk, nm, at1, al, ac, tx, ka, kl, kc, rfl, hb, c0, c1, c2, c3, c4, ht⟩ := g1.get hk
   obtain ⟨b2, o2, kk2, nm2, at2, al2, ac2, tx2, ka2, kl2, kc2, rfl, hb2, d0, d1, d2, d3, d4, ht2⟩ := g2.get hk'
   have f1 : b < wr.heap.size := by have := HR.out b hb; omega
   have f2 : b2 < wr.heap.size := by have := HR'.out b2 hb2; omega
   have hcal : ∀ W, Below wr.heap.size wr W -> Calls Tryz.prog 20 #[.agg #[.int .i64 kk, .string nm, .slice at1 al ac, .string tx, .slice ka kl kc], .agg #[.int .i64 kk2, .string nm2, .slice at2 al2 ac2, .string tx2, .slice ka2 kl2 kc2]] W fun e w' => e = .returned (.bool true) /\ Below W.heap.size W w' := fun W hW =>
    HI.out m W R R' _ _ k k' (ht.to (fun _ h => h) (fun b o hb => hW.cell (p := ⟨b, o, none⟩) (by have := HR.out b hb; show b < wr.heap.size; omega))) (ht2.to (fun _ h => h) (fun b o hb => hW.cell (p := ⟨b, o, none⟩) (by have := HR'.out b hb; show b < wr.heap.size; omega))) (HE.out i k k' hk hk') (fun b hb => by have := HR.out b hb; have := hW.size; omega) (fun b hb => by have := HR'.out b hb; have := hW.size; omega)
   clear hk hk' g1 g2 ht ht2
   go_wp2
   refine wp_region_bel (by kernel_rfl) (by kernel_rfl) ?_
   intro hne
   repeat go_big_quiet_step ((go_at_call 20; exact Calls.bel_of (hcal _ (Bel.h _))))
   refine wpQuiet_nil ?_
   rintro _ ⟨u, rfl⟩
   have HB2 : Hid (Below w.heap.size w u.w) := hbw.out.trans (u.h.mono hbs)
   go_wp2
   go_roundw
   case rel => exact ⟨i + 1, by omega, by go_num, HB2⟩
   case measure => simp [intOf]; omega
  ·have hie : i = L.length := by omega
   subst hie
   go_wp2
   go_ret
   exact ⟨rfl, hbw.out⟩
theorem same_eq : ∀ (n : Nat), EqAll n
 | 0 => fun _ _ _ _ _ _ _ _ h => h.elim
 | n + 1 => by
  intro m w R R' v v' t u h h' hE hR hR'
  have ih := same_eq n
  cases m with
  | zero => exact h'.elim
  | succ m =>
   obtain ⟨E1, E2, E3⟩ := hE
   obtain ⟨a, ac, ka, kc, rfl, l1, l2, l3, l4, h5, h6⟩ := h
   obtain ⟨a', ac', ka', kc', rfl, l1', l2', l3', l4', h5', h6'⟩ := h'
   unfold tv
   unfold maxA at l1 l1'
   unfold maxK at l2 l2'
   by_cases hk : t.kind = 2
   ·rw [<- E1, <- E2 hk]
    have HB0 : Hid (Below w.heap.size w ((w.alloc (.cells #[.int .i64 t.kind, .string t.name, .slice a t.attrs.length ac, .string t.text, .slice ka t.kids.length kc] 46)).alloc (.cells #[.int .i64 t.kind, .string u.name, .slice a' u.attrs.length ac', .string t.text, .slice ka' u.kids.length kc'] 46))) := (below_new' w _).alloc (by simp) _
    clear h5 h5' h6 h6' ih hR hR' E1 E2 E3
    generalize t.attrs.length = AL at *
    generalize t.kids.length = KL at *
    generalize t.kind = K at *
    generalize t.name = NM at *
    generalize t.text = TX at *
    generalize u.attrs.length = AL' at *
    generalize u.kids.length = KL' at *
    generalize u.name = NM' at *
    have hb : (K == 2) = true := by simp [hk]
    clear hk
    go_enter Tryz.func20, Tryz.ntmps20
    go_wp2
    go_ret
    exact ⟨rfl, HB0.out⟩
   ·obtain ⟨x1, x2, x3, x4⟩ := E3 hk
    rw [<- x2] at h5'
    have HA : Hid (∀ W, Below w.heap.size w W -> Calls Tryz.prog 48 #[.slice a t.attrs.length ac, .slice a' t.attrs.length ac'] W fun e w' => e = .returned (.bool true) /\ Below W.heap.size W w') := fun W hb =>
     attrs_same W R R' a a' t.attrs ac ac' (h5.to (fun _ h => h) (fun b o hb' => hb.cell (p := ⟨b, o, none⟩) (hR b hb'))) (h5'.to (fun _ h => h) (fun b o hb' => hb.cell (p := ⟨b, o, none⟩) (hR' b hb'))) (fun b hb' => Nat.lt_of_lt_of_le (hR b hb') hb.size) (fun b hb' => Nat.lt_of_lt_of_le (hR' b hb') hb.size) (by omega)
    have HF : Hid (∀ W, Below w.heap.size w W -> Calls Tryz.prog 60 #[.slice ka t.kids.length kc, .slice ka' t.kids.length kc'] W fun e w' => e = .returned (.bool true) /\ Below W.heap.size W w') := fun W hb =>
     forests_eq n m ih W R R' ka ka' t.kids u.kids kc kc' (ForR.to (w := w) h6 (fun _ h => h) (fun b o hb' => hb.cell (p := ⟨b, o, none⟩) (hR b hb'))) (ForR.to (w := w) h6' (fun _ h => h) (fun b o hb' => hb.cell (p := ⟨b, o, none⟩) (hR' b hb'))) x3 x4 (fun b hb' => Nat.lt_of_lt_of_le (hR b hb') hb.size) (fun b hb' => Nat.lt_of_lt_of_le (hR' b hb') hb.size) (by omega)
    rw [<- E1, <- x1, <- x2, <- x3]
    have HB0 : Hid (Below w.heap.size w ((w.alloc (.cells #[.int .i64 t.kind, .string t.name, .slice a t.attrs.length ac, .string t.text, .slice ka t.kids.length kc] 46)).alloc (.cells #[.int .i64 t.kind, .string t.name, .slice a' t.attrs.length ac', .string u.text, .slice ka' t.kids.length kc'] 46))) := (below_new' w _).alloc (by simp) _
    clear h5 h5' h6 h6' ih hR hR' E1 E2 E3 x1 x2 x3 x4 l1' l2' l3' l4'
    generalize t.attrs.length = AL at *
    generalize t.kids.length = KL at *
    generalize t.kind = K at *
    generalize t.name = NM at *
    generalize t.text = TX at *
    generalize u.text = TX' at *
    have hb : (K == 2) = false := by simp [hk]
    clear hk
    go_enter Tryz.func20, Tryz.ntmps20
    go_wp2_with fail
    refine (HA.out _ HB0.out).mono ?_
    rintro e w1 ⟨rfl, hb1⟩
    obtain ⟨hcb, hfb⟩ := bcell hb1
    have hs1 : w.heap.size + 2 <= w1.heap.size := by have := hb1.size; simpa using this
    have HB1 : Hid (Below w.heap.size w w1) := HB0.out.trans (hb1.mono (by simp; omega))
    have hx1 := (isCells_new w #[.int .i64 K, .string NM, .slice a AL ac, .string TX, .slice ka KL kc] 46).alloc (.cells #[.int .i64 K, .string NM, .slice a' AL ac', .string TX', .slice ka' KL kc'] 46)
    have hx2 := isCells_new (w.alloc (.cells #[.int .i64 K, .string NM, .slice a AL ac, .string TX, .slice ka KL kc] 46)) #[.int .i64 K, .string NM, .slice a' AL ac', .string TX', .slice ka' KL kc'] 46
    have e1 : w1.cell? ⟨w.heap.size, 4, none⟩ = some (.slice ka KL kc) := by rw [(hx1.of_block (hb1.block _ (by simp; omega))).cell]; rfl
    have e2 : w1.cell? ⟨w.heap.size + 1, 4, none⟩ = some (.slice ka' KL kc') := by
     have := (hx2.of_block (hb1.block _ (by simp))).cell 4
     simpa using this
    clear hcb hfb hb1 hx1 hx2
    have hf := HF.out w1 HB1.out
    go_wp2_with fail
    refine hf.mono ?_
    rintro e w2 ⟨rfl, hb2⟩
    have HB2 : Hid (Below w.heap.size w w2) := HB1.out.trans (hb2.mono (by omega))
    clear hb2 hf
    go_wp2
    go_ret
    exact ⟨rfl, HB2.out⟩
end Go.Proofs.YtnhajpeijkbbeaaGreat
/- TreeBack: what holds along the walk. -/
namespace Go.Proofs.YtnhajpeijkbbeaaGreat
open Go.RowKit
set_option linter.unusedVariables false
set_option linter.unusedSimpArgs false
theorem Pr.put {w wr w3 w4 : World} {ro ro3 : Nat -> Nat} {db : Nat} {Q : Nat -> Prop} {rb : Nat} {D E : Dc} (h : Pr w wr ro db Q rb D) (hw : WF E) (ht : Turn (fun b => ro b ≠ 0) wr w3) (hp : PDoc w3 ro3 db E) (hn : ∀ b, ro3 b ≠ 0 -> ro b ≠ 0 \/ wr.heap.size <= b) (ht4 : Turn (fun b => b = rb) w3 w4)
  (hr : RDoc w4 (fun b => Q b \/ (w3.heap.size <= b /\ b < w4.heap.size)) rb E) : Pr w w4 ro3 db (fun b => Q b \/ (w3.heap.size <= b /\ b < w4.heap.size)) rb E := by
 have hh := h.bo.half ht hp hn
 refine ⟨h.bel.trans (Turn.below ((ht.mono (B := fun b => ro b ≠ 0 \/ b = rb) (fun _ _ e => .inl e)).trans (ht4.mono (fun _ _ e => .inr e))) h.bel.size (fun b hb => ?_)), ⟨hw, hp.turn ht4 (fun b hb e => (hh.ap b hb).2 e), hr, fun b hb => ⟨?_, (hh.ap b hb).2⟩⟩, fun b hb => ?_, h.rlo⟩
 ·rcases hb with hb | rfl
  ·exact h.lo b hb
  ·exact h.rlo
 ·rintro (hq | ⟨hq, _⟩)
  ·exact (hh.ap b hb).1 hq
  ·have := PdocLt hp b hb
   omega
 ·rcases hn b hb with hb | hb
  ·exact h.lo b hb
  ·exact Nat.le_trans h.bel.size hb
theorem pdoc_new (w : World) : PDoc (w.alloc (.cells #[.slice none 0 0, .slice none 0 0, .int .i64 0] 36)) (fun b => if b = w.heap.size then 1 else 0) w.heap.size D0 :=
 ⟨none, 0, none, 0, [], isCells_new w _ _, own_nil _ _ _ _, own_nil _ _ _ _, rfl, fun i s p h => by simp [D0] at h, by simp, fun b h => by simp [Value.ownBlock] at h, fun b h => by simp [Value.ownBlock] at h, fun i p b h => by simp at h, fun i p b h => by simp at h, fun b hb => by
  by_cases e : b = w.heap.size
  ·subst e; simp
  ·simp [e] at hb⟩
def txT : T 1 := ({ kind := 2, name := ⟨#[]⟩, attrs := [], text := ⟨#[]⟩, kids := [] } : Nd (T 0))
theorem txT_at (w : World) (lo hi : Nat) : TreeAt w lo hi 1 #[.int .i64 2, .string ⟨#[]⟩, .slice none 0 0, .string ⟨#[]⟩, .slice none 0 0] txT :=
 ⟨none, 0, none, 0, rfl, by simp [txT], by simp [txT], Nat.le_refl _, Nat.le_refl _, fun i p h => by simp [txT] at h, fun i k h => by cases k⟩
theorem tx_ins : insE D0 2 0 1 txT = 0 /\ (insD D0 2 0 1 txT).2 = 4294967297 := by
 constructor <;> kernel_rfl
theorem HoldT.live {E : Dc} {P : Nat -> Prop} : ∀ {n : Nat} {t : T n} {h : Nat}, HoldT E P n t h -> ∃ s, sl E h = some s
 | 0, _, _, h => h.elim
 | _ + 1, _, _, h => by
  obtain ⟨-, s, h2, -⟩ := h
  exact ⟨s, h2⟩
theorem ins_same {D : Dc} (hw : WF D) {wh : Int} {a n : Nat} {t : T n} (h : insE D wh a n t = 0) : (∃ s, sl (insD D wh a n t).1 (insD D wh a n t).2 = some s) /\ EqT 64 n (subT (insD D wh a n t).1 63 (insD D wh a n t).2) t :=
 ⟨(ins_hold hw h).live, hold_eq (fun _ h => h) n 63 t _ (ins_hold hw h) (by have := (insE_ok h).2.2.2.1; omega)⟩
structure BkS (w0 wx : World) (N : Nat) (ro : Nat -> Nat) (db : Nat) (Q : Nat -> Prop) (rb : Nat) (E : Dc) (h p : Nat) (B : Nat) (wa la : Option Addr) : Prop where
 pr : Pr w0 wx ro db Q rb E
 lt : ∀ b, ro b ≠ 0 -> b < N
 bx : N <= B
 img : ∃ sa sc ra rc, IsCells wx B #[.slice sa E.S.length sc, .slice ra E.roots.length rc] /\ SlotsAt wx (fun b => N <= b /\ b < wx.heap.size) sa E.S /\ HandsAt wx (fun b => N <= b /\ b < wx.heap.size) ra E.roots
 win : HandsAt wx (fun b => N <= b /\ b < wx.heap.size) wa (allH E h)
 lis : HandsAt wx (fun b => N <= b /\ b < wx.heap.size) la (lst E p)
theorem own_hands {w : World} {base cap : Nat} {a : Option Addr} {l : List Nat} (h : w.ownsRow base 42 1 (.slice a l.length cap) l.length (hvals l)) : HandsAt w (fun b => base <= b /\ b < w.heap.size) a l := by
 intro i x hx
 obtain ⟨-, -, h3⟩ := row_cell h
 obtain ⟨g, rfl, h4, h5, hc⟩ := h3 i (.int .u64 (x : Int)) (by simp [hvals, hx])
 exact ⟨g, 0, rfl, ⟨h4, h5⟩, by rw [Nat.zero_add]; exact hc⟩
theorem HandsAt.on {w w' : World} {N M : Nat} {a : Option Addr} {l : List Nat} (h : HandsAt w (fun b => M <= b /\ b < w.heap.size) a l) (hN : N <= M) (hb : Below w.heap.size w w') : HandsAt w' (fun b => N <= b /\ b < w'.heap.size) a l :=
 h.to (fun b hb' => ⟨Nat.le_trans hN hb'.1, Nat.lt_of_lt_of_le hb'.2 hb.size⟩) (fun b o hb' => hb.cell (p := ⟨b, o, none⟩) hb'.2)
theorem SlotsAt.on {w w' : World} {N M : Nat} {a : Option Addr} {S : List Sl} (h : SlotsAt w (fun b => M <= b /\ b < w.heap.size) a S) (hN : N <= M) (hb : Below w.heap.size w w') : SlotsAt w' (fun b => N <= b /\ b < w'.heap.size) a S :=
 h.to (fun b hb' => ⟨Nat.le_trans hN hb'.1, Nat.lt_of_lt_of_le hb'.2 hb.size⟩) (fun b o hb' => hb.cell (p := ⟨b, o, none⟩) hb'.2)
theorem BkS.blk {w0 wx wr : World} {N : Nat} {ro ro' : Nat -> Nat} {db : Nat} {Q : Nat -> Prop} {rb : Nat} {E E' : Dc} {h p B : Nat} {wa la : Option Addr} (k : BkS w0 wx N ro db Q rb E h p B wa la) (e : PE wx ro db E' wr ro') : ∀ b, N <= b -> b < wx.heap.size -> wr.heap[b]? = wx.heap[b]? := fun b h1 h2 =>
 e.turn.block b h2 (fun h3 => by have := k.lt b h3; omega)
theorem BkS.hnd {w0 wx wr : World} {N : Nat} {ro ro' : Nat -> Nat} {db : Nat} {Q : Nat -> Prop} {rb : Nat} {E E' : Dc} {h p B : Nat} {wa la : Option Addr} (k : BkS w0 wx N ro db Q rb E h p B wa la) (e : PE wx ro db E' wr ro') {a : Option Addr} {l : List Nat} (hh : HandsAt wx (fun b => N <= b /\ b < wx.heap.size) a l) : HandsAt wr (fun b => N <= b /\ b < wx.heap.size) a l :=
 hh.to (fun _ h => h) (fun b o hb => World.cell?_of_block (w := wx) (a := ⟨b, o, none⟩) (k.blk e b hb.1 hb.2))
theorem BkS.rd {w0 wx wr : World} {N : Nat} {ro ro' : Nat -> Nat} {db : Nat} {Q : Nat -> Prop} {rb : Nat} {E E' : Dc} {h p B : Nat} {wa la : Option Addr} (k : BkS w0 wx N ro db Q rb E h p B wa la) (e : PE wx ro db E' wr ro') : RDoc wr Q rb E :=
 k.pr.bo.r.turn e.turn (fun b hb h1 => (k.pr.bo.ap b h1).1 hb) (fun h1 => (k.pr.bo.ap rb h1).2 rfl)
theorem PPost.pe {w w' : World} {ro : Nat -> Nat} {db : Nat} {D : Dc} {z : Int} {e : Ending} (h : PPost w ro db D z e w') : e = .returned (.int .i64 z) /\ ∃ ro', PE w ro db D w' ro' := by
 obtain ⟨h1, h2, ro', h3, h4⟩ := h
 exact ⟨h1, ro', h2, h3, h4⟩
end Go.Proofs.YtnhajpeijkbbeaaGreat
