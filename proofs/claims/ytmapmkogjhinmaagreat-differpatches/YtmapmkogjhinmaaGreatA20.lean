/- A tree that is read as data lies in memory as a tree. -/
import Derived.Test.YtmapmkogjhinmaaGreatA19
import Derived.Test.YtmapmkogjhinmaaGreatRows
import Derived.WalkKit
import Derived.ProofKit
import Derived.OpenShut
import Derived.ChangeOld
import Derived.SizedLaws
import Derived.Deep.Slices
namespace Go.Proofs.YtmapmkogjhinmaaGreat
open Go.RowKit Go.Deep
set_option linter.unusedVariables false
set_option linter.unusedSimpArgs false
set_option maxRecDepth 100000
theorem cells35 : Tryz.prog.cellsOf 35 = 5 := by kernel_rfl
theorem cells52 : Tryz.prog.cellsOf 52 = 2 := by kernel_rfl
theorem cells3 : Tryz.prog.cellsOf 3 = 1 := by kernel_rfl
theorem cells9 : Tryz.prog.cellsOf 9 = 1 := by kernel_rfl
theorem cells33 : Tryz.prog.cellsOf 33 = 1 := by kernel_rfl
theorem cells22 : Tryz.prog.cellsOf 22 = 1 := by kernel_rfl
theorem bytes35 : Tryz.prog.bytesOf 35 = 88 := by kernel_rfl
theorem bytes52 : Tryz.prog.bytesOf 52 = 32 := by kernel_rfl
def Wt {H : Type} (t : TypeId) (d : DataW H) : Prop := ∀ y ∈ d.weights Tryz.prog t, y <= reachBytes
theorem wt_slice {H : Type} {t e : TypeId} {es sp : List (DataW H)} (hu : Tryz.prog.underlying t = some (.slice e)) (h : Wt t (.slice es sp)) : (es.length + sp.length) * Tryz.prog.bytesOf e <= reachBytes /\ ∀ d ∈ es, Wt e d := by
 unfold Wt at h
 simp only [DataW.weights, hu] at h
 refine ⟨h _ (by simp), fun d hd y hy => h y ?_⟩
 refine List.mem_cons_of_mem _ (List.mem_append_left _ ?_)
 clear h
 induction es with
 | nil => simp at hd
 | cons a r ih =>
  simp only [DataW.weightsAll, List.mem_append]
  rcases List.mem_cons.1 hd with rfl | hd
  ·exact .inl hy
  ·exact .inr (ih hd)
theorem wt_each {H : Type} : ∀ {ts : List TypeId} {ds : List (DataW H)}, (∀ y ∈ DataW.weightsEach Tryz.prog ts ds, y <= reachBytes) -> ∀ {j : Nat} {t : TypeId} {d : DataW H}, ts[j]? = some t -> ds[j]? = some d -> Wt t d
 | [], ds, h, j, t, d, ht, hd => by simp at ht
 | t0 :: ts, [], h, j, t, d, ht, hd => by simp at hd
 | t0 :: ts, d0 :: ds, h, j, t, d, ht, hd => by
  simp only [DataW.weightsEach, List.mem_append] at h
  cases j with
  | zero =>
   simp at ht hd
   subst ht hd
   exact fun y hy => h y (.inl hy)
  | succ j => exact wt_each (fun y hy => h y (.inr hy)) (j := j) (by simpa using ht) (by simpa using hd)
theorem listOf9 {α : Type} : ∀ (len : Nat) (p : Nat -> α -> Prop), (∀ i, i < len -> ∃ k, p i k) -> ∃ L : List α, L.length = len /\ ∀ i k, L[i]? = some k -> p i k
 | 0, p, h => ⟨[], rfl, fun i k hk => by simp at hk⟩
 | len + 1, p, h => by
  obtain ⟨L, hl, hL⟩ := listOf9 len p (fun i hi => h i (by omega))
  obtain ⟨x, hx⟩ := h len (by omega)
  refine ⟨L ++ [x], by simp [hl], fun i k hk => ?_⟩
  rcases Nat.lt_or_ge i len with hi | hi
  ·rw [List.getElem?_append_left (by omega)] at hk
   exact hL i k hk
  ·have : i = len := by
    have := (List.getElem?_eq_some_iff.1 hk).1
    simp at this
    omega
   subst this
   rw [List.getElem?_append_right (by omega), hl] at hk
   simp at hk
   subst hk
   exact hx
theorem slice_cells {H : Type} {enc : TypeId × Value -> H} {W : World} {held : Bool} {fuel : Nat} {t e : TypeId} {sz : Nat} {a : Option Addr} {len cap : Nat} {x : DataW H × List MemPlace} (hu : Tryz.prog.underlying t = some (.slice e)) (hc : Tryz.prog.cellsOf e = sz) (hsz : 0 < sz)
  (h : DataW.trod enc Tryz.prog W 0 (fun _ => true) held fuel t [.slice a len cap] = some x) (hw : Wt t x.1) : len <= cap /\ len * Tryz.prog.bytesOf e <= reachBytes /\ ∃ n, n + 1 <= fuel /\ ∀ i, i < len -> ∃ (b o : Nat) (cs : List Value) (y : DataW H × List MemPlace), a = some ⟨b, o, none⟩ /\ b < W.heap.size /\ cs.length = sz /\ (∀ j, j < sz -> W.cell? ⟨b, o + i * sz + j, none⟩ = cs[j]?) /\ DataW.trod enc Tryz.prog W 0 (fun _ => true) held n e cs = some y /\ Wt e y.1 := by
 rcases DataW.trod_slice hu h with ⟨hcs, hx⟩ | ⟨ad, l, c, elems, rest, n, hf, hcs, hx, hb, hl, hm, hlen, hel, hsp, _⟩
 ·simp at hcs
  obtain ⟨rfl, rfl, rfl⟩ := hcs
  refine ⟨Nat.le_refl _, by simp, 0, ?_, fun i hi => by omega⟩
  cases fuel with
  | zero => simp [DataW.trod] at h
  | succ n => omega
 ·simp at hcs
  obtain ⟨rfl, rfl, rfl⟩ := hcs
  subst hx
  obtain ⟨w1, w2⟩ := wt_slice hu hw
  simp only [List.length_map] at w1
  refine ⟨hl, Nat.le_trans (Nat.mul_le_mul_right _ (by omega)) w1, n, by omega, fun i hi => ?_⟩
  have h1 := hel i hi
  rw [List.getElem?_eq_getElem (by omega), hc] at h1
  obtain ⟨cs, h2, h3⟩ := Option.bind_eq_some_iff.1 h1
  obtain ⟨_, h4, h5⟩ := World.cells?_some h2
  have h6 := h5 0 hsz
  rw [List.getElem?_eq_getElem (by omega)] at h6
  have hspot : ad.spot = none := by
   have g1 := hel 0 (by omega)
   rw [List.getElem?_eq_getElem (by omega), hc] at g1
   obtain ⟨cs0, g2, _⟩ := Option.bind_eq_some_iff.1 g1
   obtain ⟨_, g4, g5⟩ := World.cells?_some g2
   have g6 := g5 0 hsz
   rw [List.getElem?_eq_getElem (by omega)] at g6
   simpa [Addr.add] using World.cell?_spot g6
  obtain ⟨b, o, spot⟩ := ad
  simp only at hspot
  subst hspot
  refine ⟨b, o, cs, elems[i], rfl, ?_, h4, fun j hj => ?_, h3, w2 _ (List.mem_map_of_mem (List.getElem_mem _))⟩
  ·rw [addr_plus, addr_plus] at h6
   exact World.block_lt_of_cell? W _ h6
  ·have := h5 j hj
   rw [addr_plus, addr_plus] at this
   exact this
theorem reach_a {n : Nat} (h : n * 32 <= reachBytes) : n <= maxA := by unfold reachBytes at h; unfold maxA; omega
theorem reach_k {n : Nat} (h : n * 88 <= reachBytes) : n <= maxK := by unfold reachBytes at h; unfold maxK; omega
theorem attrs_of {H : Type} {enc : TypeId × Value -> H} {W : World} {held : Bool} {fuel : Nat} {a : Option Addr} {len cap : Nat} {x : DataW H × List MemPlace} (h : DataW.trod enc Tryz.prog W 0 (fun _ => true) held fuel 33 [.slice a len cap] = some x) (hw : Wt 33 x.1) :
  ∃ l : List (ByteArray × ByteArray), l.length = len /\ len <= cap /\ len <= maxA /\ AttrsAt W 0 W.heap.size a l := by
 obtain ⟨h1, h2, n, _, h3⟩ := slice_cells Tryz.underlying33 cells52 (by decide) h hw
 rw [bytes52] at h2
 obtain ⟨l, hl, hL⟩ := listOf9 len (fun i (p : ByteArray × ByteArray) => ∃ (b o : Nat), a = some ⟨b, o, none⟩ /\ b < W.heap.size /\ W.cell? ⟨b, o + i * 2, none⟩ = some (.string p.1) /\ W.cell? ⟨b, o + i * 2 + 1, none⟩ = some (.string p.2)) (fun i hi => by
  obtain ⟨b, o, cs, y, e1, e2, e3, e4, e5, _⟩ := h3 i hi
  obtain ⟨xs, n', _, _, _, g4, g5⟩ := DataW.trod_struct Tryz.underlying52 e5
  have x2 : xs.length = 2 := g4
  have f0 : DataW.trod enc Tryz.prog W 0 (fun _ => true) held n' 9 ((cs.drop 0).take (Tryz.prog.cellsOf 9)) = xs[0]? := g5 0 _ rfl
  have f1 : DataW.trod enc Tryz.prog W 0 (fun _ => true) held n' 9 ((cs.drop 1).take (Tryz.prog.cellsOf 9)) = xs[1]? := g5 1 _ rfl
  rw [cells9, List.getElem?_eq_getElem (by omega)] at f0 f1
  obtain ⟨s0, q0, _⟩ := DataW.trod_string Tryz.underlying9 f0
  obtain ⟨s1, q1, _⟩ := DataW.trod_string Tryz.underlying9 f1
  obtain ⟨c0, c1, rfl⟩ : ∃ c0 c1, cs = [c0, c1] := by
   match cs, e3 with
   | [c0, c1], _ => exact ⟨c0, c1, rfl⟩
  simp at q0 q1
  subst q0 q1
  exact ⟨(s0, s1), b, o, e1, e2, e4 0 (by omega), e4 1 (by omega)⟩)
 refine ⟨l, hl, h1, reach_a h2, fun i p hp => ?_⟩
 obtain ⟨b, o, e1, e2, e3, e4⟩ := hL i p hp
 exact ⟨b, o, e1, Nat.zero_le _, e2, e3, e4⟩
theorem tree_of {H : Type} {enc : TypeId × Value -> H} {W : World} {held : Bool} : ∀ (N fuel : Nat) (cs : List Value) (x : DataW H × List MemPlace), fuel <= N -> DataW.trod enc Tryz.prog W 0 (fun _ => true) held fuel 35 cs = some x -> Wt 35 x.1 -> ∃ t : T N, TreeAt W 0 W.heap.size N cs.toArray t
 | 0, fuel, cs, x, hN, h, hw => by
  have : fuel = 0 := by omega
  subst this
  simp [DataW.trod] at h
 | N + 1, fuel, cs, x, hN, h, hw => by
  obtain ⟨xs, n', hf, rfl, hl, g4, g5⟩ := DataW.trod_struct Tryz.underlying35 h
  have x5 : xs.length = 5 := g4
  rw [cells35] at hl
  have f0 : DataW.trod enc Tryz.prog W 0 (fun _ => true) held n' 3 ((cs.drop 0).take (Tryz.prog.cellsOf 3)) = xs[0]? := g5 0 _ rfl
  have f1 : DataW.trod enc Tryz.prog W 0 (fun _ => true) held n' 9 ((cs.drop 1).take (Tryz.prog.cellsOf 9)) = xs[1]? := g5 1 _ rfl
  have f2 : DataW.trod enc Tryz.prog W 0 (fun _ => true) held n' 33 ((cs.drop 2).take (Tryz.prog.cellsOf 33)) = xs[2]? := g5 2 _ rfl
  have f3 : DataW.trod enc Tryz.prog W 0 (fun _ => true) held n' 9 ((cs.drop 3).take (Tryz.prog.cellsOf 9)) = xs[3]? := g5 3 _ rfl
  have f4 : DataW.trod enc Tryz.prog W 0 (fun _ => true) held n' 22 ((cs.drop 4).take (Tryz.prog.cellsOf 22)) = xs[4]? := g5 4 _ rfl
  have hww : ∀ y ∈ DataW.weightsEach Tryz.prog [3, 9, 33, 9, 22] (xs.map (·.1)), y <= reachBytes := by
   intro y hy
   refine hw y ?_
   simp only [DataW.weights, Tryz.underlying35]
   exact hy
  have w2 : Wt 33 (xs[2]'(by omega)).1 := wt_each hww (j := 2) rfl (by rw [List.getElem?_map, List.getElem?_eq_getElem (by omega)]; rfl)
  have w4 : Wt 22 (xs[4]'(by omega)).1 := wt_each hww (j := 4) rfl (by rw [List.getElem?_map, List.getElem?_eq_getElem (by omega)]; rfl)
  rw [List.getElem?_eq_getElem (by omega)] at f0 f1 f2 f3 f4
  rw [cells3] at f0
  rw [cells9] at f1 f3
  rw [cells33] at f2
  rw [cells22] at f4
  obtain ⟨c0, c1, c2, c3, c4, rfl⟩ : ∃ c0 c1 c2 c3 c4, cs = [c0, c1, c2, c3, c4] := by
   match cs, hl with
   | [c0, c1, c2, c3, c4], _ => exact ⟨c0, c1, c2, c3, c4, rfl⟩
  simp at f0 f1 f2 f3 f4
  obtain ⟨k, q0, _⟩ := DataW.trod_int Tryz.underlying3 f0
  obtain ⟨nm, q1, _⟩ := DataW.trod_string Tryz.underlying9 f1
  obtain ⟨tx, q3, _⟩ := DataW.trod_string Tryz.underlying9 f3
  simp at q0 q1 q3
  subst q0 q1 q3
  obtain ⟨a, al, ac, rfl⟩ : ∃ a al ac, c2 = .slice a al ac := by
   rcases DataW.trod_slice Tryz.underlying33 f2 with ⟨e, _⟩ | ⟨ad, l, c, _, _, _, _, e, _⟩
   ·simp at e; exact ⟨_, _, _, e⟩
   ·simp at e; exact ⟨_, _, _, e⟩
  obtain ⟨ka, kl, kc, rfl⟩ : ∃ a al ac, c4 = .slice a al ac := by
   rcases DataW.trod_slice Tryz.underlying22 f4 with ⟨e, _⟩ | ⟨ad, l, c, _, _, _, _, e, _⟩
   ·simp at e; exact ⟨_, _, _, e⟩
   ·simp at e; exact ⟨_, _, _, e⟩
  obtain ⟨l, rfl, la, lb, hat⟩ := attrs_of f2 w2
  obtain ⟨ka1, ka2, n, hn, hkid⟩ := slice_cells Tryz.underlying22 cells35 (by decide) f4 w4
  rw [bytes35] at ka2
  obtain ⟨L, rfl, hL⟩ := listOf9 kl (fun i (q : T N) => ∃ (b o : Nat) (u : Array Value), ka = some ⟨b, o, none⟩ /\ 0 <= b /\ b < W.heap.size /\ u.size = 5 /\ (∀ j, j < 5 -> W.cell? ⟨b, o + i * 5 + j, none⟩ = u[j]?) /\ TreeAt W 0 W.heap.size N u q) (fun i hi => by
   obtain ⟨b, o, cs, y, e1, e2, e3, e4, e5, e6⟩ := hkid i hi
   obtain ⟨q, hq⟩ := tree_of N n cs y (by omega) e5 e6
   exact ⟨q, b, o, cs.toArray, e1, Nat.zero_le _, e2, by simpa using e3, fun j hj => by rw [e4 j hj]; simp, hq⟩)
  exact ⟨({ kind := k, name := nm, attrs := l, text := tx, kids := L } : Nd (T N)), a, ac, ka, kc, rfl, lb, reach_k ka2, la, ka1, hat, hL⟩
theorem cells37 : Tryz.prog.cellsOf 37 = 11 := by kernel_rfl
theorem bytes37 : Tryz.prog.bytesOf 37 = 152 := by kernel_rfl
theorem cells32 : Tryz.prog.cellsOf 32 = 1 := by kernel_rfl
theorem u64_of {n : Int} (h : (Lit.int .u64 n).wf = true) : ∃ m : Nat, n = (m : Int) /\ m < 18446744073709551616 := by
 have hb := bounds_u64 h
 exact ⟨n.toNat, by omega, by omega⟩
theorem forest_of {H : Type} {enc : TypeId × Value -> H} {W : World} {held : Bool} {fuel : Nat} {a : Option Addr} {len cap : Nat} {x : DataW H × List MemPlace} (h : DataW.trod enc Tryz.prog W 0 (fun _ => true) held fuel 22 [.slice a len cap] = some x) (hw : Wt 22 x.1) :
  ∃ (N : Nat) (L : List (T N)), L.length = len /\ KidsAt W 0 W.heap.size N a L /\ len <= maxK := by
 obtain ⟨ka1, ka2, n, hn, hkid⟩ := slice_cells Tryz.underlying22 cells35 (by decide) h hw
 rw [bytes35] at ka2
 obtain ⟨L, rfl, hL⟩ := listOf9 len (fun i (q : T n) => ∃ (b o : Nat) (u : Array Value), a = some ⟨b, o, none⟩ /\ 0 <= b /\ b < W.heap.size /\ u.size = 5 /\ (∀ j, j < 5 -> W.cell? ⟨b, o + i * 5 + j, none⟩ = u[j]?) /\ TreeAt W 0 W.heap.size n u q) (fun i hi => by
  obtain ⟨b, o, cs, y, e1, e2, e3, e4, e5, e6⟩ := hkid i hi
  obtain ⟨q, hq⟩ := tree_of n n cs y (Nat.le_refl _) e5 e6
  exact ⟨q, b, o, cs.toArray, e1, Nat.zero_le _, e2, by simpa using e3, fun j hj => by rw [e4 j hj]; simp, hq⟩)
 exact ⟨n, L, rfl, hL, reach_k ka2⟩
theorem op_form {H : Type} {enc : TypeId × Value -> H} {W : World} {held : Bool} {fuel : Nat} {cs : List Value} {x : DataW H × List MemPlace} (h : DataW.trod enc Tryz.prog W 0 (fun _ => true) held fuel 37 cs = some x) (hw : Wt 37 x.1) (hl : cs.length = 11) : ∃ (y : OpP) (tk : Int) (tn : ByteArray) (aa : Option Addr) (al ac : Nat) (tt : ByteArray) (ka : Option Addr) (kl kc : Nat), y.node < 18446744073709551616 /\ y.spot < 18446744073709551616 /\ cs = (opv y.kind y.node y.spot y.wh y.name y.value tk tn aa al ac tt ka kl kc).toList /\ TreeAt W 0 W.heap.size y.lev #[.int .i64 tk, .string tn, .slice aa al ac, .string tt, .slice ka kl kc] y.tree := by
 obtain ⟨xs, n', hf, rfl, _, g4, g5⟩ := DataW.trod_struct Tryz.underlying37 h
 have x7 : xs.length = 7 := g4
 have f0 : DataW.trod enc Tryz.prog W 0 (fun _ => true) held n' 3 ((cs.drop 0).take (Tryz.prog.cellsOf 3)) = xs[0]? := g5 0 _ rfl
 have f1 : DataW.trod enc Tryz.prog W 0 (fun _ => true) held n' 32 ((cs.drop 1).take (Tryz.prog.cellsOf 32)) = xs[1]? := g5 1 _ rfl
 have f2 : DataW.trod enc Tryz.prog W 0 (fun _ => true) held n' 32 ((cs.drop 2).take (Tryz.prog.cellsOf 32)) = xs[2]? := g5 2 _ rfl
 have f3 : DataW.trod enc Tryz.prog W 0 (fun _ => true) held n' 3 ((cs.drop 3).take (Tryz.prog.cellsOf 3)) = xs[3]? := g5 3 _ rfl
 have f4 : DataW.trod enc Tryz.prog W 0 (fun _ => true) held n' 9 ((cs.drop 4).take (Tryz.prog.cellsOf 9)) = xs[4]? := g5 4 _ rfl
 have f5 : DataW.trod enc Tryz.prog W 0 (fun _ => true) held n' 9 ((cs.drop 5).take (Tryz.prog.cellsOf 9)) = xs[5]? := g5 5 _ rfl
 have f6 : DataW.trod enc Tryz.prog W 0 (fun _ => true) held n' 35 ((cs.drop 6).take (Tryz.prog.cellsOf 35)) = xs[6]? := g5 6 _ rfl
 have hww : ∀ y ∈ DataW.weightsEach Tryz.prog [3, 32, 32, 3, 9, 9, 35] (xs.map (·.1)), y <= reachBytes := by
  intro y hy
  refine hw y ?_
  simp only [DataW.weights, Tryz.underlying37]
  exact hy
 have w6 : Wt 35 (xs[6]'(by omega)).1 := wt_each hww (j := 6) rfl (by rw [List.getElem?_map, List.getElem?_eq_getElem (by omega)]; rfl)
 rw [List.getElem?_eq_getElem (by omega)] at f0 f1 f2 f3 f4 f5 f6
 rw [cells3] at f0 f3
 rw [cells32] at f1 f2
 rw [cells9] at f4 f5
 rw [cells35] at f6
 obtain ⟨c0, c1, c2, c3, c4, c5, c6, c7, c8, c9, c10, rfl⟩ : ∃ c0 c1 c2 c3 c4 c5 c6 c7 c8 c9 c10, cs = [c0, c1, c2, c3, c4, c5, c6, c7, c8, c9, c10] := by
  match cs, hl with
  | [c0, c1, c2, c3, c4, c5, c6, c7, c8, c9, c10], _ => exact ⟨c0, c1, c2, c3, c4, c5, c6, c7, c8, c9, c10, rfl⟩
 simp at f0 f1 f2 f3 f4 f5 f6
 obtain ⟨k, q0, _⟩ := DataW.trod_int Tryz.underlying3 f0
 obtain ⟨nd, q1, _, hn⟩ := DataW.trod_int Tryz.underlying32 f1
 obtain ⟨sp, q2, _, hs⟩ := DataW.trod_int Tryz.underlying32 f2
 obtain ⟨wh, q3, _⟩ := DataW.trod_int Tryz.underlying3 f3
 obtain ⟨nm, q4, _⟩ := DataW.trod_string Tryz.underlying9 f4
 obtain ⟨vl, q5, _⟩ := DataW.trod_string Tryz.underlying9 f5
 simp at q0 q1 q2 q3 q4 q5
 subst q0 q1 q2 q3 q4 q5
 obtain ⟨nd, rfl, hn9⟩ := u64_of hn
 obtain ⟨sp, rfl, hs9⟩ := u64_of hs
 obtain ⟨t, ht⟩ := tree_of n' n' _ _ (Nat.le_refl _) f6 w6
 obtain ⟨xk, xn, xa, xal, xac, xt, xka, xkl, xkc, e⟩ := ht.toR.form
 simp at e
 obtain ⟨rfl, rfl, rfl, rfl, rfl⟩ := e
 exact ⟨⟨k, nd, sp, wh, nm, vl, n', t⟩, xk, xn, xa, xal, xac, xt, xka, xkl, xkc, hn9, hs9, rfl, ht⟩
theorem ops_of {H : Type} {enc : TypeId × Value -> H} {W : World} {held : Bool} {fuel : Nat} {a : Option Addr} {len cap : Nat} {x : DataW H × List MemPlace} (h : DataW.trod enc Tryz.prog W 0 (fun _ => true) held fuel 23 [.slice a len cap] = some x) (hw : Wt 23 x.1) :
  ∃ l : List OpP, l.length = len /\ OpsAt W 0 W.heap.size a l /\ len <= 925904528653 := by
 obtain ⟨h1, h2, n, _, h3⟩ := slice_cells Tryz.underlying23 cells37 (by decide) h hw
 rw [bytes37] at h2
 obtain ⟨l, rfl, hL⟩ := listOf9 len (fun i (y : OpP) => ∃ b o, a = some ⟨b, o, none⟩ /\ 0 <= b /\ b < W.heap.size /\ OpAt W 0 W.heap.size b (o + i * 11) y) (fun i hi => by
  obtain ⟨b, o, cs, y, e1, e2, e3, e4, e5, e6⟩ := h3 i hi
  obtain ⟨z, tk, tn, aa, al, ac, tt, ka, kl, kc, q1, q2, rfl, q3⟩ := op_form e5 e6 e3
  exact ⟨z, b, o, e1, Nat.zero_le _, e2, q1, q2, tk, tn, aa, al, ac, tt, ka, kl, kc, fun j hj => by rw [e4 j hj]; simp, q3⟩)
 exact ⟨l, rfl, hL, by unfold reachBytes at h2; omega⟩
end Go.Proofs.YtmapmkogjhinmaaGreat
/- A tree made, and the children of a node that stands already set: in either order. -/
namespace Go.Proofs.YtmapmkogjhinmaaGreat
open Go.RowKit
set_option linter.unusedVariables false
set_option linter.unusedSimpArgs false
theorem setKI_get {D : Dc} {i : Nat} {s : Sl} (h : D.S[i]? = some s) (l : List Nat) (j : Nat) : (setKI D i l).S[j]? = if j = i then some { s with kids := l } else D.S[j]? := by
 rw [setKI_some h]
 unfold setS
 simp only
 by_cases e : j = i
 ·rw [if_pos e, e, List.getElem?_set_self ((List.getElem?_eq_some_iff.1 h).1)]
 ·rw [if_neg e, List.getElem?_set_ne (Ne.symm e)]
theorem free_ne {D : Dc} {i : Nat} {s : Sl} (h : D.S[i]? = some s) (hl : s.live = true) : i ≠ (freeD D).1 /\ (freeD D).2.S[i]? = some s := by
 have hi := (List.getElem?_eq_some_iff.1 h).1
 unfold freeD
 cases hf : D.S.findIdx? freeB with
 | some k =>
  simp only
  refine ⟨fun e => ?_, h⟩
  subst e
  obtain ⟨h1, h2, _⟩ := List.findIdx?_eq_some_iff_getElem.1 hf
  rw [List.getElem?_eq_getElem h1] at h
  cases h
  unfold freeB at h2
  rw [hl] at h2
  cases h2
 | none =>
  simp only
  exact ⟨by omega, by rw [List.getElem?_append_left hi]; exact h⟩
theorem findIdx_set {S : List Sl} {i : Nat} {s s' : Sl} (h : S[i]? = some s) (hf : freeB s' = freeB s) : (S.set i s').findIdx? freeB = S.findIdx? freeB := by
 induction S generalizing i with
 | nil => rfl
 | cons a r ih =>
  cases i with
  | zero =>
   simp only [List.getElem?_cons_zero, Option.some.injEq] at h
   subst h
   simp only [List.set_cons_zero, List.findIdx?_cons, hf]
  | succ i =>
   simp only [List.getElem?_cons_succ] at h
   simp only [List.set_cons_succ, List.findIdx?_cons, ih h]
theorem free_setKI {D : Dc} {i : Nat} {s : Sl} (h : D.S[i]? = some s) (hl : s.live = true) (l : List Nat) : freeD (setKI D i l) = ((freeD D).1, setKI (freeD D).2 i l) := by
 have hi := (List.getElem?_eq_some_iff.1 h).1
 have hfi : (setKI D i l).S.findIdx? freeB = D.S.findIdx? freeB := by
  rw [setKI_some h]
  exact findIdx_set h rfl
 have hlen : (setKI D i l).S.length = D.S.length := by rw [setKI_some h]; simp [setS]
 unfold freeD
 rw [hfi]
 cases hf : D.S.findIdx? freeB with
 | some k => rfl
 | none =>
  simp only [hlen]
  have h2 : ({ D with S := D.S ++ [zeroSl 0] } : Dc).S[i]? = some s := by
   show (D.S ++ [zeroSl 0])[i]? = _
   rw [List.getElem?_append_left hi]
   exact h
  rw [setKI_some h2, setKI_some h]
  unfold setS
  simp only
  rw [List.set_append_left _ _ hi]
theorem genAt_setKI {D : Dc} {i : Nat} {s : Sl} (h : D.S[i]? = some s) (l : List Nat) (j : Nat) : genAt (setKI D i l) j = genAt D j := by
 unfold genAt
 rw [setKI_get h]
 by_cases e : j = i
 ·rw [if_pos e, e, h]
 ·rw [if_neg e]
theorem seed_setKI {α : Type} {D : Dc} {i : Nat} {s : Sl} (h : D.S[i]? = some s) (hl : s.live = true) (l : List Nat) (t : Nd α) (p : Nat) : seed (setKI D i l) t p = setKI (seed D t p) i l /\ seedH (setKI D i l) = seedH D /\ (seed D t p).S[i]? = some s := by
 obtain ⟨h1, h2⟩ := free_ne h hl
 have hsi : (seed D t p).S[i]? = some s := by
  show ((freeD D).2.S.set (freeD D).1 _)[i]? = _
  rw [List.getElem?_set_ne (Ne.symm h1)]
  exact h2
 refine ⟨?_, ?_, hsi⟩
 ·unfold seed
  rw [free_setKI h hl]
  simp only
  rw [genAt_setKI h2, setKI_some h2, setKI_some (by exact hsi)]
  unfold setS
  simp only
  rw [List.set_comm _ _ h1]
 ·unfold seedH
  rw [free_setKI h hl]
  simp only
  rw [genAt_setKI h2]
theorem setKI_comm {D : Dc} {i j : Nat} {s : Sl} (h : D.S[i]? = some s) (hne : i ≠ j) (l m : List Nat) : setKI (setKI D i l) j m = setKI (setKI D j m) i l := by
 cases hj : D.S[j]? with
 | none =>
  have h1 : (setKI D i l).S[j]? = none := by rw [setKI_get h, if_neg (Ne.symm hne)]; exact hj
  have e0 : ∀ (E : Dc), E.S[j]? = none -> setKI E j m = E := fun E hE => by unfold setKI; rw [hE]
  rw [e0 _ h1, e0 _ hj]
 | some t =>
  have h1 : (setKI D i l).S[j]? = some t := by rw [setKI_get h, if_neg (Ne.symm hne)]; exact hj
  have h2 : (setKI D j m).S[i]? = some s := by rw [setKI_get hj, if_neg hne]; exact h
  rw [setKI_some h1, setKI_some h2, setKI_some h, setKI_some hj]
  unfold setS
  simp only
  rw [List.set_comm _ _ hne]
theorem setKI_twice {D : Dc} (i : Nat) (l m : List Nat) : setKI (setKI D i l) i m = setKI D i m := by
 cases h : D.S[i]? with
 | none =>
  have e2 : ∀ x, setKI D i x = D := fun x => by unfold setKI; rw [h]
  rw [e2, e2]
 | some s =>
  have h1 : (setKI D i l).S[i]? = some { s with kids := l } := by rw [setKI_get h, if_pos rfl]
  rw [setKI_some h1, setKI_some h, setKI_some h]
  unfold setS
  simp only [List.set_set]
theorem grow_comm : ∀ (n : Nat) (t : T n) (p : Nat) (D : Dc) (i : Nat) (s : Sl) (l : List Nat), D.S[i]? = some s -> s.live = true ->
  (growD n t p D).1.S[i]? = some s /\ growD n t p (setKI D i l) = (setKI (growD n t p D).1 i l, (growD n t p D).2) := by
 intro n
 induction n with
 | zero => intro t; cases t
 | succ n ih =>
  intro t p D i s l h hl
  have hk : ∀ (L : List (T n)) (H : Nat) (D : Dc), D.S[i]? = some s -> (growK (growD n) H L D).1.S[i]? = some s /\ growK (growD n) H L (setKI D i l) = (setKI (growK (growD n) H L D).1 i l, (growK (growD n) H L D).2) := by
   intro L
   induction L with
   | nil => intro H D h; exact ⟨h, rfl⟩
   | cons k r ihl =>
    intro H D h
    obtain ⟨a1, a2⟩ := ih k H D i s l h hl
    obtain ⟨b1, b2⟩ := ihl H (growD n k H D).1 a1
    refine ⟨b1, ?_⟩
    show ((growK (growD n) H r (growD n k H (setKI D i l)).1).1, (growD n k H (setKI D i l)).2 :: (growK (growD n) H r (growD n k H (setKI D i l)).1).2) = _
    rw [a2]
    simp only
    rw [b2]
    rfl
  obtain ⟨s1, s2, s3⟩ := seed_setKI h hl l (show Nd (T n) from t) p
  obtain ⟨c1, c2⟩ := hk (kidsT (show Nd (T n) from t)) (seedH D) (seed D (show Nd (T n) from t) p) s3
  have hne := (free_ne h hl).1
  constructor
  ·show (setKI (growK (growD n) (seedH D) (kidsT t) (seed D t p)).1 (freeD D).1 _).S[i]? = some s
   cases hx : (growK (growD n) (seedH D) (kidsT t) (seed D t p)).1.S[(freeD D).1]? with
   | none =>
    unfold setKI
    rw [hx]
    exact c1
   | some x =>
    rw [setKI_get hx, if_neg hne]
    exact c1
  ·have hf : (freeD (setKI D i l)).1 = (freeD D).1 := by rw [free_setKI h hl]
   show (setKI (growK (growD n) (seedH (setKI D i l)) (kidsT t) (seed (setKI D i l) t p)).1 (freeD (setKI D i l)).1 (growK (growD n) (seedH (setKI D i l)) (kidsT t) (seed (setKI D i l) t p)).2, seedH (setKI D i l)) = (setKI (setKI (growK (growD n) (seedH D) (kidsT t) (seed D t p)).1 (freeD D).1 (growK (growD n) (seedH D) (kidsT t) (seed D t p)).2) i l, seedH D)
   rw [s1, s2, hf, c2]
   simp only
   rw [setKI_comm c1 hne]
end Go.Proofs.YtmapmkogjhinmaaGreat
/- The document's documents while a tree is made: each slot with blocks of its own. -/
namespace Go.Proofs.YtmapmkogjhinmaaGreat
open Go.RowKit
set_option linter.unusedVariables false
set_option linter.unusedSimpArgs false
structure RdM (w : World) (base : Nat) (Q : Nat -> Nat -> Prop) (rb : Nat) (D : Dc) (g cap : Nat) (ra : Option Addr) (rcap : Nat) (L : List (Value × Value)) : Prop where
 head : IsCells w rb #[.slice (some ⟨g, 0, none⟩) D.S.length cap, .slice ra D.roots.length rcap]
 own : w.ownsRow base 90 8 (.slice (some ⟨g, 0, none⟩) D.S.length cap) D.S.length (rowOf D.S L)
 len : L.length = D.S.length
 vals : ∀ (i : Nat) (s : Sl) (p : Value × Value), D.S[i]? = some s -> L[i]? = some p -> SlotVals w (Q (i + 1)) s p
 roots : HandsAt w (Q 0) ra D.roots
 rlen : D.roots.length <= rcap
 qne : ∀ k b, Q k b -> b ≠ g /\ b < w.heap.size
 nrb : ∀ k, ¬ Q k rb
 rbl : rb < base
def setQ (Q : Nat -> Nat -> Prop) (k : Nat) (R : Nat -> Prop) (j : Nat) (b : Nat) : Prop := (j = k /\ R b) \/ (j ≠ k /\ Q j b)
theorem setQ_same {Q : Nat -> Nat -> Prop} {k : Nat} {R : Nat -> Prop} {b : Nat} : setQ Q k R k b ↔ R b := by simp [setQ]
theorem setQ_other {Q : Nat -> Nat -> Prop} {k j : Nat} {R : Nat -> Prop} {b : Nat} (h : j ≠ k) : setQ Q k R j b ↔ Q j b := by simp [setQ, h]
section
variable {w w' : World} {base : Nat} {Q : Nat -> Nat -> Prop} {rb : Nat} {D : Dc} {g cap : Nat} {ra : Option Addr} {rcap : Nat} {L : List (Value × Value)}
theorem RdS.toM {Q : Nat -> Prop} (h : RdS w base Q rb D g cap ra rcap L) : RdM w base (fun _ => Q) rb D g cap ra rcap L :=
 ⟨h.head, h.own, h.len, h.vals, h.roots, h.rlen, fun _ b hb => h.qne b hb, fun _ => h.nrb, h.rbl⟩
theorem RdM.toS (h : RdM w base Q rb D g cap ra rcap L) : RdS w base (fun b => ∃ k, Q k b) rb D g cap ra rcap L :=
 ⟨h.head, h.own, h.len, fun i s p hs hp => (h.vals i s p hs hp).to (fun b hb => ⟨_, hb⟩) (fun _ _ _ => rfl), h.roots.to (fun b hb => ⟨_, hb⟩) (fun _ _ _ => rfl), h.rlen, fun b ⟨k, hb⟩ => h.qne k b hb, fun ⟨k, hb⟩ => h.nrb k hb, h.rbl⟩
theorem RdM.turn {A : Nat -> Prop} (h : RdM w base Q rb D g cap ra rcap L) (ht : Turn A w w') (hA : ∀ k b, Q k b -> ¬ A b) (hr : ¬ A rb) (hg : ¬ A g) : RdM w' base Q rb D g cap ra rcap L := by
 have hgb := h.toS.gb
 have hc : ∀ k b o, Q k b -> w'.cell? ⟨b, o, none⟩ = w.cell? ⟨b, o, none⟩ := fun k b o hb => World.cell?_of_block (w := w) (a := ⟨b, o, none⟩) (ht.block b (h.qne k b hb).2 (hA k b hb))
 exact ⟨h.head.of_block (ht.block rb h.head.lt hr), own_of_block h.own (fun k hk => by cases hk; exact ht.block g hgb.2 hg), h.len, fun i s p hs hp => (h.vals i s p hs hp).to (fun _ h => h) (fun b o hb => hc _ b o hb), h.roots.to (fun _ h => h) (fun b o hb => hc _ b o hb), h.rlen, fun k b hb => ⟨(h.qne k b hb).1, Nat.lt_of_lt_of_le (h.qne k b hb).2 ht.size⟩, h.nrb, h.rbl⟩
theorem RdM.below (h : RdM w base Q rb D g cap ra rcap L) (hb : Below w.heap.size w w') : RdM w' base Q rb D g cap ra rcap L := h.turn (below_turn hb) (fun _ _ _ h => h) (fun h => h) (fun h => h)
theorem RdM.cell (h : RdM w base Q rb D g cap ra rcap L) {i j : Nat} {s s' : Sl} {p p' : Value × Value} {u : Value} {R : Nat -> Prop} (hs : D.S[i]? = some s) (hp : L[i]? = some p) (hj : j < 8) (hc : slotCells s' p' = (slotCells s p).set j u) (hv : SlotVals w R s' p') (hR : ∀ b, R b -> b ≠ g /\ b < w.heap.size /\ b ≠ rb) :
  RdM (w.setCell ⟨g, i * 8 + j, none⟩ u) base (setQ Q (i + 1) R) rb { D with S := D.S.set i s' } g cap ra rcap (L.set i p') := by
 have hgb := h.toS.gb
 have hrb := h.rbl
 have hcell : ∀ b o, b ≠ g -> (w.setCell ⟨g, i * 8 + j, none⟩ u).cell? ⟨b, o, none⟩ = w.cell? ⟨b, o, none⟩ := fun b o hb => World.cell?_of_block (w := w) (a := ⟨b, o, none⟩) (Below.heap_setCell _ _ _ _ hb)
 have hi := (List.getElem?_eq_some_iff.1 hs).1
 have hsz : (w.setCell ⟨g, i * 8 + j, none⟩ u).heap.size = w.heap.size := by simp [World.setCell]
 refine ⟨?_, ?_, by simp [h.len], fun k x y hx hy => ?_, h.roots.to (fun b hb => (setQ_other (by omega)).2 hb) (fun b o hb => hcell b o (h.qne _ b hb).1), h.rlen, fun k b hb => ?_, fun k hb => ?_, h.rbl⟩
 ·have := h.head.other (a := ⟨g, i * 8 + j, none⟩) (by show rb ≠ g; omega) u
  simpa using this
 ·have := own_set h.own (i * 8 + j) u
  rw [<- rowOf_set h.len hs hp hj hc] at this
  simpa using this
 ·by_cases hk : k = i
  ·subst hk
   rw [List.getElem?_set_self hi] at hx
   rw [List.getElem?_set_self (by rw [h.len]; exact hi)] at hy
   cases hx
   cases hy
   exact hv.to (fun b hb => setQ_same.2 hb) (fun b o hb => hcell b o (hR b hb).1)
  ·rw [List.getElem?_set_ne (by omega)] at hx hy
   exact (h.vals k x y hx hy).to (fun b hb => (setQ_other (by omega)).2 hb) (fun b o hb => hcell b o (h.qne _ b hb).1)
 ·rw [hsz]
  rcases hb with ⟨_, hb⟩ | ⟨_, hb⟩
  ·exact ⟨(hR b hb).1, (hR b hb).2.1⟩
  ·exact h.qne k b hb
 ·rcases hb with ⟨_, hb⟩ | ⟨_, hb⟩
  ·exact (hR rb hb).2.2 rfl
  ·exact h.nrb k hb
theorem RdM.mono {Q' : Nat -> Nat -> Prop} (h : RdM w base Q rb D g cap ra rcap L) (he : ∀ k b, Q k b ↔ Q' k b) : RdM w base Q' rb D g cap ra rcap L :=
 ⟨h.head, h.own, h.len, fun i s p hs hp => (h.vals i s p hs hp).to (fun b hb => (he _ b).1 hb) (fun _ _ _ => rfl), h.roots.to (fun b hb => (he _ b).1 hb) (fun _ _ _ => rfl), h.rlen, fun k b hb => h.qne k b ((he k b).2 hb), fun k hb => h.nrb k ((he k rb).2 hb), h.rbl⟩
theorem RdM.cell' {i : Nat} {s : Sl} {p : Value × Value} {R0 : Nat -> Prop} (h : RdM w base (setQ Q (i + 1) R0) rb { D with S := D.S.set i s } g cap ra rcap (L.set i p)) {j : Nat} {s' : Sl} {p' : Value × Value} {u : Value} {R : Nat -> Prop} (hi : i < D.S.length) (hl : L.length = D.S.length) (hj : j < 8) (hc : slotCells s' p' = (slotCells s p).set j u) (hv : SlotVals w R s' p') (hR : ∀ b, R b -> b ≠ g /\ b < w.heap.size /\ b ≠ rb) :
  RdM (w.setCell ⟨g, i * 8 + j, none⟩ u) base (setQ Q (i + 1) R) rb { D with S := D.S.set i s' } g cap ra rcap (L.set i p') := by
 have h1 := h.cell (i := i) (s := s) (p := p) (List.getElem?_set_self hi) (List.getElem?_set_self (by omega)) hj hc hv hR
 have h2 : RdM (w.setCell ⟨g, i * 8 + j, none⟩ u) base (setQ Q (i + 1) R) rb { D with S := (D.S.set i s).set i s' } g cap ra rcap ((L.set i p).set i p') := h1.mono (fun k b => by
  by_cases e : k = i + 1
  ·subst e
   rw [setQ_same, setQ_same]
  ·rw [setQ_other e, setQ_other e, setQ_other e])
 simpa only [List.set_set] using h2
theorem RdM.plant (h : RdM w base Q rb D g cap ra rcap L) {i : Nat} {s0 : Sl} (hs : D.S[i]? = some s0) (s : Sl) (hk : s.kids = []) {aa : Option Addr} {ac : Nat} {R : Nat -> Prop} (hac : s.attrs.length <= ac) (hv : AttrsR w R aa s.attrs) (hR : ∀ b, R b -> b ≠ g /\ b < w.heap.size /\ b ≠ rb) :
  RdM (plantW w g i s (.slice aa s.attrs.length ac)) base (setQ Q (i + 1) R) rb { D with S := D.S.set i s } g cap ra rcap (L.set i (.slice aa s.attrs.length ac, .slice none 0 0)) := by
 have hi := (List.getElem?_eq_some_iff.1 hs).1
 have hl := h.len
 obtain ⟨p, hp⟩ : ∃ p, L[i]? = some p := ⟨_, List.getElem?_eq_getElem (by rw [h.len]; exact hi)⟩
 have v0 := h.vals i s0 p hs hp
 have hQ : ∀ b, Q (i + 1) b -> b ≠ g /\ b < w.heap.size /\ b ≠ rb := fun b hb => ⟨(h.qne _ b hb).1, (h.qne _ b hb).2, fun e => h.nrb _ (e ▸ hb)⟩
 have hU : ∀ b, (R b \/ Q (i + 1) b) -> b ≠ g /\ b < w.heap.size /\ b ≠ rb := fun b hb => hb.elim (hR b) (hQ b)
 have sz : ∀ (w : World) (k : Nat) (u : Value), (w.setCell ⟨g, k, none⟩ u).heap.size = w.heap.size := fun w k u => by simp [World.setCell]
 have cl : ∀ (w : World) (k : Nat) (u : Value) b o, b ≠ g -> (w.setCell ⟨g, k, none⟩ u).cell? ⟨b, o, none⟩ = w.cell? ⟨b, o, none⟩ := fun w k u b o hb => World.cell?_of_block (w := w) (a := ⟨b, o, none⟩) (Below.heap_setCell _ _ _ _ hb)
 have keep : ∀ (W : World) (k : Nat) (u : Value) (s1 : Sl) (q : Value × Value) (X : Nat -> Prop), (∀ b, X b -> b ≠ g) -> SlotVals W X s1 q -> SlotVals (W.setCell ⟨g, k, none⟩ u) X s1 q := fun W k u s1 q X hX hv => hv.to (fun _ h => h) (fun b o hb => cl W k u b o (hX b hb))
 have keepA : ∀ (W : World) (k : Nat) (u : Value), AttrsR W R aa s.attrs -> AttrsR (W.setCell ⟨g, k, none⟩ u) R aa s.attrs := fun W k u hv => hv.to (fun _ h => h) (fun b o hb => cl W k u b o (hR b hb).1)
 have gQ : ∀ b, Q (i + 1) b -> b ≠ g := fun b hb => (hQ b hb).1
 have gU : ∀ b, (R b \/ Q (i + 1) b) -> b ≠ g := fun b hb => (hU b hb).1
 have like : ∀ (W : World) (X : Nat -> Prop) (s1 s2 : Sl) (q : Value × Value), s2.attrs = s1.attrs -> s2.kids = s1.kids -> SlotVals W X s1 q -> SlotVals W X s2 q := fun W X s1 s2 q e1 e2 hv => by
  obtain ⟨x1, x2, x3, x4, x5, x6, x7, x8, x9⟩ := hv
  exact ⟨x1, x2, x3, x4, by rw [e1, e2]; exact x5, by rw [e1]; exact x6, by rw [e2]; exact x7, by rw [e1]; exact x8, by rw [e2]; exact x9⟩
 have h0 := h.cell (j := 0) (s' := { s0 with gen := s.gen }) (p' := p) (u := .int .u32 (s.gen : Int)) hs hp (by omega) rfl (like _ _ s0 _ _ rfl rfl v0) hQ
 have v1 := keep _ (i * 8 + 0) (.int .u32 (s.gen : Int)) _ _ _ gQ v0
 have a1 := keepA _ (i * 8 + 0) (.int .u32 (s.gen : Int)) hv
 have h1 := h0.cell' (j := 1) (s' := { s0 with gen := s.gen, live := s.live }) (p' := p) (u := .bool s.live) hi hl (by omega) rfl (like _ _ s0 _ _ rfl rfl v1) (by simpa only [sz] using hQ)
 have v2 := keep _ (i * 8 + 1) (.bool s.live) _ _ _ gQ v1
 have a2 := keepA _ (i * 8 + 1) (.bool s.live) a1
 have h2 := h1.cell' (j := 2) (s' := { s0 with gen := s.gen, live := s.live, kind := s.kind }) (p' := p) (u := .int .i64 s.kind) hi hl (by omega) rfl (like _ _ s0 _ _ rfl rfl v2) (by simpa only [sz] using hQ)
 have v3 := keep _ (i * 8 + 2) (.int .i64 s.kind) _ _ _ gQ v2
 have a3 := keepA _ (i * 8 + 2) (.int .i64 s.kind) a2
 have h3 := h2.cell' (j := 3) (s' := { s0 with gen := s.gen, live := s.live, kind := s.kind, name := s.name }) (p' := p) (u := .string s.name) hi hl (by omega) rfl (like _ _ s0 _ _ rfl rfl v3) (by simpa only [sz] using hQ)
 have v4 := keep _ (i * 8 + 3) (.string s.name) _ _ _ gQ v3
 have a4 := keepA _ (i * 8 + 3) (.string s.name) a3
 have mk4 : ∀ W : World, SlotVals W (Q (i + 1)) s0 p -> AttrsR W R aa s.attrs -> SlotVals W (fun b => R b \/ Q (i + 1) b) { s0 with gen := s.gen, live := s.live, kind := s.kind, name := s.name, attrs := s.attrs } (.slice aa s.attrs.length ac, p.2) := fun W v a => by
  obtain ⟨x1, x2, x3, x4, x5, x6, x7, x8, x9⟩ := v
  exact ⟨aa, ac, x3, x4, by rw [x5], hac, x7, a.to (fun _ h => .inl h) (fun _ _ _ => rfl), x9.to (fun _ h => .inr h) (fun _ _ _ => rfl)⟩
 have v4' := mk4 _ v4 a4
 have h4 := h3.cell' (j := 4) (s' := { s0 with gen := s.gen, live := s.live, kind := s.kind, name := s.name, attrs := s.attrs }) (p' := (.slice aa s.attrs.length ac, p.2)) (u := .slice aa s.attrs.length ac) hi hl (by omega) rfl v4' (by simpa only [sz] using hU)
 have v5 := keep _ (i * 8 + 4) (.slice aa s.attrs.length ac) _ _ _ gU v4'
 have a5 := keepA _ (i * 8 + 4) (.slice aa s.attrs.length ac) a4
 have h5 := h4.cell' (j := 5) (s' := { s0 with gen := s.gen, live := s.live, kind := s.kind, name := s.name, attrs := s.attrs, text := s.text }) (p' := (.slice aa s.attrs.length ac, p.2)) (u := .string s.text) hi hl (by omega) rfl (like _ _ { s0 with gen := s.gen, live := s.live, kind := s.kind, name := s.name, attrs := s.attrs } _ _ rfl rfl v5) (by simpa only [sz] using hU)
 have v6 := keep _ (i * 8 + 5) (.string s.text) _ _ _ gU v5
 have a6 := keepA _ (i * 8 + 5) (.string s.text) a5
 have h6 := h5.cell' (j := 6) (s' := { s with kids := s0.kids }) (p' := (.slice aa s.attrs.length ac, p.2)) (u := .int .u64 (s.parent : Int)) hi hl (by omega) rfl (like _ _ { s0 with gen := s.gen, live := s.live, kind := s.kind, name := s.name, attrs := s.attrs } _ _ rfl rfl v6) (by simpa only [sz] using hU)
 have a7 := keepA _ (i * 8 + 6) (.int .u64 (s.parent : Int)) a6
 have h7 := h6.cell' (j := 7) (s' := s) (p' := (.slice aa s.attrs.length ac, .slice none 0 0)) (u := .slice none 0 0) (R := R) hi hl (by omega) rfl ⟨aa, ac, none, 0, by rw [hk]; rfl, hac, by rw [hk]; exact Nat.le_refl _, a7, (by rw [hk]; intro i x hx; simp at hx)⟩ (by simpa only [sz] using hR)
 exact h7
end
end Go.Proofs.YtmapmkogjhinmaaGreat
/- A new index, by the document, each slot with blocks of its own; a child taken into its row. -/
namespace Go.Proofs.YtmapmkogjhinmaaGreat
open Go.RowKit
set_option linter.unusedVariables false
set_option linter.unusedSimpArgs false
set_option maxRecDepth 100000
set_option maxHeartbeats 1000000
theorem RdM.grew {w w2 : World} {base : Nat} {Q : Nat -> Nat -> Prop} {rb : Nat} {D : Dc} {g cap : Nat} {ra : Option Addr} {rcap : Nat} {L : List (Value × Value)} (h : RdM w base Q rb D g cap ra rcap L) (hb : Below w.heap.size w w2) {v : Value} (hown : w2.ownsRow w.heap.size 90 8 v (D.S.length + 1) (rowOf D.S L ++ slotCells (zeroSl 0) (.slice none 0 0, .slice none 0 0))) :
  ∃ g' cap', v = .slice (some ⟨g', 0, none⟩) (D.S.length + 1) cap' /\ w.heap.size <= g' /\ RdM (w2.setCell ⟨rb, 0, none⟩ (.slice (some ⟨g', 0, none⟩) (D.S.length + 1) cap')) base Q rb { D with S := D.S ++ [zeroSl 0] } g' cap' ra rcap (L ++ [(.slice none 0 0, .slice none 0 0)]) /\ Turn (fun b => b = rb) w (w2.setCell ⟨rb, 0, none⟩ (.slice (some ⟨g', 0, none⟩) (D.S.length + 1) cap')) := by
 have hrb := h.rbl
 have hgs := h.toS.gb
 have hbs := h.toS.bs
 have hsz := hb.size
 rcases hown.2 with ⟨e1, e2⟩ | ⟨g', cap', cur, rfl, hb', hcells⟩
 ·simp at e2
 ·have hne : ∀ k b, Q k b -> b ≠ rb := fun k b hb e => h.nrb k (e ▸ hb)
  have hcell : ∀ k b o, Q k b -> (w2.setCell ⟨rb, 0, none⟩ (.slice (some ⟨g', 0, none⟩) (D.S.length + 1) cap')).cell? ⟨b, o, none⟩ = w.cell? ⟨b, o, none⟩ := fun k b o hq => World.cell?_of_block (w := w) (a := ⟨b, o, none⟩) ((Below.heap_setCell _ _ _ _ (hne k b hq)).trans (hb.block b (h.qne k b hq).2))
  refine ⟨g', cap', rfl, hb', ⟨?_, ?_, by simp [h.len], fun k x y hx hy => ?_, h.roots.to (fun _ h => h) (hcell _), h.rlen, fun k b hq => ⟨by have := (h.qne k b hq).2; omega, by have := (h.qne k b hq).2; simp [World.setCell]; omega⟩, h.nrb, hrb⟩, ?_⟩
  ·have := (h.head.of_block (hb.block rb (by omega))).set 0 (.slice (some ⟨g', 0, none⟩) (D.S.length + 1) cap')
   simpa using this
  ·have h2 : (w2.setCell ⟨rb, 0, none⟩ (.slice (some ⟨g', 0, none⟩) (D.S.length + 1) cap')).ownsRow w.heap.size 90 8 (.slice (some ⟨g', 0, none⟩) (D.S.length + 1) cap') (D.S.length + 1) (rowOf D.S L ++ slotCells (zeroSl 0) (.slice none 0 0, .slice none 0 0)) := own_of_block hown (fun k hk => by
    cases hk
    exact Below.heap_setCell _ _ _ _ (by show g' ≠ rb; omega))
   rw [<- rowOf_snoc h.len] at h2
   have h3 := own_base (base' := base) h2 (fun k hk => by
    simp only [Value.ownBlock, Option.some.injEq] at hk
    omega)
   simpa using h3
  ·rcases Nat.lt_or_ge k D.S.length with hk | hk
   ·have hx' : (D.S ++ [zeroSl 0])[k]? = some x := hx
    rw [List.getElem?_append_left hk] at hx'
    rw [List.getElem?_append_left (by rw [h.len]; exact hk)] at hy
    exact (h.vals k x y hx' hy).to (fun _ h => h) (hcell _)
   ·have hx' : (D.S ++ [zeroSl 0])[k]? = some x := hx
    have hkl : k = D.S.length := by have := (List.getElem?_eq_some_iff.1 hx').1; simp at this; omega
    subst hkl
    rw [List.getElem?_append_right (Nat.le_refl _)] at hx'
    rw [List.getElem?_append_right (by rw [h.len]; exact Nat.le_refl _), h.len] at hy
    simp at hx' hy
    subst hx'
    subst hy
    exact ⟨none, 0, none, 0, rfl, Nat.le_refl _, Nat.le_refl _, (fun i a ha => by simp [zeroSl] at ha), (fun i a ha => by simp [zeroSl] at ha)⟩
  ·exact Turn.setCell (A := fun b => b = rb) ((below_turn hb).mono (fun _ _ h => h.elim)) (p := ⟨rb, 0, none⟩) rfl _
def FreeM (w : World) (base : Nat) (Q : Nat -> Nat -> Prop) (rb : Nat) (D : Dc) (g : Nat) (ra : Option Addr) (rcap : Nat) (L : List (Value × Value)) (i : Nat) (e : Ending) (w' : World) : Prop :=
 e = .returned (.int .i64 (i : Int)) /\ (∃ g' cap' L', RdM w' base Q rb D g' cap' ra rcap L' /\ (g' = g \/ w.heap.size <= g') /\ ∀ k, k < L.length -> L'[k]? = L[k]?) /\ Turn (fun b => b = rb) w w'
theorem rfreeM_none (w : World) (base : Nat) (Q : Nat -> Nat -> Prop) (rb : Nat) (D : Dc) (g cap : Nat) (ra : Option Addr) (rcap : Nat) (L : List (Value × Value)) (h : RdM w base Q rb D g cap ra rcap L) (hf : Fits D) (hi : D.S.findIdx? freeB = none) :
  Calls Tryz.prog 100 #[.pointer (some ⟨rb, 0, none⟩)] w (FreeM w base Q rb { D with S := D.S ++ [zeroSl 0] } g ra rcap L D.S.length) := by
 have hl := hf.len
 have hno := List.findIdx?_eq_none_iff.1 hi
 have HNO : Hid (∀ (j : Nat) (s : Sl), D.S[j]? = some s -> freeB s = false) := fun j s hs => by
  simpa using hno s (List.mem_of_getElem? hs)
 have HD : Hid (RdM w base Q rb D g cap ra rcap L) := h
 have hh1 := h.head.cell
 have hhf := h.head.frozen
 have hgs := h.toS.gb
 have hrbl := h.rbl
 have hrs := h.head.lt
 have hcp := (row_cell h.own).1
 have HN : Hid (∀ j u, (rowOf D.S L)[j]? = some u -> ∃ ad, some (⟨g, 0, none⟩ : Addr) = some ad /\ (w.alloc (.cells #[] 90)).cell? (ad.add j) = some u) := fun j u hu => by
  obtain ⟨g', e1, _, e3, e2⟩ := (row_cell h.own).2.2 j u hu
  cases e1
  refine ⟨_, rfl, ?_⟩
  rw [addr_plus, Nat.zero_add, World.cell?_of_block (w := w) (Below.heap_alloc _ _ _ e3)]
  exact e2
 have HRV : Hid (∀ u ∈ rowOf D.S L, u.oneCell' = true) := rows_vals h.toS.vals
 have HRL : Hid ((rowOf D.S L).length = D.S.length * 8) := rowOf_len h.len
 clear h hf hi hno
 go_enter Tryz.func100, Tryz.ntmps100
 go_wp2
 go_loop [3] (fun iv => ∃ (i : Nat), i <= D.S.length /\ iv = .int .i64 (i : Int)) (fun iv => D.S.length - (intOf iv).toNat)
 case atStart => exact ⟨0, by omega, rfl⟩
 case round =>
  obtain ⟨i, hi, rfl⟩ := hrel
  by_cases hlt : i < D.S.length
  ·obtain ⟨s, hs⟩ : ∃ s, D.S[i]? = some s := ⟨_, List.getElem?_eq_getElem hlt⟩
   obtain ⟨q, hq, hvq, hcap, hhd, hcl⟩ := HD.out.toS.slot hs
   have c0 : w.cell? ⟨g, i * 8, none⟩ = _ := (hcl 0 _ rfl).1
   have c1 := (hcl 1 _ rfl).1
   have hfb := HNO.out i s hs
   cases hlv : s.live
   ·have hb := freeB_bool hfb hlv
    rw [hlv] at c1
    clear hfb hlv hs hq hvq hcl hhd hcap
    go_wp2
    go_round
    case rel => exact ⟨i + 1, by omega, by go_num⟩
    case measure => simp [intOf]; omega
   ·rw [hlv] at c1
    clear hfb hlv hs hq hvq hcl hhd hcap
    go_wp2
    go_round
    case rel => exact ⟨i + 1, by omega, by go_num⟩
    case measure => simp [intOf]; omega
  ·have hie : i = D.S.length := by omega
   subst hie
   have tok1 : True := trivial
   go_wp2_with (at_builtin; first
    | (have _t := tok1; refine wpList_app rfl _ _ rfl Tryz.underlying55 info75 rfl (by decide) w.heap.size (.slice (some ⟨w.heap.size, 0, none⟩) 0 0) 0 [] rfl (own_new w 90 8) (some ⟨g, 0, none⟩) D.S.length cap (rowOf D.S L) rfl HRL.out HN.out HRV.out (by unfold maxLen; omega) (by omega) (by simp) ?_; intro v1 w1 hown1 hg1 _ hat1; clear tok1 _t; rw [Nat.zero_add, List.nil_append] at hown1; obtain ⟨a1, c1', hv1⟩ := own_slice hown1; subst hv1; have HO1 : Hid (w1.ownsRow w.heap.size 90 8 (.slice a1 D.S.length c1') D.S.length (rowOf D.S L)) := hown1; have HB1 : Hid (Below w.heap.size w w1) := (below_new' w _).grown hg1 (by simp) (fun k hk => by simp only [Value.ownBlock, Option.some.injEq] at hk; omega); have hs1 := HB1.out.size; clear hown1 hg1 hat1)
    | (refine wpList_app rfl _ _ rfl Tryz.underlying55 info75 rfl (by decide) w.heap.size (.slice a1 D.S.length c1') D.S.length (rowOf D.S L) rfl (own_of_block HO1.out (fun k hk => Below.heap_alloc _ _ _ (own_block_lt HO1.out k hk).2)) (some ⟨w1.heap.size, 0, none⟩) 1 1 (slotCells (zeroSl 0) (.slice none 0 0, .slice none 0 0)) rfl rfl (news_new w1 #[.int .u32 0, .bool false, .int .i64 0, .string ⟨#[]⟩, .slice none 0 0, .string ⟨#[]⟩, .int .u64 0, .slice none 0 0] 90) (by intro u hu; simp only [slotCells, List.mem_cons, List.not_mem_nil, or_false] at hu; rcases hu with rfl | rfl | rfl | rfl | rfl | rfl | rfl | rfl <;> rfl) (by unfold maxLen; omega) (by omega) (by simp; omega) ?_; intro v2 w2 hown2 hg2 _ hat2; have hb2 : Below w.heap.size w w2 := (HB1.out.alloc hs1 _).grown hg2 (by simp; omega) (fun k hk => (own_block_lt HO1.out k hk).1); obtain ⟨g', cap', hv2, hg', hrds, htn⟩ := HD.out.grew hb2 hown2; subst hv2; have hgn : w.heap.size <= g' := hg'; have hc2 : w2.cell? ⟨rb, 0, none⟩ = some (.slice (some ⟨g, 0, none⟩) D.S.length cap) := (hb2.cell (p := ⟨rb, 0, none⟩) hrs).trans (by rw [hh1]; rfl); have hf2 : w2.frozen? ⟨rb, 0, none⟩ = false := (hb2.frozen (p := ⟨rb, 0, none⟩) hrs).trans (hhf 0); have hrs2 : rb < w2.heap.size := (Nat.lt_of_lt_of_le hrs hb2.size); have HRS := hrds; have HRS2 : Hid (RdM (w2.setCell ⟨rb, 0, none⟩ (.slice (some ⟨g', 0, none⟩) (D.S.length + 1) cap')) base Q rb { D with S := D.S ++ [zeroSl 0] } g' cap' ra rcap (L ++ [(.slice none 0 0, .slice none 0 0)])) := hrds; have HT2 : Hid (Turn (fun b => b = rb) w (w2.setCell ⟨rb, 0, none⟩ (.slice (some ⟨g', 0, none⟩) (D.S.length + 1) cap'))) := htn; clear HRS hrds htn hown2 hg2 hat2 hb2))
   go_ret
   exact ⟨congrArg _ (v_int (by push_cast; omega)), ⟨_, _, _, HRS2.out, .inr hgn, fun k hk => List.getElem?_append_left hk⟩, HT2.out⟩
theorem rfreeM_any (w : World) (base : Nat) (Q : Nat -> Nat -> Prop) (rb : Nat) (D : Dc) (g cap : Nat) (ra : Option Addr) (rcap : Nat) (L : List (Value × Value)) (h : RdM w base Q rb D g cap ra rcap L) (hf : Fits D) :
  Calls Tryz.prog 100 #[.pointer (some ⟨rb, 0, none⟩)] w (FreeM w base Q rb (freeD D).2 g ra rcap L (freeD D).1) := by
 cases hi : D.S.findIdx? freeB with
 | none =>
  have e : freeD D = (D.S.length, { D with S := D.S ++ [zeroSl 0] }) := by simp only [freeD, hi]
  rw [e]
  exact rfreeM_none w base Q rb D g cap ra rcap L h hf hi
 | some n =>
  have e : freeD D = (n, D) := by simp only [freeD, hi]
  rw [e]
  refine (rfree_some w _ rb D n h.toS.done.view hf hi).mono ?_
  rintro e w' ⟨rfl, rfl⟩
  exact ⟨rfl, ⟨_, _, _, h, .inl rfl, fun _ _ => rfl⟩, Turn.refl _ _⟩
theorem RdM.push {w w1 w2 : World} {base : Nat} {Q : Nat -> Nat -> Prop} {rb : Nat} {D : Dc} {g cap : Nat} {ra : Option Addr} {rcap : Nat} {L : List (Value × Value)} (h : RdM w base Q rb D g cap ra rcap L) {i : Nat} {s : Sl} {aa : Option Addr} {ac : Nat} {kv kv' : Value} {K : List Nat} {R : Nat -> Prop} {b1 : Nat} (hs : D.S[i]? = some s) (hp : L[i]? = some (.slice aa s.attrs.length ac, kv)) (hac : s.attrs.length <= ac) (hat : AttrsR w R aa s.attrs) (hRQ : ∀ b, R b -> b ≠ g /\ b < w.heap.size /\ b ≠ rb)
  (hkv : ∀ b, kv.ownBlock = some b -> base <= b /\ b ≠ g /\ ¬ R b /\ ∀ k, k ≠ i + 1 -> ¬ Q k b) (hb : Below w.heap.size w w1) (hg : w1.grownBy w2 kv.ownBlock) (hown : w2.ownsRow b1 32 1 kv' K.length (hvals K)) (hat' : kv'.ownBlock = kv.ownBlock \/ kv'.ownBlock = some w1.heap.size) :
  RdM (w2.setCell ⟨g, i * 8 + 7, none⟩ kv') base (setQ Q (i + 1) (fun b => R b \/ kv'.ownBlock = some b)) rb { D with S := D.S.set i { s with kids := K } } g cap ra rcap (L.set i (.slice aa s.attrs.length ac, kv')) := by
 have hgb := h.toS.gb
 have hbs := h.toS.bs
 have hrb := h.rbl
 have hsz := hb.size
 have hs2 := hg.size
 have keep : ∀ b, b < w.heap.size -> kv.ownBlock ≠ some b -> w2.heap[b]? = w.heap[b]? := fun b h1 h2 => (hg.block b (by omega) (fun e => h2 e.symm)).trans (hb.block b h1)
 have kR : ∀ b, R b -> w2.heap[b]? = w.heap[b]? := fun b hb' => keep b (hRQ b hb').2.1 (fun e => (hkv b e).2.2.1 hb')
 have kQ : ∀ k b, k ≠ i + 1 -> Q k b -> w2.heap[b]? = w.heap[b]? := fun k b hk hb' => keep b (h.qne k b hb').2 (fun e => (hkv b e).2.2.2 k hk hb')
 have hi := (List.getElem?_eq_some_iff.1 hs).1
 have hgw : w2.heap[g]? = w.heap[g]? := keep g hgb.2 (fun e => (hkv g e).2.1 rfl)
 have hrw : w2.heap[rb]? = w.heap[rb]? := keep rb (by omega) (fun e => by have := (hkv rb e).1; omega)
 have hkl : ∀ b, kv'.ownBlock = some b -> b ≠ g /\ b < w2.heap.size /\ b ≠ rb := fun b hb' => by
  have hlt := (own_block_lt hown b hb').2
  rcases hat' with e | e
  ·rw [e] at hb'
   obtain ⟨x1, x2, _⟩ := hkv b hb'
   exact ⟨x2, hlt, by omega⟩
  ·rw [e] at hb'
   cases hb'
   exact ⟨by omega, hlt, by omega⟩
 obtain ⟨ka, kc, hke, hkc, hha⟩ := hands_row (R := fun b => kv'.ownBlock = some b) hown (fun b hb => hb)
 have cR : ∀ b o, R b -> w2.cell? ⟨b, o, none⟩ = w.cell? ⟨b, o, none⟩ := fun b o hb' => World.cell?_of_block (w := w) (a := ⟨b, o, none⟩) (kR b hb')
 have cg : ∀ b o, b ≠ g -> (w2.setCell ⟨g, i * 8 + 7, none⟩ kv').cell? ⟨b, o, none⟩ = w2.cell? ⟨b, o, none⟩ := fun b o hb' => World.cell?_of_block (w := w2) (a := ⟨b, o, none⟩) (Below.heap_setCell _ _ _ _ hb')
 have hsz3 : (w2.setCell ⟨g, i * 8 + 7, none⟩ kv').heap.size = w2.heap.size := by simp [World.setCell]
 refine ⟨?_, ?_, by simp [h.len], fun k x y hx hy => ?_, ?_, h.rlen, fun k b hb' => ?_, fun k hb' => ?_, h.rbl⟩
 ·have := (h.head.of_block hrw).other (a := ⟨g, i * 8 + 7, none⟩) (by show rb ≠ g; omega) kv'
  simpa using this
 ·have h0 := own_of_block h.own (w' := w2) (fun k hk => by cases hk; exact hgw)
  have := own_set h0 (i * 8 + 7) kv'
  rw [<- rowOf_set h.len hs hp (j := 7) (by omega) (s' := { s with kids := K }) (p' := (.slice aa s.attrs.length ac, kv')) rfl] at this
  simpa using this
 ·by_cases hk : k = i
  ·subst hk
   rw [List.getElem?_set_self hi] at hx
   rw [List.getElem?_set_self (by rw [h.len]; exact hi)] at hy
   cases hx
   cases hy
   refine ⟨aa, ac, ka, kc, by rw [hke], hac, hkc, hat.to (fun b hb' => setQ_same.2 (.inl hb')) (fun b o hb' => (cg b o (hRQ b hb').1).trans (cR b o hb')), hha.to (fun b hb' => setQ_same.2 (.inr hb')) (fun b o hb' => cg b o (hkl b hb').1)⟩
  ·rw [List.getElem?_set_ne (by omega)] at hx hy
   exact (h.vals k x y hx hy).to (fun b hb' => (setQ_other (by omega)).2 hb') (fun b o hb' => (cg b o (h.qne _ b hb').1).trans (World.cell?_of_block (w := w) (a := ⟨b, o, none⟩) (kQ _ b (by omega) hb')))
 ·exact h.roots.to (fun b hb' => (setQ_other (by omega)).2 hb') (fun b o hb' => (cg b o (h.qne _ b hb').1).trans (World.cell?_of_block (w := w) (a := ⟨b, o, none⟩) (kQ _ b (by omega) hb')))
 ·rw [hsz3]
  rcases hb' with ⟨_, hb' | hb'⟩ | ⟨_, hb'⟩
  ·exact ⟨(hRQ b hb').1, by have := (hRQ b hb').2.1; omega⟩
  ·exact ⟨(hkl b hb').1, (hkl b hb').2.1⟩
  ·exact ⟨(h.qne k b hb').1, by have := (h.qne k b hb').2; omega⟩
 ·rcases hb' with ⟨_, hb' | hb'⟩ | ⟨_, hb'⟩
  ·exact (hRQ rb hb').2.2 rfl
  ·exact (hkl rb hb').2.2 rfl
  ·exact h.nrb k hb'
end Go.Proofs.YtmapmkogjhinmaaGreat
/- The document's making of a tree: what each step keeps. -/
namespace Go.Proofs.YtmapmkogjhinmaaGreat
open Go.RowKit
set_option linter.unusedVariables false
set_option linter.unusedSimpArgs false
structure MG (w : World) (base : Nat) (Q : Nat -> Nat -> Prop) (rb g : Nat) (ra : Option Addr) (rcap : Nat) (D0 : Dc) (L0 : List (Value × Value)) (E : Dc) (w' : World) (Q' : Nat -> Nat -> Prop) (g' : Nat) (L' : List (Value × Value)) : Prop where
 turn : Turn (fun b => b = rb \/ b = g) w w'
 doc : ∃ cap', RdM w' base Q' rb E g' cap' ra rcap L'
 gn : g' = g \/ w.heap.size <= g'
 from' : ∀ k b, Q' k b -> Q k b \/ w.heap.size <= b
 keep : ∀ (k : Nat) (s : Sl), D0.S[k]? = some s -> s.live = true -> (∃ s', E.S[k]? = some s' /\ s'.live = true) /\ L'[k]? = L0[k]? /\ ∀ b, Q' (k + 1) b ↔ Q (k + 1) b
section
variable {w w1 w2 : World} {base : Nat} {Q Q1 Q2 : Nat -> Nat -> Prop} {rb g g1 g2 : Nat} {ra : Option Addr} {rcap : Nat} {D0 D E : Dc} {cap : Nat} {L0 L L1 L2 : List (Value × Value)}
theorem MG.start (h : RdM w base Q rb D g cap ra rcap L) : MG w base Q rb g ra rcap D L D w Q g L := ⟨Turn.refl _ _, ⟨_, h⟩, .inl rfl, fun _ _ h => .inl h, fun k s h1 h2 => ⟨⟨s, h1, h2⟩, rfl, fun _ => Iff.rfl⟩⟩
theorem MG.trans (h : MG w base Q rb g ra rcap D0 L0 D w1 Q1 g1 L1) (k : MG w1 base Q1 rb g1 ra rcap D L1 E w2 Q2 g2 L2) : MG w base Q rb g ra rcap D0 L0 E w2 Q2 g2 L2 := by
 have hs := h.turn.size
 refine ⟨⟨k.turn.os.trans h.turn.os, k.turn.tape.trans h.turn.tape, k.turn.output.trans h.turn.output, Nat.le_trans hs k.turn.size, fun b hb hn => ?_⟩, k.doc, ?_, fun j b hb => ?_, fun j s h1 h2 => ?_⟩
 ·rw [k.turn.block b (by omega) (fun e => ?_), h.turn.block b hb hn]
  rcases e with e | e
  ·exact hn (.inl e)
  ·rcases h.gn with e2 | e2
   ·exact hn (.inr (e.trans e2))
   ·omega
 ·rcases k.gn with e | e
  ·rw [e]; exact h.gn
  ·exact .inr (by omega)
 ·rcases k.from' j b hb with e | e
  ·exact h.from' j b e
  ·exact .inr (by omega)
 ·obtain ⟨⟨s1, a1, a2⟩, a3, a4⟩ := h.keep j s h1 h2
  obtain ⟨b1, b3, b4⟩ := k.keep j s1 a1 a2
  exact ⟨b1, b3.trans a3, fun b => (b4 b).trans (a4 b)⟩
theorem MG.below (h : MG w base Q rb g ra rcap D0 L0 D w1 Q1 g1 L1) (hb : Below w1.heap.size w1 w2) : MG w base Q rb g ra rcap D0 L0 D w2 Q1 g1 L1 := by
 obtain ⟨cap', hd⟩ := h.doc
 exact ⟨h.turn.then hb h.turn.size, ⟨cap', hd.below hb⟩, h.gn, h.from', h.keep⟩
theorem MG.step {R : Nat -> Prop} {i : Nat} {s' : Sl} {p' : Value × Value} (ht : Turn (fun b => b = rb \/ b = g) w w1) (hd : RdM w1 base (setQ Q (i + 1) R) rb E g cap ra rcap (L.set i p')) (hE : E = { D with S := D.S.set i s' }) (hi : ∀ s, D.S[i]? = some s -> s.live = false) (hf : ∀ b, R b -> w.heap.size <= b) : MG w base Q rb g ra rcap D L E w1 (setQ Q (i + 1) R) g (L.set i p') := by
 refine ⟨ht, ⟨_, hd⟩, .inl rfl, fun k b hb => ?_, fun k s h1 h2 => ?_⟩
 ·rcases hb with ⟨_, hb⟩ | ⟨_, hb⟩
  ·exact .inr (hf b hb)
  ·exact .inl hb
 ·have hne : k ≠ i := fun e => by
   subst e
   rw [hi s h1] at h2
   cases h2
  refine ⟨⟨s, ?_, h2⟩, List.getElem?_set_ne (Ne.symm hne), fun b => setQ_other (by omega)⟩
  rw [hE]
  show (D.S.set i s')[k]? = _
  rw [List.getElem?_set_ne (Ne.symm hne)]
  exact h1
theorem MG.free {e : Ending} (h : RdM w base Q rb D g cap ra rcap L) {i : Nat} (k : FreeM w base Q rb (freeD D).2 g ra rcap L i e w1) : ∃ g1 cap1 L1, RdM w1 base Q rb (freeD D).2 g1 cap1 ra rcap L1 /\ (g1 = g \/ w.heap.size <= g1) /\ MG w base Q rb g ra rcap D L (freeD D).2 w1 Q g1 L1 := by
 obtain ⟨_, ⟨g1, cap1, L1, h1, h2, h3⟩, ht⟩ := k
 refine ⟨g1, cap1, L1, h1, h2, ht.mono (fun b _ hb => .inl hb), ⟨_, h1⟩, h2, fun k b hb => .inl hb, fun k s a1 a2 => ⟨⟨s, (free_ne a1 a2).2, a2⟩, h3 k ?_, fun _ => Iff.rfl⟩⟩
 rw [h.len]
 exact (List.getElem?_eq_some_iff.1 a1).1
end
theorem Turn.trans' {rb g : Nat} {a b c : World} (h : Turn (fun x => x = rb \/ x = g) a b) (k : Turn (fun x => x = g) b c) : Turn (fun x => x = rb \/ x = g) a c := h.trans (k.mono (fun _ _ h => .inr h))
def MakeP (w : World) (base : Nat) (Q : Nat -> Nat -> Prop) (rb g : Nat) (ra : Option Addr) (rcap : Nat) (D : Dc) (L : List (Value × Value)) (E : Dc) (h : Nat) (e : Ending) (w' : World) : Prop :=
 e = .returned (.int .u64 (h : Int)) /\ ∃ Q' g' L', MG w base Q rb g ra rcap D L E w' Q' g' L'
def MakeAll (n : Nat) : Prop := ∀ (w : World) (v : Array Value) (t : T n) (lo hi p base : Nat) (Q : Nat -> Nat -> Prop) (rb : Nat) (D : Dc) (g cap : Nat) (ra : Option Addr) (rcap : Nat) (L : List (Value × Value)), TreeAt w lo hi n v t -> hi <= w.heap.size -> hi <= rb -> RdM w base Q rb D g cap ra rcap L ->
  Sane D -> cnt takenB D.S + ndT n t <= 4096 -> (p = 0 \/ ∃ q, sl D p = some q) -> p < 18446744073709551616 -> okT n t ->
  Calls Tryz.prog 66 #[.pointer (some ⟨rb, 0, none⟩), .agg v, .int .u64 (p : Int)] w (MakeP w base Q rb g ra rcap D L (growD n t p D).1 (growD n t p D).2)
end Go.Proofs.YtmapmkogjhinmaaGreat
