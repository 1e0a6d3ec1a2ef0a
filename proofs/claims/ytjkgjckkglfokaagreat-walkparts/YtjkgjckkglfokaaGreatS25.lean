/- TreeOn: what holds all along. -/
import Derived.Test.YtjkgjckkglfokaaGreatS24
import Derived.Test.YtjkgjckkglfokaaGreatRows
import Derived.WalkKit
import Derived.ProofKit
import Derived.OpenShut
import Derived.ChangeOld
import Derived.SizedLaws
import Derived.Deep.Slices
import Derived.Below
import Derived.RangeFuncNested
import Derived.RangeFuncLeaves
import Derived.RangeFuncBound
import Derived.RangeFuncCalls
import Derived.Shelf.Abstract
import Derived.Shelf.RegionOpen
import Derived.OwnWalkIn
import Derived.TacticsInMore
import Derived.LoopNIn
import Derived.LoopIn
import Derived.Test.YtjkgjckkglfokaaGreatProg
import Derived.Maps.OwnIn
import Derived.Test.YtjkgjckkglfokaaGreatS01
namespace Go.Proofs.YtjkgjckkglfokaaGreat.Gr
open Go.RowKit
set_option linter.unusedVariables false
set_option linter.unusedSimpArgs false
def D0 : Dc := ⟨[], []⟩
theorem sl_D0 (h : Nat) : sl D0 h = none := by
 cases e : sl D0 h with
 | none => rfl
 | some s =>
  obtain ⟨i, -, h2, -⟩ := sl_live e
  simp [D0] at h2
theorem lst_D0 (p : Nat) : lst D0 p = [] := by
 by_cases h : p = 0
 ·subst h; rfl
 ·simp [lst, h, sl_D0]
theorem wf_D0 : WF D0 := by
 refine ⟨⟨by simp [D0], fun i s h => by simp [D0] at h⟩, fun i s h => by simp [D0] at h, fun i s h => by simp [D0] at h, fun i s h => by simp [D0] at h, fun i s h => by simp [D0] at h, ⟨fun _ => 0, fun h s e => (by rw [sl_D0] at e; cases e)⟩, fun h s e => (by rw [sl_D0] at e; cases e), fun p _ h hh => (by rw [lst_D0] at hh; cases hh), fun p => (by rw [lst_D0]; exact List.nodup_nil)⟩
theorem start_bo (w : World) : Bo ((w.alloc (.cells #[.slice none 0 0, .slice none 0 0, .int .i64 0] 66)).alloc (.cells #[.slice none 0 0, .slice none 0 0] 68)) (fun b => if b = w.heap.size then 1 else 0) w.heap.size (fun _ => False) (w.heap.size + 1) D0 := by
 have hx := (isCells_new w #[.slice none 0 0, .slice none 0 0, .int .i64 0] 66).alloc (.cells #[.slice none 0 0, .slice none 0 0] 68)
 have hy := isCells_new (w.alloc (.cells #[.slice none 0 0, .slice none 0 0, .int .i64 0] 66)) #[.slice none 0 0, .slice none 0 0] 68
 rw [show (w.alloc (.cells #[.slice none 0 0, .slice none 0 0, .int .i64 0] 66)).heap.size = w.heap.size + 1 from by simp] at hy
 refine ⟨wf_D0, ⟨none, 0, none, 0, [], ?_⟩, ⟨fun b h => h.elim, fun h => h, none, 0, none, 0, hy, Nat.le_refl _, Nat.le_refl _, fun i s h => by simp [D0] at h, fun i x h => by simp [D0] at h⟩, fun b hb => ⟨fun h => h, fun e => ?_⟩⟩
 ·exact ⟨hx, own_nil _ _ _ _, own_nil _ _ _ _, rfl, fun i s p h => by simp [D0] at h, by simp, fun b h => by simp [Value.ownBlock] at h, fun b h => by simp [Value.ownBlock] at h, fun i p b h => by simp at h, fun i p b h => by simp at h, fun b hb => by
   by_cases e : b = w.heap.size
   ·subst e; simp; omega
   ·simp [e] at hb⟩
 ·subst e
  simp at hb
def ActAt (w : World) (hi b o : Nat) : Prop :=
 ∃ k wh how n a nm vl xk xn xa xal xac xt xka xkl xkc, n < 18446744073709551616 /\ a < 18446744073709551616 /\ (∀ j, j < 12 -> w.cell? ⟨b, o + j, none⟩ = (actv k wh how n a nm vl xk xn xa xal xac xt xka xkl xkc)[j]?) /\
  ∃ (m : Nat) (t : T m), TreeAt w 0 hi m #[.int .i64 xk, .string xn, .slice xa xal xac, .string xt, .slice xka xkl xkc] t
def ActsAt (w : World) (hi : Nat) (a : Option Addr) (n : Nat) : Prop := ∀ i, i < n -> ∃ b o, a = some ⟨b, o, none⟩ /\ b < hi /\ ActAt w hi b (o + i * 12)
theorem ActsAt.below {w w' : World} {hi n : Nat} {a : Option Addr} (h : ActsAt w hi a n) (hb : Below hi w w') : ActsAt w' hi a n := by
 intro i hi'
 obtain ⟨b, o, h1, h2, k, wh, how, n, a, nm, vl, xk, xn, xa, xal, xac, xt, xka, xkl, xkc, g1, g2, g3, m, t, g4⟩ := h i hi'
 exact ⟨b, o, h1, h2, k, wh, how, n, a, nm, vl, xk, xn, xa, xal, xac, xt, xka, xkl, xkc, g1, g2, fun j hj => (hb.cell (p := ⟨b, _, none⟩) h2).trans (g3 j hj), m, t, g4.of_cells (fun b o _ hb' => hb.cell (p := ⟨b, o, none⟩) hb')⟩
structure Pr (w wr : World) (ro : Nat -> Nat) (db : Nat) (Q : Nat -> Prop) (rb : Nat) (D : Dc) : Prop where
 bel : Below w.heap.size w wr
 bo : Bo wr ro db Q rb D
 lo : ∀ b, ro b ≠ 0 -> w.heap.size <= b
 rlo : w.heap.size <= rb
theorem Pr.below {w wr w' : World} {ro : Nat -> Nat} {db : Nat} {Q : Nat -> Prop} {rb : Nat} {D : Dc} (h : Pr w wr ro db Q rb D) (hb : Below wr.heap.size wr w') : Pr w w' ro db Q rb D := ⟨h.bel.trans (hb.mono h.bel.size), h.bo.below hb, h.lo, h.rlo⟩
theorem Pr.step {w wr w' : World} {ro : Nat -> Nat} {db : Nat} {Q : Nat -> Prop} {rb : Nat} {D : Dc} {e : Ending} (h : Pr w wr ro db Q rb D) (hd : DoP wr ro db Q rb e w') : e = .returned (.bool true) /\ ∃ ro' Q' D', Pr w w' ro' db Q' rb D' := by
 obtain ⟨h1, h2, ro', Q', D', h3, h4, h5⟩ := hd
 refine ⟨h1, ro', Q', D', h.bel.trans (h2.below h.bel.size (fun b hb => ?_)), h3, fun b hb => ?_, h.rlo⟩
 ·rcases hb with hb | rfl
  ·exact h.lo b hb
  ·exact h.rlo
 ·rcases h4 b hb with hb | hb
  ·exact h.lo b hb
  ·exact Nat.le_trans h.bel.size hb
structure Ap (ro1 : Nat -> Nat) (Q1 : Nat -> Prop) (rb1 : Nat) (ro2 : Nat -> Nat) (Q2 : Nat -> Prop) (rb2 : Nat) : Prop where
 a1 : ∀ b, ro1 b ≠ 0 -> ro2 b = 0 /\ ¬ Q2 b /\ b ≠ rb2
 a2 : ∀ b, ro2 b ≠ 0 -> ¬ Q1 b /\ b ≠ rb1
 a3 : ¬ Q2 rb1 /\ ¬ Q1 rb2 /\ rb1 ≠ rb2
theorem Ap.symm {ro1 : Nat -> Nat} {Q1 : Nat -> Prop} {rb1 : Nat} {ro2 : Nat -> Nat} {Q2 : Nat -> Prop} {rb2 : Nat} (h : Ap ro1 Q1 rb1 ro2 Q2 rb2) : Ap ro2 Q2 rb2 ro1 Q1 rb1 :=
 ⟨fun b hb => ⟨Decidable.byContradiction fun e => hb (h.a1 b e).1, h.a2 b hb⟩, fun b hb => (h.a1 b hb).2, ⟨h.a3.2.1, h.a3.1, fun e => h.a3.2.2 e.symm⟩⟩
def Two2 (w wr : World) (db1 rb1 db2 rb2 : Nat) : Prop := ∃ ro1 Q1 D1 ro2 Q2 D2, Pr w wr ro1 db1 Q1 rb1 D1 /\ Pr w wr ro2 db2 Q2 rb2 D2 /\ Ap ro1 Q1 rb1 ro2 Q2 rb2
theorem Two2.symm {w wr : World} {db1 rb1 db2 rb2 : Nat} (h : Two2 w wr db1 rb1 db2 rb2) : Two2 w wr db2 rb2 db1 rb1 := by
 obtain ⟨ro1, Q1, D1, ro2, Q2, D2, h1, h2, h3⟩ := h
 exact ⟨ro2, Q2, D2, ro1, Q1, D1, h2, h1, h3.symm⟩
theorem Pr.does {w wr : World} {ro : Nat -> Nat} {db : Nat} {Q : Nat -> Prop} {rb : Nat} {D : Dc} (h : Pr w wr ro db Q rb D) {k wh : Int} {how : Bool} {n a : Nat} {nm vl : ByteArray} {xk : Int} {xn : ByteArray} {xa : Option Addr} {xal xac : Nat} {xt : ByteArray} {xka : Option Addr} {xkl xkc : Nat} (hn : n < 18446744073709551616) (ha : a < 18446744073709551616)
  {m : Nat} {t : T m} (htr : TreeAt wr 0 w.heap.size m #[.int .i64 xk, .string xn, .slice xa xal xac, .string xt, .slice xka xkl xkc] t) :
  Calls Tryz.prog 15 #[.iface 34 (.pointer (some ⟨db, 0, none⟩)), .pointer (some ⟨rb, 0, none⟩), .agg (actv k wh how n a nm vl xk xn xa xal xac xt xka xkl xkc)] wr (DoP wr ro db Q rb) :=
 does_any wr ro db Q rb D h.bo k wh how n a nm vl xk xn xa xal xac xt xka xkl xkc hn ha m t 0 w.heap.size htr h.rlo h.lo
end Go.Proofs.YtjkgjckkglfokaaGreat.Gr
/- A tree that is read as data lies in memory as a tree. -/
namespace Go.Proofs.YtjkgjckkglfokaaGreat.Gr
open Go.RowKit Go.Deep
set_option linter.unusedVariables false
set_option linter.unusedSimpArgs false
set_option maxRecDepth 100000
theorem cells46 : Tryz.prog.cellsOf 31 = 5 := by kernel_rfl
theorem cells128 : Tryz.prog.cellsOf 124 = 2 := by kernel_rfl
theorem cells3 : Tryz.prog.cellsOf 3 = 1 := by kernel_rfl
theorem cells9 : Tryz.prog.cellsOf 9 = 1 := by kernel_rfl
theorem cells43 : Tryz.prog.cellsOf 28 = 1 := by kernel_rfl
theorem cells44 : Tryz.prog.cellsOf 29 = 1 := by kernel_rfl
theorem bytes46 : Tryz.prog.bytesOf 31 = 88 := by kernel_rfl
theorem bytes128 : Tryz.prog.bytesOf 124 = 32 := by kernel_rfl
def Wt {H : Type} (t : TypeId) (d : DataW H) : Prop := ∀ y ∈ d.weights Tryz.prog t, y <= reachBytes
theorem wt_slice {H : Type} {t e : TypeId} {es sp : List (DataW H)} (hu : Tryz.prog.underlying t = some (.slice e)) (h : Wt t (.slice es sp)) : (es.length + sp.length) * Tryz.prog.bytesOf e <= reachBytes /\ ∀ d ∈ es, Wt e d := by
 unfold Wt at h
 simp only [DataW.weights, hu] at h
 refine ⟨h _ (by simp), fun d hd y hy => h y ?_⟩
 refine List.mem_cons_of_mem _ (List.mem_append_left _ ?_)
 clear h
 induction es with
 | nil => simp at hd
 | cons a r ih =>
  simp only [DataW.weightsAll, List.mem_append]
  rcases List.mem_cons.1 hd with rfl | hd
  ·exact .inl hy
  ·exact .inr (ih hd)
theorem wt_each {H : Type} : ∀ {ts : List TypeId} {ds : List (DataW H)}, (∀ y ∈ DataW.weightsEach Tryz.prog ts ds, y <= reachBytes) -> ∀ {j : Nat} {t : TypeId} {d : DataW H}, ts[j]? = some t -> ds[j]? = some d -> Wt t d
 | [], ds, h, j, t, d, ht, hd => by simp at ht
 | t0 :: ts, [], h, j, t, d, ht, hd => by simp at hd
 | t0 :: ts, d0 :: ds, h, j, t, d, ht, hd => by
  simp only [DataW.weightsEach, List.mem_append] at h
  cases j with
  | zero =>
   simp at ht hd
   subst ht hd
   exact fun y hy => h y (.inl hy)
  | succ j => exact wt_each (fun y hy => h y (.inr hy)) (j := j) (by simpa using ht) (by simpa using hd)
theorem listOf9 {α : Type} : ∀ (len : Nat) (p : Nat -> α -> Prop), (∀ i, i < len -> ∃ k, p i k) -> ∃ L : List α, L.length = len /\ ∀ i k, L[i]? = some k -> p i k
 | 0, p, h => ⟨[], rfl, fun i k hk => by simp at hk⟩
 | len + 1, p, h => by
  obtain ⟨L, hl, hL⟩ := listOf9 len p (fun i hi => h i (by omega))
  obtain ⟨x, hx⟩ := h len (by omega)
  refine ⟨L ++ [x], by simp [hl], fun i k hk => ?_⟩
  rcases Nat.lt_or_ge i len with hi | hi
  ·rw [List.getElem?_append_left (by omega)] at hk
   exact hL i k hk
  ·have : i = len := by
    have := (List.getElem?_eq_some_iff.1 hk).1
    simp at this
    omega
   subst this
   rw [List.getElem?_append_right (by omega), hl] at hk
   simp at hk
   subst hk
   exact hx
theorem slice_cells {H : Type} {enc : TypeId × Value -> H} {W : World} {held : Bool} {fuel : Nat} {t e : TypeId} {sz : Nat} {a : Option Addr} {len cap : Nat} {x : DataW H × List MemPlace} (hu : Tryz.prog.underlying t = some (.slice e)) (hc : Tryz.prog.cellsOf e = sz) (hsz : 0 < sz)
  (h : DataW.trod enc Tryz.prog W 0 (fun _ => true) held fuel t [.slice a len cap] = some x) (hw : Wt t x.1) : len <= cap /\ len * Tryz.prog.bytesOf e <= reachBytes /\ ∃ n, n + 1 <= fuel /\ ∀ i, i < len -> ∃ (b o : Nat) (cs : List Value) (y : DataW H × List MemPlace), a = some ⟨b, o, none⟩ /\ b < W.heap.size /\ cs.length = sz /\ (∀ j, j < sz -> W.cell? ⟨b, o + i * sz + j, none⟩ = cs[j]?) /\ DataW.trod enc Tryz.prog W 0 (fun _ => true) held n e cs = some y /\ Wt e y.1 := by
 rcases DataW.trod_slice hu h with ⟨hcs, hx⟩ | ⟨ad, l, c, elems, rest, n, hf, hcs, hx, hb, hl, hm, hlen, hel, hsp, _⟩
 ·simp at hcs
  obtain ⟨rfl, rfl, rfl⟩ := hcs
  refine ⟨Nat.le_refl _, by simp, 0, ?_, fun i hi => by omega⟩
  cases fuel with
  | zero => simp [DataW.trod] at h
  | succ n => omega
 ·simp at hcs
  obtain ⟨rfl, rfl, rfl⟩ := hcs
  subst hx
  obtain ⟨w1, w2⟩ := wt_slice hu hw
  simp only [List.length_map] at w1
  refine ⟨hl, Nat.le_trans (Nat.mul_le_mul_right _ (by omega)) w1, n, by omega, fun i hi => ?_⟩
  have h1 := hel i hi
  rw [List.getElem?_eq_getElem (by omega), hc] at h1
  obtain ⟨cs, h2, h3⟩ := Option.bind_eq_some_iff.1 h1
  obtain ⟨_, h4, h5⟩ := World.cells?_some h2
  have h6 := h5 0 hsz
  rw [List.getElem?_eq_getElem (by omega)] at h6
  have hspot : ad.spot = none := by
   have g1 := hel 0 (by omega)
   rw [List.getElem?_eq_getElem (by omega), hc] at g1
   obtain ⟨cs0, g2, _⟩ := Option.bind_eq_some_iff.1 g1
   obtain ⟨_, g4, g5⟩ := World.cells?_some g2
   have g6 := g5 0 hsz
   rw [List.getElem?_eq_getElem (by omega)] at g6
   simpa [Addr.add] using World.cell?_spot g6
  obtain ⟨b, o, spot⟩ := ad
  simp only at hspot
  subst hspot
  refine ⟨b, o, cs, elems[i], rfl, ?_, h4, fun j hj => ?_, h3, w2 _ (List.mem_map_of_mem (List.getElem_mem _))⟩
  ·rw [addr_plus, addr_plus] at h6
   exact World.block_lt_of_cell? W _ h6
  ·have := h5 j hj
   rw [addr_plus, addr_plus] at this
   exact this
theorem reach_a {n : Nat} (h : n * 32 <= reachBytes) : n <= maxA := by unfold reachBytes at h; unfold maxA; omega
theorem reach_k {n : Nat} (h : n * 88 <= reachBytes) : n <= maxK := by unfold reachBytes at h; unfold maxK; omega
theorem attrs_of {H : Type} {enc : TypeId × Value -> H} {W : World} {held : Bool} {fuel : Nat} {a : Option Addr} {len cap : Nat} {x : DataW H × List MemPlace} (h : DataW.trod enc Tryz.prog W 0 (fun _ => true) held fuel 28 [.slice a len cap] = some x) (hw : Wt 28 x.1) :
  ∃ l : List (ByteArray × ByteArray), l.length = len /\ len <= cap /\ len <= maxA /\ AttrsAt W 0 W.heap.size a l := by
 obtain ⟨h1, h2, n, _, h3⟩ := slice_cells Tryz.underlying28 cells128 (by decide) h hw
 rw [bytes128] at h2
 obtain ⟨l, hl, hL⟩ := listOf9 len (fun i (p : ByteArray × ByteArray) => ∃ (b o : Nat), a = some ⟨b, o, none⟩ /\ b < W.heap.size /\ W.cell? ⟨b, o + i * 2, none⟩ = some (.string p.1) /\ W.cell? ⟨b, o + i * 2 + 1, none⟩ = some (.string p.2)) (fun i hi => by
  obtain ⟨b, o, cs, y, e1, e2, e3, e4, e5, _⟩ := h3 i hi
  obtain ⟨xs, n', _, _, _, g4, g5⟩ := DataW.trod_struct Tryz.underlying124 e5
  have x2 : xs.length = 2 := g4
  have f0 : DataW.trod enc Tryz.prog W 0 (fun _ => true) held n' 9 ((cs.drop 0).take (Tryz.prog.cellsOf 9)) = xs[0]? := g5 0 _ rfl
  have f1 : DataW.trod enc Tryz.prog W 0 (fun _ => true) held n' 9 ((cs.drop 1).take (Tryz.prog.cellsOf 9)) = xs[1]? := g5 1 _ rfl
  rw [cells9, List.getElem?_eq_getElem (by omega)] at f0 f1
  obtain ⟨s0, q0, _⟩ := DataW.trod_string Tryz.underlying9 f0
  obtain ⟨s1, q1, _⟩ := DataW.trod_string Tryz.underlying9 f1
  obtain ⟨c0, c1, rfl⟩ : ∃ c0 c1, cs = [c0, c1] := by
   match cs, e3 with
   | [c0, c1], _ => exact ⟨c0, c1, rfl⟩
  simp at q0 q1
  subst q0 q1
  exact ⟨(s0, s1), b, o, e1, e2, e4 0 (by omega), e4 1 (by omega)⟩)
 refine ⟨l, hl, h1, reach_a h2, fun i p hp => ?_⟩
 obtain ⟨b, o, e1, e2, e3, e4⟩ := hL i p hp
 exact ⟨b, o, e1, Nat.zero_le _, e2, e3, e4⟩
theorem tree_of {H : Type} {enc : TypeId × Value -> H} {W : World} {held : Bool} : ∀ (N fuel : Nat) (cs : List Value) (x : DataW H × List MemPlace), fuel <= N -> DataW.trod enc Tryz.prog W 0 (fun _ => true) held fuel 31 cs = some x -> Wt 31 x.1 -> ∃ t : T N, TreeAt W 0 W.heap.size N cs.toArray t
 | 0, fuel, cs, x, hN, h, hw => by
  have : fuel = 0 := by omega
  subst this
  simp [DataW.trod] at h
 | N + 1, fuel, cs, x, hN, h, hw => by
  obtain ⟨xs, n', hf, rfl, hl, g4, g5⟩ := DataW.trod_struct Tryz.underlying31 h
  have x5 : xs.length = 5 := g4
  rw [cells46] at hl
  have f0 : DataW.trod enc Tryz.prog W 0 (fun _ => true) held n' 3 ((cs.drop 0).take (Tryz.prog.cellsOf 3)) = xs[0]? := g5 0 _ rfl
  have f1 : DataW.trod enc Tryz.prog W 0 (fun _ => true) held n' 9 ((cs.drop 1).take (Tryz.prog.cellsOf 9)) = xs[1]? := g5 1 _ rfl
  have f2 : DataW.trod enc Tryz.prog W 0 (fun _ => true) held n' 28 ((cs.drop 2).take (Tryz.prog.cellsOf 28)) = xs[2]? := g5 2 _ rfl
  have f3 : DataW.trod enc Tryz.prog W 0 (fun _ => true) held n' 9 ((cs.drop 3).take (Tryz.prog.cellsOf 9)) = xs[3]? := g5 3 _ rfl
  have f4 : DataW.trod enc Tryz.prog W 0 (fun _ => true) held n' 29 ((cs.drop 4).take (Tryz.prog.cellsOf 29)) = xs[4]? := g5 4 _ rfl
  have hww : ∀ y ∈ DataW.weightsEach Tryz.prog [3, 9, 28, 9, 29] (xs.map (·.1)), y <= reachBytes := by
   intro y hy
   refine hw y ?_
   simp only [DataW.weights, Tryz.underlying31]
   exact hy
  have w2 : Wt 28 (xs[2]'(by omega)).1 := wt_each hww (j := 2) rfl (by rw [List.getElem?_map, List.getElem?_eq_getElem (by omega)]; rfl)
  have w4 : Wt 29 (xs[4]'(by omega)).1 := wt_each hww (j := 4) rfl (by rw [List.getElem?_map, List.getElem?_eq_getElem (by omega)]; rfl)
  rw [List.getElem?_eq_getElem (by omega)] at f0 f1 f2 f3 f4
  rw [cells3] at f0
  rw [cells9] at f1 f3
  rw [cells43] at f2
  rw [cells44] at f4
  obtain ⟨c0, c1, c2, c3, c4, rfl⟩ : ∃ c0 c1 c2 c3 c4, cs = [c0, c1, c2, c3, c4] := by
   match cs, hl with
   | [c0, c1, c2, c3, c4], _ => exact ⟨c0, c1, c2, c3, c4, rfl⟩
  simp at f0 f1 f2 f3 f4
  obtain ⟨k, q0, _⟩ := DataW.trod_int Tryz.underlying3 f0
  obtain ⟨nm, q1, _⟩ := DataW.trod_string Tryz.underlying9 f1
  obtain ⟨tx, q3, _⟩ := DataW.trod_string Tryz.underlying9 f3
  simp at q0 q1 q3
  subst q0 q1 q3
  obtain ⟨a, al, ac, rfl⟩ : ∃ a al ac, c2 = .slice a al ac := by
   rcases DataW.trod_slice Tryz.underlying28 f2 with ⟨e, _⟩ | ⟨ad, l, c, _, _, _, _, e, _⟩
   ·simp at e; exact ⟨_, _, _, e⟩
   ·simp at e; exact ⟨_, _, _, e⟩
  obtain ⟨ka, kl, kc, rfl⟩ : ∃ a al ac, c4 = .slice a al ac := by
   rcases DataW.trod_slice Tryz.underlying29 f4 with ⟨e, _⟩ | ⟨ad, l, c, _, _, _, _, e, _⟩
   ·simp at e; exact ⟨_, _, _, e⟩
   ·simp at e; exact ⟨_, _, _, e⟩
  obtain ⟨l, rfl, la, lb, hat⟩ := attrs_of f2 w2
  obtain ⟨ka1, ka2, n, hn, hkid⟩ := slice_cells Tryz.underlying29 cells46 (by decide) f4 w4
  rw [bytes46] at ka2
  obtain ⟨L, rfl, hL⟩ := listOf9 kl (fun i (q : T N) => ∃ (b o : Nat) (u : Array Value), ka = some ⟨b, o, none⟩ /\ 0 <= b /\ b < W.heap.size /\ u.size = 5 /\ (∀ j, j < 5 -> W.cell? ⟨b, o + i * 5 + j, none⟩ = u[j]?) /\ TreeAt W 0 W.heap.size N u q) (fun i hi => by
   obtain ⟨b, o, cs, y, e1, e2, e3, e4, e5, e6⟩ := hkid i hi
   obtain ⟨q, hq⟩ := tree_of N n cs y (by omega) e5 e6
   exact ⟨q, b, o, cs.toArray, e1, Nat.zero_le _, e2, by simpa using e3, fun j hj => by rw [e4 j hj]; simp, hq⟩)
  exact ⟨({ kind := k, name := nm, attrs := l, text := tx, kids := L } : Nd (T N)), a, ac, ka, kc, rfl, lb, reach_k ka2, la, ka1, hat, hL⟩
theorem cells48 : Tryz.prog.cellsOf 33 = 12 := by kernel_rfl
theorem bytes48 : Tryz.prog.bytesOf 33 = 160 := by kernel_rfl
theorem cells4 : Tryz.prog.cellsOf 4 = 1 := by kernel_rfl
theorem cells42 : Tryz.prog.cellsOf 27 = 1 := by kernel_rfl
theorem u64_of {n : Int} (h : (Lit.int .u64 n).wf = true) : ∃ m : Nat, n = (m : Int) /\ m < 18446744073709551616 := by
 have hb := bounds_u64 h
 exact ⟨n.toNat, by omega, by omega⟩
theorem act_form {H : Type} {enc : TypeId × Value -> H} {W : World} {held : Bool} {fuel : Nat} {cs : List Value} {x : DataW H × List MemPlace} (h : DataW.trod enc Tryz.prog W 0 (fun _ => true) held fuel 33 cs = some x) (hw : Wt 33 x.1) (hl : cs.length = 12) : ∃ k wh how n a nm vl xk xn xa xal xac xt xka xkl xkc, n < 18446744073709551616 /\ a < 18446744073709551616 /\ cs = (actv k wh how n a nm vl xk xn xa xal xac xt xka xkl xkc).toList /\ ∃ (m : Nat) (t : T m), TreeAt W 0 W.heap.size m #[.int .i64 xk, .string xn, .slice xa xal xac, .string xt, .slice xka xkl xkc] t := by
 obtain ⟨xs, n', hf, rfl, _, g4, g5⟩ := DataW.trod_struct Tryz.underlying33 h
 have x8 : xs.length = 8 := g4
 have f0 : DataW.trod enc Tryz.prog W 0 (fun _ => true) held n' 3 ((cs.drop 0).take (Tryz.prog.cellsOf 3)) = xs[0]? := g5 0 _ rfl
 have f1 : DataW.trod enc Tryz.prog W 0 (fun _ => true) held n' 3 ((cs.drop 1).take (Tryz.prog.cellsOf 3)) = xs[1]? := g5 1 _ rfl
 have f2 : DataW.trod enc Tryz.prog W 0 (fun _ => true) held n' 4 ((cs.drop 2).take (Tryz.prog.cellsOf 4)) = xs[2]? := g5 2 _ rfl
 have f3 : DataW.trod enc Tryz.prog W 0 (fun _ => true) held n' 27 ((cs.drop 3).take (Tryz.prog.cellsOf 27)) = xs[3]? := g5 3 _ rfl
 have f4 : DataW.trod enc Tryz.prog W 0 (fun _ => true) held n' 27 ((cs.drop 4).take (Tryz.prog.cellsOf 27)) = xs[4]? := g5 4 _ rfl
 have f5 : DataW.trod enc Tryz.prog W 0 (fun _ => true) held n' 9 ((cs.drop 5).take (Tryz.prog.cellsOf 9)) = xs[5]? := g5 5 _ rfl
 have f6 : DataW.trod enc Tryz.prog W 0 (fun _ => true) held n' 9 ((cs.drop 6).take (Tryz.prog.cellsOf 9)) = xs[6]? := g5 6 _ rfl
 have f7 : DataW.trod enc Tryz.prog W 0 (fun _ => true) held n' 31 ((cs.drop 7).take (Tryz.prog.cellsOf 31)) = xs[7]? := g5 7 _ rfl
 have hww : ∀ y ∈ DataW.weightsEach Tryz.prog [3, 3, 4, 27, 27, 9, 9, 31] (xs.map (·.1)), y <= reachBytes := by
  intro y hy
  refine hw y ?_
  simp only [DataW.weights, Tryz.underlying33]
  exact hy
 have w7 : Wt 31 (xs[7]'(by omega)).1 := wt_each hww (j := 7) rfl (by rw [List.getElem?_map, List.getElem?_eq_getElem (by omega)]; rfl)
 rw [List.getElem?_eq_getElem (by omega)] at f0 f1 f2 f3 f4 f5 f6 f7
 rw [cells3] at f0 f1
 rw [cells4] at f2
 rw [cells42] at f3 f4
 rw [cells9] at f5 f6
 rw [cells46] at f7
 obtain ⟨c0, c1, c2, c3, c4, c5, c6, c7, c8, c9, c10, c11, rfl⟩ : ∃ c0 c1 c2 c3 c4 c5 c6 c7 c8 c9 c10 c11, cs = [c0, c1, c2, c3, c4, c5, c6, c7, c8, c9, c10, c11] := by
  match cs, hl with
  | [c0, c1, c2, c3, c4, c5, c6, c7, c8, c9, c10, c11], _ => exact ⟨c0, c1, c2, c3, c4, c5, c6, c7, c8, c9, c10, c11, rfl⟩
 simp at f0 f1 f2 f3 f4 f5 f6 f7
 obtain ⟨k, q0, _⟩ := DataW.trod_int Tryz.underlying3 f0
 obtain ⟨wh, q1, _⟩ := DataW.trod_int Tryz.underlying3 f1
 obtain ⟨how, q2, _⟩ := DataW.trod_bool Tryz.underlying4 f2
 obtain ⟨n, q3, _, hn⟩ := DataW.trod_int Tryz.underlying27 f3
 obtain ⟨a, q4, _, ha⟩ := DataW.trod_int Tryz.underlying27 f4
 obtain ⟨nm, q5, _⟩ := DataW.trod_string Tryz.underlying9 f5
 obtain ⟨vl, q6, _⟩ := DataW.trod_string Tryz.underlying9 f6
 simp at q0 q1 q2 q3 q4 q5 q6
 subst q0 q1 q2 q3 q4 q5 q6
 obtain ⟨n, rfl, hn9⟩ := u64_of hn
 obtain ⟨a, rfl, ha9⟩ := u64_of ha
 obtain ⟨t, ht⟩ := tree_of n' n' _ _ (Nat.le_refl _) f7 w7
 obtain ⟨xk, xn, xa, xal, xac, xt, xka, xkl, xkc, e⟩ := ht.toR.form
 simp at e
 obtain ⟨rfl, rfl, rfl, rfl, rfl⟩ := e
 exact ⟨k, wh, how, n, a, nm, vl, xk, xn, xa, xal, xac, xt, xka, xkl, xkc, hn9, ha9, rfl, n', t, ht⟩
theorem act_of {H : Type} {enc : TypeId × Value -> H} {W : World} {held : Bool} {fuel : Nat} {cs : List Value} {x : DataW H × List MemPlace} {b o : Nat} (h : DataW.trod enc Tryz.prog W 0 (fun _ => true) held fuel 33 cs = some x) (hw : Wt 33 x.1) (hl : cs.length = 12) (hc : ∀ j, j < 12 -> W.cell? ⟨b, o + j, none⟩ = cs[j]?) : ActAt W W.heap.size b o := by
 obtain ⟨k, wh, how, n, a, nm, vl, xk, xn, xa, xal, xac, xt, xka, xkl, xkc, g1, g2, rfl, m, t, ht⟩ := act_form h hw hl
 exact ⟨k, wh, how, n, a, nm, vl, xk, xn, xa, xal, xac, xt, xka, xkl, xkc, g1, g2, fun j hj => by rw [hc j hj]; simp, m, t, ht⟩
theorem acts_of {H : Type} {enc : TypeId × Value -> H} {W : World} {held : Bool} {fuel : Nat} {a : Option Addr} {len cap : Nat} {x : DataW H × List MemPlace} (h : DataW.trod enc Tryz.prog W 0 (fun _ => true) held fuel 50 [.slice a len cap] = some x) (hw : Wt 50 x.1) : ActsAt W W.heap.size a len /\ len < 4611686018427387904 := by
 obtain ⟨h1, h2, n, _, h3⟩ := slice_cells Tryz.underlying50 cells48 (by decide) h hw
 rw [bytes48] at h2
 refine ⟨fun i hi => ?_, by unfold reachBytes at h2; omega⟩
 obtain ⟨b, o, cs, y, e1, e2, e3, e4, e5, e6⟩ := h3 i hi
 exact ⟨b, o, e1, e2, act_of e5 e6 e3 e4⟩
end Go.Proofs.YtjkgjckkglfokaaGreat.Gr
/- A range over a function, by who owns what: an iterator, whoever ranges over it, and the statement. -/
namespace Go.Proofs.YtjkgjckkglfokaaGreat
open Go.RowKit Go.Shelf
set_option linter.unusedVariables false
set_option linter.unusedSimpArgs false
structure Tn (A : Nat -> Prop) (w w' : World) : Prop where
 os : w'.os = w.os
 tape : w'.tape = w.tape
 output : w'.output = w.output
 size : w.heap.size <= w'.heap.size
 block : ∀ k, k < w.heap.size -> ¬ A k -> w'.heap[k]? = w.heap[k]?
theorem Tn.refl (A : Nat -> Prop) (w : World) : Tn A w w := ⟨rfl, rfl, rfl, Nat.le_refl _, fun _ _ _ => rfl⟩
theorem Tn.mono {A B : Nat -> Prop} {a b : World} (h : Tn A a b) (hAB : ∀ k, k < a.heap.size -> A k -> B k) : Tn B a b :=
 ⟨h.os, h.tape, h.output, h.size, fun i hi hb => h.block i hi (fun ha => hb (hAB i hi ha))⟩
theorem Tn.trans {A B : Nat -> Prop} {a b c : World} (h : Tn A a b) (k : Tn B b c) (hB : ∀ i, i < a.heap.size -> B i -> A i) : Tn A a c :=
 ⟨k.os.trans h.os, k.tape.trans h.tape, k.output.trans h.output, Nat.le_trans h.size k.size, fun i hi ha => (k.block i (Nat.lt_of_lt_of_le hi h.size) (fun hb => ha (hB i hi hb))).trans (h.block i hi ha)⟩
theorem Tn.of_below {A : Nat -> Prop} {B : Nat} {a b : World} (h : Below B a b) (hB : a.heap.size <= B) : Tn A a b := ⟨h.os, h.tape, h.output, h.size, fun i hi _ => h.block i (by omega)⟩
theorem Tn.below {A : Nat -> Prop} {B : Nat} {a b : World} (h : Tn A a b) (hB : B <= a.heap.size) (hA : ∀ k, A k -> B <= k) : Below B a b :=
 ⟨h.os, h.tape, h.output, h.size, fun k hk => h.block k (by omega) (fun ha => by have := hA k ha; omega)⟩
theorem Tn.put (w : World) (l : Nat) (o : Obj) : Tn (fun k => k = l) w (w.putObj l o) := ⟨rfl, rfl, rfl, by simp, fun k _ hn => World.putObj_heap_other hn⟩
theorem Tn.set {A : Nat -> Prop} {a w : World} (h : Tn A a w) {p : Addr} (hp : A p.block \/ a.heap.size <= p.block) (u : Value) : Tn A a (w.setCell p u) :=
 ⟨h.os, h.tape, h.output, Nat.le_trans h.size (by simp [World.setCell]), fun k hk ha => (Below.heap_setCell _ _ _ _ (fun e => by
  rcases hp with hp | hp
  ·exact ha (by rw [e]; exact hp)
  ·omega)).trans (h.block k hk ha)⟩
theorem Tn.alloc {A : Nat -> Prop} {a w : World} (h : Tn A a w) (o : Obj) : Tn A a (w.alloc o) :=
 ⟨h.os, h.tape, h.output, Nat.le_trans h.size (by simp), fun k hk ha => (Below.heap_alloc _ _ _ (Nat.lt_of_lt_of_le hk h.size)).trans (h.block k hk ha)⟩
theorem Tn.drew {A : Nat -> Prop} {a w : World} (h : Tn A a w) : Tn A a w.drew := ⟨h.os, h.tape, h.output, h.size, h.block⟩
abbrev Inv (α : Type) := List α -> (Nat -> Prop) -> World -> Prop
def Stb {α : Type} (D : Nat -> Prop) (J : Inv α) : Prop := (∀ s C X, J s C X -> ∀ b, C b \/ D b -> b < X.heap.size) /\ ∀ s C A X Y, J s C X -> Tn A X Y -> (∀ b, C b \/ D b -> ¬ A b) -> J s C Y
def RoundOk {α : Type} (P : Program) (l : Nat) (encs : α -> Array Value) (xs : List α) (J Jx : Inv α) : Prop :=
 ∀ pre x C X, pre ++ [x] <+: xs -> J pre C X -> YieldAt Fence.wide 0 P l (encs x) X fun e Y => ∃ C', Tn C X Y /\ (∀ b, C' b -> C b \/ X.heap.size <= b) /\ ((e = .returned (.bool true) /\ J (pre ++ [x]) C' Y) \/ (e = .returned (.bool false) /\ Jx (pre ++ [x]) C' Y))
structure IsSeq {α : Type} (P : Program) (gf : Nat) (lb : Array Value) (encs : α -> Array Value) (xs : List α) (R T : Nat -> Prop) (Sq : World -> Prop) : Prop where
 sub : ∀ b, T b -> R b
 lt : ∀ W, Sq W -> ∀ b, R b -> b < W.heap.size
 stab : ∀ W W' A, Sq W -> Tn A W W' -> (∀ b, R b -> ¬ A b) -> Sq W'
 run : ∀ W l (J Jx : Inv α) C0 D, Sq W -> Stb D J -> Stb D Jx -> RoundOk P l encs xs J Jx -> J [] C0 W -> (∀ b, C0 b -> ¬ R b) -> (∀ b, D b -> ¬ T b) ->
  CallsIn Fence.wide 0 P gf (#[.func (.yield l) #[] #[]] ++ lb) W fun e Y => (∃ v, e = .returned v) /\ Tn (fun b => T b \/ C0 b) W Y /\ Sq Y /\ ∃ C, (∀ b, C b -> C0 b \/ W.heap.size <= b) /\ (J xs C Y \/ ∃ pre, pre <+: xs /\ Jx pre C Y)
def RPost {α : Type} (I : Inv α) (Ix : Code -> Inv α) (s : List α) (C : Nat -> Prop) (W : World) (e : Exit) (Y : World) : Prop :=
 ∃ C', Tn C W Y /\ (∀ b, C' b -> C b \/ W.heap.size <= b) /\ match e with
  | .normal => I s C' Y
  | .ret => Ix .ret s C' Y
  | .exit id => Ix (.exit id) s C' Y
  | .goto t => Ix (.goto t) s C' Y
  | .panic _ => False
  | .outgrown => False
theorem range_it {α : Type} {P : Program} {g : Operand} {ps : Array Tmp} {assign body : Code} {Q : Exit -> Act -> World -> Prop} {a : Act} {w : World} {gf : Nat} {lb : Array Value} (hg : a.eval g = .func (.func gf) #[] lb)
  (eg : ∀ args w, (callFunc gf args).run P w = .ok (.enter gf args) w) {encs : α -> Array Value} (hps : ∀ x, (encs x).size = ps.size) {xs : List α} {R T : Nat -> Prop} {Sq : World -> Prop} (hs : IsSeq P gf lb encs xs R T Sq) (hw : Sq w)
  (I : Inv α) (Ix : Code -> Inv α) (D : Nat -> Prop) (hI : Stb D I) (hIx : ∀ c, Stb D (Ix c)) (C0 : Nat -> Prop) (h0 : I [] C0 w) (hd : ∀ b, C0 b -> ¬ R b) (hdT : ∀ b, D b -> ¬ T b)
  (Ax : α -> Act -> Prop)
  (hassign : ∀ (l : Nat) (x : α) (W : World) (Kc : Act -> World -> Prop), (∀ a', Ax x a' -> Kc a' W) ->
   assign.wpIn (Fence.wide.inRound l) 0 P (Exit.then Kc (fun _ _ _ => False)) { tmps := (ps.zip (encs x)).foldl (fun t (p, v) => t.setIfInBounds p v) a.tmps, defers := [] } W)
  (hbody : ∀ (l : Nat) (pre : List α) (x : α) (a' : Act) (C : Nat -> Prop) (W : World), pre ++ [x] <+: xs -> I pre C W -> Ax x a' -> body.wpIn (Fence.wide.inRound l) 0 P (fun e _ Y => RPost I Ix (pre ++ [x]) C W e Y) a' W)
  (hdone : ∀ C W, I xs C W -> Tn (fun b => T b \/ C0 b) w W -> Sq W -> (∀ b, C b -> C0 b \/ w.heap.size <= b) -> W.heap[w.heap.size]? = some (.deferred (some [])) -> ¬ C w.heap.size -> Q .normal { a with defers := { target := .collected w.heap.size, args := #[] } :: a.defers } W)
  (hstop : ∀ c pre C W, pre <+: xs -> Ix c pre C W -> Tn (fun b => T b \/ C0 b) w W -> Sq W -> (∀ b, C b -> C0 b \/ w.heap.size <= b) -> W.heap[w.heap.size]? = some (.deferred (some [])) -> ¬ C w.heap.size -> c.wpIn Fence.wide 0 P Q { a with defers := { target := .collected w.heap.size, args := #[] } :: a.defers } W) :
  (Code.rangeFunc g ps assign body).wpIn Fence.wide 0 P Q a w := by
 refine wpIn_rangeFunc (fun fn _ => ?_)
 obtain ⟨rc, hrc⟩ : ∃ rc : LoopState -> Option Code -> Loop, rc = fun st pe => { state := st, pending := pe, fn := fn, tmps := a.tmps, params := ps, assign := assign, body := body, defers := w.heap.size } := ⟨_, rfl⟩
 obtain ⟨V, hV⟩ : ∃ V, (w.alloc (.deferred (some []))).alloc (.loop (rc .ready none)) = V := ⟨_, rfl⟩
 have hVs : V.heap.size = w.heap.size + 2 := by rw [<- hV]; simp
 have hVb : Below w.heap.size w V := by rw [<- hV]; exact ((Below.refl _ w).alloc (Nat.le_refl _) _).alloc (by simp) _
 have hVr : V.heap[w.heap.size + 1]? = some (.loop (rc .ready none)) := by
  rw [<- hV]
  have := heap_alloc_new (w.alloc (.deferred (some []))) (.loop (rc .ready none))
  rwa [World.size_alloc] at this
 have hVd : V.heap[w.heap.size]? = some (.deferred (some [])) := by rw [<- hV]; exact (Below.heap_alloc _ _ _ (by simp)).trans (heap_alloc_new w _)
 have hRl : ∀ b, R b -> b < w.heap.size := hs.lt w hw
 have hC0l : ∀ b, C0 b -> b < w.heap.size := fun b hb => hI.1 _ _ _ h0 b (.inl hb)
 have hDl : ∀ b, D b -> b < w.heap.size := fun b hb => hI.1 _ _ _ h0 b (.inr hb)
 obtain ⟨N, hN⟩ : ∃ N, N = w.heap.size := ⟨_, rfl⟩
 rw [<- hN] at hVs hVb hVr hVd hRl hC0l hDl
 obtain ⟨J, hJ⟩ : ∃ J : Inv α, J = fun s C X => ∃ Cu, C = (fun b => Cu b \/ b = N \/ b = N + 1) /\ I s Cu X /\ ¬ Cu N /\ ¬ Cu (N + 1) /\ X.heap[N + 1]? = some (.loop (rc .ready none)) /\ X.heap[N]? = some (.deferred (some [])) := ⟨_, rfl⟩
 obtain ⟨Jx, hJx⟩ : ∃ Jx : Inv α, Jx = fun s C X => ∃ c Cu, C = (fun b => Cu b \/ b = N \/ b = N + 1) /\ Ix c s Cu X /\ ¬ Cu N /\ ¬ Cu (N + 1) /\ X.heap[N + 1]? = some (.loop (rc .done (some c))) /\ X.heap[N]? = some (.deferred (some [])) := ⟨_, rfl⟩
 have keep : ∀ {A : Nat -> Prop} {X Y : World} {k : Nat} {o : Obj}, Tn A X Y -> X.heap[k]? = some o -> ¬ A k -> Y.heap[k]? = some o := fun h h1 h2 => (h.block _ (Array.getElem?_eq_some_iff.1 h1).1 h2).trans h1
 have stJ : Stb D J := by
  refine ⟨fun s C X h b hb => ?_, fun s C A X Y h ht hA => ?_⟩
  ·rw [hJ] at h
   obtain ⟨Cu, rfl, h1, -, -, h2, h3⟩ := h
   rcases hb with (hb | rfl | rfl) | hb
   ·exact hI.1 _ _ _ h1 b (.inl hb)
   ·exact (Array.getElem?_eq_some_iff.1 h3).1
   ·exact (Array.getElem?_eq_some_iff.1 h2).1
   ·exact hI.1 _ _ _ h1 b (.inr hb)
  ·rw [hJ] at h ⊢
   obtain ⟨Cu, rfl, h1, n1, n2, h2, h3⟩ := h
   exact ⟨Cu, rfl, hI.2 _ _ _ _ _ h1 ht (fun b hb => hA b (hb.imp .inl id)), n1, n2, keep ht h2 (hA _ (.inl (.inr (.inr rfl)))), keep ht h3 (hA _ (.inl (.inr (.inl rfl))))⟩
 have stJx : Stb D Jx := by
  refine ⟨fun s C X h b hb => ?_, fun s C A X Y h ht hA => ?_⟩
  ·rw [hJx] at h
   obtain ⟨c, Cu, rfl, h1, -, -, h2, h3⟩ := h
   rcases hb with (hb | rfl | rfl) | hb
   ·exact (hIx c).1 _ _ _ h1 b (.inl hb)
   ·exact (Array.getElem?_eq_some_iff.1 h3).1
   ·exact (Array.getElem?_eq_some_iff.1 h2).1
   ·exact (hIx c).1 _ _ _ h1 b (.inr hb)
  ·rw [hJx] at h ⊢
   obtain ⟨c, Cu, rfl, h1, n1, n2, h2, h3⟩ := h
   exact ⟨c, Cu, rfl, (hIx c).2 _ _ _ _ _ h1 ht (fun b hb => hA b (hb.imp .inl id)), n1, n2, keep ht h2 (hA _ (.inl (.inr (.inr rfl)))), keep ht h3 (hA _ (.inl (.inr (.inl rfl))))⟩
 have hwV : Sq V := hs.stab w V (fun _ => False) hw (Tn.of_below hVb (by omega)) (fun _ _ h => h)
 have hIV : I [] C0 V := hI.2 _ _ (fun _ => False) _ _ h0 (Tn.of_below hVb (by omega)) (fun _ _ h => h)
 have nC0 : ¬ C0 N /\ ¬ C0 (N + 1) := ⟨fun h => by have := hC0l _ h; omega, fun h => by have := hC0l _ h; omega⟩
 have start : J [] (fun b => C0 b \/ b = N \/ b = N + 1) V := by
  rw [hJ]
  exact ⟨C0, rfl, hIV, nC0.1, nC0.2, hVr, hVd⟩
 refine ⟨w.heap.size + 1, [{ target := .collected w.heap.size, args := #[] }], V, { target := .fn (.func gf) lb, args := #[.func (.yield (w.heap.size + 1)) #[] #[]] }, V, gf, #[.func (.yield (w.heap.size + 1)) #[] #[]] ++ lb, V, ?_, ?_, fun _ _ => trivial, ?_, fun h => by simp [Fence.wide] at h, ?_⟩
 ·rw [<- hV, hrc]
  exact run_enterLoop_outer _ _ _ _ _
 ·simp only [resolve, hg]
  simp [go_sem]
 ·simp [invoke, go_sem, eg]
 ·rw [<- hN]
  refine (hs.run V (N + 1) J Jx _ D hwV stJ stJx ?_ start (fun b hb h => ?_) hdT).mono ?_
  ·intro pre x C X hpx hX
   rw [hJ] at hX
   obtain ⟨Cu, rfl, hi, n1, n2, hr, hdd⟩ := hX
   have hlt : N + 1 < X.heap.size := (Array.getElem?_eq_some_iff.1 hr).1
   have hy := run_yield (P := P) (args := encs x) hr (by rw [hrc]; exact hps x)
   rw [hrc] at hy
   refine ⟨fn, _, assign, body, hy, roundIn_of_wpIn trivial (hassign _ x X _ ?_)⟩
   intro a' hax
   refine ⟨_, run_beginRound hr (by rw [hrc]), ?_⟩
   obtain ⟨Z, hZ⟩ : ∃ Z, X.putObj (N + 1) (.loop { rc .ready none with state := .busy }) = Z := ⟨_, rfl⟩
   rw [hZ]
   have tZ : Tn (fun k => k = N + 1) X Z := by rw [<- hZ]; exact Tn.put _ _ _
   have hsZ : Z.heap.size = X.heap.size := by rw [<- hZ]; simp
   have hrZ : Z.heap[N + 1]? = some (.loop (rc .busy none)) := by
    rw [<- hZ, World.putObj_heap_same hlt, hrc]
   have hdZ : Z.heap[N]? = some (.deferred (some [])) := keep tZ hdd (by omega)
   have hiZ : I pre Cu Z := hI.2 _ _ _ _ _ hi tZ (fun b hb (e : b = N + 1) => hb.elim (fun hb => n2 (e ▸ hb)) (fun hb => by have := hDl b hb; omega))
   refine wpIn_mono (hbody _ pre x a' Cu Z hpx hiZ hax) ?_
   have last : ∀ (j : Option Code) (E : World) (C' : Nat -> Prop), Tn Cu Z E -> (∀ b, C' b -> Cu b \/ Z.heap.size <= b) ->
     (Instr.endRound (N + 1) j).run P E = .ok (.bool j.isNone) (E.putObj (N + 1) (.loop (rc (if j.isNone then .ready else .done) j))) /\
     (E.putObj (N + 1) (.loop (rc (if j.isNone then .ready else .done) j))).heap[N + 1]? = some (.loop (rc (if j.isNone then .ready else .done) j)) /\
     (E.putObj (N + 1) (.loop (rc (if j.isNone then .ready else .done) j))).heap[N]? = some (.deferred (some [])) /\
     Tn (fun b => Cu b \/ b = N \/ b = N + 1) X (E.putObj (N + 1) (.loop (rc (if j.isNone then .ready else .done) j))) /\
     (¬ C' N /\ ¬ C' (N + 1)) /\ (∀ b, (C' b \/ b = N \/ b = N + 1) -> (Cu b \/ b = N \/ b = N + 1) \/ X.heap.size <= b) := by
    intro j E C' hE hC
    have hrE := keep hE hrZ n2
    have hdE := keep hE hdZ n1
    have run := run_endRound (P := P) j hrE
    have tt : Tn (fun b => Cu b \/ b = N \/ b = N + 1) X (E.putObj (N + 1) (.loop (rc (if j.isNone then .ready else .done) j))) :=
     ((tZ.mono (B := fun b => Cu b \/ b = N \/ b = N + 1) (fun k _ e => .inr (.inr e))).trans hE (fun i _ h => .inl h)).trans (Tn.put _ _ _) (fun i _ h => .inr (.inr h))
    refine ⟨?_, World.putObj_heap_same (Array.getElem?_eq_some_iff.1 hrE).1, (World.putObj_heap_other (by omega)).trans hdE, tt, ⟨fun h => ?_, fun h => ?_⟩, fun b hb => ?_⟩
    ·rw [run, hrc]
    ·rcases hC _ h with h | h
     ·exact n1 h
     ·omega
    ·rcases hC _ h with h | h
     ·exact n2 h
     ·omega
    ·rcases hb with hb | hb
     ·rcases hC _ hb with h | h
      ·exact .inl (.inl h)
      ·exact .inr (by omega)
     ·exact .inl (.inr hb)
   have goes : ∀ (c : Code) (E : World) (C' : Nat -> Prop), Tn Cu Z E -> (∀ b, C' b -> Cu b \/ Z.heap.size <= b) -> Ix c (pre ++ [x]) C' E -> ∃ v E', (Instr.endRound (N + 1) (some c)).run P E = .ok v E' /\
     ∃ C'', Tn (fun b => Cu b \/ b = N \/ b = N + 1) X E' /\ (∀ b, C'' b -> (Cu b \/ b = N \/ b = N + 1) \/ X.heap.size <= b) /\ ((Ending.returned v = .returned (.bool true) /\ J (pre ++ [x]) C'' E') \/ (Ending.returned v = .returned (.bool false) /\ Jx (pre ++ [x]) C'' E')) := by
    intro c E C' hE hC hx
    obtain ⟨h1, h2, h3, h4, h5, h6⟩ := last (some c) E C' hE hC
    refine ⟨_, _, h1, (fun b => C' b \/ b = N \/ b = N + 1), h4, h6, .inr ⟨rfl, ?_⟩⟩
    rw [hJx]
    exact ⟨c, C', rfl, (hIx c).2 _ _ _ _ _ hx (Tn.put _ _ _) (fun b hb (e : b = N + 1) => hb.elim (fun hb => h5.2 (e ▸ hb)) (fun hb => by have := hDl b hb; omega)), h5.1, h5.2, h2, h3⟩
   intro e a3 E hE
   obtain ⟨C', hE1, hE2, hE3⟩ := hE
   cases e with
   | normal =>
    obtain ⟨h1, h2, h3, h4, h5, h6⟩ := last none E C' hE1 hE2
    refine ⟨_, _, h1, (fun b => C' b \/ b = N \/ b = N + 1), h4, h6, .inl ⟨rfl, ?_⟩⟩
    rw [hJ]
    exact ⟨C', rfl, hI.2 _ _ _ _ _ hE3 (Tn.put _ _ _) (fun b hb (e : b = N + 1) => hb.elim (fun hb => h5.2 (e ▸ hb)) (fun hb => by have := hDl b hb; omega)), h5.1, h5.2, h2, h3⟩
   | ret => exact goes .ret E C' hE1 hE2 hE3
   | exit id => exact goes (.exit id) E C' hE1 hE2 hE3
   | goto t => exact goes (.goto t) E C' hE1 hE2 hE3
   | panic ch => exact (hE3 : False).elim
   | outgrown => exact (hE3 : False).elim
  ·have := hRl b h
   rcases hb with hb | rfl | rfl
   ·exact hd b hb h
   ·omega
   ·omega
  ·rintro e E ⟨⟨v, rfl⟩, ht, hq, C, hC, hE⟩
   have after : ∀ o, Tn (fun b => T b \/ C0 b) w (E.putObj (N + 1) o) /\ Sq (E.putObj (N + 1) o) := fun o => by
    refine ⟨((Tn.of_below hVb (by omega)).trans ht (fun i hi h => ?_)).trans (Tn.put _ _ _) (fun i hi h => by omega), hs.stab _ _ _ hq (Tn.put _ _ _) (fun b hb e => by have := hRl b hb; omega)⟩
    rcases h with h | h | h | h
    ·exact .inl h
    ·exact .inr h
    ·omega
    ·omega
   rcases hE with hE | ⟨pre, hpre, hE⟩
   ·rw [hJ] at hE
    obtain ⟨Cu, rfl, hi, n1, n2, hr, hdd⟩ := hE
    have run := run_endLoop (P := P) hr (by rw [hrc]; simp)
    have run' : (Instr.endLoop (N + 1)).run P E = .ok none (E.putObj (N + 1) (.loop { rc .ready none with state := .exhausted })) := by rw [run, hrc]
    refine ⟨none, _, run', ?_⟩
    have := hdone Cu _ (hI.2 _ _ (fun k => k = N + 1) E (E.putObj (N + 1) (.loop { rc .ready none with state := .exhausted })) hi (Tn.put _ _ _) (fun b hb (e : b = N + 1) => hb.elim (fun hb => n2 (e ▸ hb)) (fun hb => by have := hDl b hb; omega))) (after _).1 (after _).2 (fun b hb => ?_) (by rw [<- hN]; exact (World.putObj_heap_other (by omega)).trans hdd) (by rw [<- hN]; exact n1)
    ·rw [<- hN] at this
     exact this
    ·rcases hC b (.inl hb) with (h | rfl | rfl) | h
     ·exact .inl h
     ·exact absurd hb n1
     ·exact absurd hb n2
     ·exact .inr (by omega)
   ·rw [hJx] at hE
    obtain ⟨c, Cu, rfl, hi, n1, n2, hr, hdd⟩ := hE
    have run := run_endLoop (P := P) hr (by rw [hrc]; simp)
    have run' : (Instr.endLoop (N + 1)).run P E = .ok (some c) (E.putObj (N + 1) (.loop { rc .done (some c) with state := .exhausted })) := by rw [run, hrc]
    refine ⟨some c, _, run', ?_⟩
    have := hstop c pre Cu _ hpre ((hIx c).2 _ _ (fun k => k = N + 1) E (E.putObj (N + 1) (.loop { rc .done (some c) with state := .exhausted })) hi (Tn.put _ _ _) (fun b hb (e : b = N + 1) => hb.elim (fun hb => n2 (e ▸ hb)) (fun hb => by have := hDl b hb; omega))) (after _).1 (after _).2 (fun b hb => ?_) (by rw [<- hN]; exact (World.putObj_heap_other (by omega)).trans hdd) (by rw [<- hN]; exact n1)
    ·rw [<- hN] at this
     exact this
    ·rcases hC b (.inl hb) with (h | rfl | rfl) | h
     ·exact .inl h
     ·exact absurd hb n1
     ·exact absurd hb n2
     ·exact .inr (by omega)
end Go.Proofs.YtjkgjckkglfokaaGreat
/- What a link of iterators holds besides; functions that are handed in. -/
namespace Go.Proofs.YtjkgjckkglfokaaGreat
open Go.RowKit Go.Shelf
set_option linter.unusedVariables false
set_option linter.unusedSimpArgs false
def IsC (w : World) (b : Nat) (cs : Array Value) : Prop := ∃ t, w.heap[b]? = some (.cells cs t (0, 0))
theorem IsC.lt {w : World} {b : Nat} {cs : Array Value} (h : IsC w b cs) : b < w.heap.size := by
 obtain ⟨t, h⟩ := h
 exact (Array.getElem?_eq_some_iff.1 h).1
theorem IsC.cell {w : World} {b : Nat} {cs : Array Value} (h : IsC w b cs) (o : Nat) : w.cell? ⟨b, o, none⟩ = cs[o]? := by
 obtain ⟨t, h⟩ := h
 simp [World.cell?, h]
theorem IsC.frozen {w : World} {b : Nat} {cs : Array Value} (h : IsC w b cs) (o : Nat) : w.frozen? ⟨b, o, none⟩ = false := by
 obtain ⟨t, h⟩ := h
 simp [World.frozen?, h]
theorem IsC.of_block {w w' : World} {b : Nat} {cs : Array Value} (h : IsC w b cs) (hb : w'.heap[b]? = w.heap[b]?) : IsC w' b cs := by
 obtain ⟨t, h⟩ := h
 exact ⟨t, hb.trans h⟩
theorem IsC.tn {A : Nat -> Prop} {w w' : World} {b : Nat} {cs : Array Value} (h : IsC w b cs) (ht : Tn A w w') (hb : ¬ A b) : IsC w' b cs := h.of_block (ht.block b h.lt hb)
theorem isC_new (w : World) (cs : Array Value) (t : TypeId) : IsC (w.alloc (.cells cs t)) w.heap.size cs := ⟨t, heap_alloc_new w _⟩
theorem Tn.same {A : Nat -> Prop} {W X Y : World} {b : Nat} (ht : Tn A X Y) (h : X.heap[b]? = W.heap[b]?) (hb : b < W.heap.size) (hA : ¬ A b) : Y.heap[b]? = W.heap[b]? := by
 have : b < X.heap.size := by
  rw [Array.getElem?_eq_getElem hb] at h
  exact (Array.getElem?_eq_some_iff.1 h).1
 exact (ht.block b this hA).trans h
theorem Tn.held {T C0 H : Nat -> Prop} {W W0 X : World} {N : Nat} (t0 : Tn (fun _ => False) W W0) (tX : Tn (fun b => T b \/ (C0 b \/ (N <= b \/ H b))) W0 X) (hy : W.heap.size <= N) (hH : ∀ b, H b -> b < W.heap.size -> X.heap[b]? = W.heap[b]?) (M : Nat) (o : Obj) (hM : W.heap.size <= M) : Tn (fun b => T b \/ C0 b) W (X.putObj M o) := by
 refine Tn.trans (B := fun k => k = M) ⟨tX.os.trans t0.os, tX.tape.trans t0.tape, tX.output.trans t0.output, Nat.le_trans t0.size tX.size, fun k hk hn => ?_⟩ (Tn.put _ _ _) (fun i hi h => by omega)
 by_cases h : H k
 ·exact hH k h hk
 ·exact (tX.block k (Nat.lt_of_lt_of_le hk t0.size) (fun e => by
   rcases e with e | e | e | e
   ·exact hn (.inl e)
   ·exact hn (.inr e)
   ·omega
   ·exact h e)).trans (t0.block k hk (fun h => h))
def HoldI {α β : Type} (J : Inv β) (φ : List α -> List β) (H : Nat -> Prop) (St : List α -> World -> Prop) : Inv α := fun s C X => ∃ Cj, C = (fun b => Cj b \/ H b) /\ J (φ s) Cj X /\ (∀ b, H b -> ¬ Cj b) /\ (∀ b, H b -> b < X.heap.size) /\ St s X
theorem HoldI.stb {α β : Type} {J : Inv β} {φ : List α -> List β} {H : Nat -> Prop} {St : List α -> World -> Prop} {D : Nat -> Prop} (hJ : Stb D J) (hS : ∀ s A X Y, St s X -> Tn A X Y -> (∀ b, H b -> ¬ A b) -> St s Y) : Stb D (HoldI J φ H St) := by
 refine ⟨fun s C X h b hb => ?_, fun s C A X Y h ht hA => ?_⟩
 ·obtain ⟨Cj, rfl, h1, -, h2, -⟩ := h
  rcases hb with (hb | hb) | hb
  ·exact hJ.1 _ _ _ h1 b (.inl hb)
  ·exact h2 b hb
  ·exact hJ.1 _ _ _ h1 b (.inr hb)
 ·obtain ⟨Cj, rfl, h1, h3, h2, h4⟩ := h
  exact ⟨Cj, rfl, hJ.2 _ _ _ _ _ h1 ht (fun b hb => hA b (hb.imp .inl id)), h3, fun b hb => Nat.lt_of_lt_of_le (h2 b hb) ht.size, hS _ _ _ _ h4 ht (fun b hb => hA b (.inl (.inr hb)))⟩
theorem HoldI.round {α β : Type} {J J' : Inv β} {φ : List α -> List β} {H Cj C' : Nat -> Prop} {St : List α -> World -> Prop} {s : List α} {X Y : World} (h3 : ∀ b, H b -> ¬ Cj b) (h2 : ∀ b, H b -> b < X.heap.size) (ht : Tn Cj X Y) (hC : ∀ b, C' b -> Cj b \/ X.heap.size <= b) (hJ : J' (φ s) C' Y) (hS : St s Y) :
  ∃ C'', Tn (fun b => Cj b \/ H b) X Y /\ (∀ b, C'' b -> (Cj b \/ H b) \/ X.heap.size <= b) /\ HoldI J' φ H St s C'' Y := by
 refine ⟨fun b => C' b \/ H b, ht.mono (fun _ _ h => .inl h), fun b hb => ?_, C', rfl, hJ, fun b hb hc => ?_, fun b hb => Nat.lt_of_lt_of_le (h2 b hb) ht.size, hS⟩
 ·rcases hb with hb | hb
  ·exact (hC b hb).imp .inl id
  ·exact .inl (.inr hb)
 ·rcases hC b hc with h | h
  ·exact h3 b hb h
  ·have := h2 b hb
   omega
theorem IsC.caught {T C0 R : Nat -> Prop} {W Y : World} {b : Nat} {cs : Array Value} (h : IsC W b cs) (ht : Tn (fun b => T b \/ C0 b) W Y) (hT : ∀ b, T b -> R b) (hR : ¬ R b) (hC : ¬ C0 b) : IsC Y b cs :=
 h.tn ht (fun e => e.elim (fun e => hR (hT _ e)) hC)
theorem yes_no {e : Ending} {p q : Prop} (h : (e = .returned (.bool true) /\ p) \/ (e = .returned (.bool false) /\ q)) : ∃ bv : Bool, e = .returned (.bool bv) /\ (bv = true -> p) /\ (bv = false -> q) := by
 rcases h with h | h
 ·exact ⟨true, h.1, fun _ => h.2, (fun h => by cases h)⟩
 ·exact ⟨false, h.1, (fun h => by cases h), fun _ => h.2⟩
end Go.Proofs.YtjkgjckkglfokaaGreat
/- Small things. -/
namespace Go.Proofs.YtjkgjckkglfokaaGreat
open Go.RowKit Go.Shelf
set_option linter.unusedVariables false
set_option linter.unusedSimpArgs false
structure Way {α : Type} (J : Inv α) (C0 T R : Nat -> Prop) (Sq : World -> Prop) (W : World) (s : List α) (X : World) (C : Nat -> Prop) : Prop where
 j : J s C X
 sub : ∀ b, C b -> C0 b \/ W.heap.size <= b
 tn : Tn (fun b => T b \/ C0 b) W X
 sq : Sq X
theorem take_pre {β : Type} {l : List β} {k : Nat} {x : β} (h : l[k]? = some x) : l.take k ++ [x] = l.take (k + 1) /\ l.take k ++ [x] <+: l := by
 obtain ⟨h1, h2⟩ := List.getElem?_eq_some_iff.1 h
 have e : l.take k ++ [x] = l.take (k + 1) := by rw [List.take_succ_eq_append_getElem h1, h2]
 exact ⟨e, by rw [e]; exact List.take_prefix _ _⟩
theorem res_bool {fn : Func} {p : Tmp} (h : fn.results = #[.cell p 4]) (tmps : Array Value) (w : World) (b : Nat) (v : Value) (hp : tmps.getD p undef = .pointer (some ⟨b, 0, none⟩)) (hc : w.cell? ⟨b, 0, none⟩ = some v) : (results fn tmps).run Tryz.prog w = .ok v w := by
 have hp' : tmps[p]?.getD undef = .pointer (some ⟨b, 0, none⟩) := by simpa using hp
 simp [results, h, hp', go_sem, hc]
theorem own_weak {w : World} {b b' : Nat} {e : TypeId} {size : Nat} {v : Value} {n : Nat} {xs : List Value} (h : w.ownsRow b e size v n xs) (hb : b' <= b) : w.ownsRow b' e size v n xs := by
 refine ⟨h.1, ?_⟩
 rcases h.2 with hn | ⟨g, cap, cur, rfl, h1, r⟩
 ·exact .inl hn
 ·exact .inr ⟨g, cap, cur, rfl, Nat.le_trans hb h1, r⟩
end Go.Proofs.YtjkgjckkglfokaaGreat
/- slices.Values and slices.Backward over handles. -/
namespace Go.Proofs.YtjkgjckkglfokaaGreat
open Go.RowKit Go.Shelf
set_option linter.unusedVariables false
set_option linter.unusedSimpArgs false
set_option maxRecDepth 100000
set_option maxHeartbeats 2000000
attribute [local go_sem] Oper.semAt_some
def encH (x : Nat) : Array Value := #[.int .u64 (x : Int)]
def HdsAt (w : World) (g : Nat) (a : Option Addr) (L : List Nat) : Prop := ∀ (i x : Nat), L[i]? = some x -> ∃ o, a = some ⟨g, o, none⟩ /\ g < w.heap.size /\ w.cell? ⟨g, o + i, none⟩ = some (.int .u64 (x : Int))
theorem HdsAt.tn {A : Nat -> Prop} {w w' : World} {g : Nat} {a : Option Addr} {L : List Nat} (h : HdsAt w g a L) (ht : Tn A w w') (hA : L ≠ [] -> ¬ A g) : HdsAt w' g a L := fun i x hx => by
 obtain ⟨o, h1, h3, h4⟩ := h i x hx
 exact ⟨o, h1, Nat.lt_of_lt_of_le h3 ht.size, (World.cell?_of_block (w := w) (a := ⟨g, o + i, none⟩) (ht.block g h3 (hA (by rintro rfl; simp at hx)))).trans h4⟩
theorem HdsAt.lt {w : World} {g : Nat} {a : Option Addr} {L : List Nat} (h : HdsAt w g a L) (hn : L ≠ []) : g < w.heap.size := by
 obtain ⟨x, r, rfl⟩ := List.exists_cons_of_ne_nil hn
 obtain ⟨o, -, h1, -⟩ := h 0 x rfl
 exact h1
theorem values_seq {xs : List Nat} {a : Option Addr} {cap lb g : Nat} (hl : xs.length < 4611686018427387904) :
  IsSeq Tryz.prog 61 #[.pointer (some ⟨lb, 0, none⟩)] encH xs (fun b => b = lb \/ (xs ≠ [] /\ b = g)) (fun _ => False) (fun W => IsC W lb #[.slice a xs.length cap] /\ HdsAt W g a xs) := by
 refine ⟨fun b hb => hb.elim, fun W h b hb => ?_, fun W W' A h ht hA => ⟨h.1.tn ht (hA _ (.inl rfl)), h.2.tn ht (fun hn => hA _ (.inr ⟨hn, rfl⟩))⟩, ?_⟩
 ·rcases hb with rfl | ⟨hn, rfl⟩
  ·exact h.1.lt
  ·exact h.2.lt hn
 ·intro W l J Jx C0 D hq stJ stJx hY h0 hd hdT
  obtain ⟨Sq, hSq⟩ : ∃ Sq : World -> Prop, Sq = fun W => IsC W lb #[.slice a xs.length cap] /\ HdsAt W g a xs := ⟨_, rfl⟩
  have hq' : Sq W := by rw [hSq]; exact hq
  have HSq := hid hSq
  have HY := hid hY
  have HD := hid hd
  have HSJ : Hid (Stb D J /\ Stb D Jx) := ⟨stJ, stJx⟩
  have HLW : Hid (lb < W.heap.size /\ (xs ≠ [] -> g < W.heap.size)) := ⟨hq.1.lt, fun hn => hq.2.lt hn⟩
  have HW0 : Hid (Way J C0 (fun _ => False) (fun _ => True) Sq W [] W C0) := ⟨h0, fun _ h => .inl h, Tn.refl _ _, hq'⟩
  have c1 : W.cell? ⟨lb, 0, none⟩ = some (.slice a xs.length cap) := hq.1.cell 0
  have hll := hq.1.lt
  have hxs : (xs.length : Int) < 4611686018427387904 := by omega
  have hro : Fence.wide.round = none := rfl
  have hn1 : ∀ b w, (Op.unary UnOp.not (.bool b)).run Tryz.prog w = .ok (.bool (!b)) w := fun b _ => by cases b <;> kernel_rfl
  clear hdT hY hd stJ stJx h0 hq hq' hSq
  refine callsIn_of_wp Tryz.func61 rfl trivial ?_ rfl
  simp only [Tryz.ntmps61, List.size_toArray, List.length_cons, List.length_nil, Nat.reduceAdd, Nat.reduceSub, Array.replicate_succ, Array.replicate_zero, List.push_toArray, List.append_toArray, List.nil_append, List.cons_append]
  gi_wp2
  gi_loopw [7] (fun i wr => ∃ k : Nat, k <= xs.length /\ i = .int .i64 (k : Int) /\ Hid (∃ C, Way J C0 (fun _ => False) (fun _ => True) Sq W (xs.take k) wr C)) (fun i _ => xs.length - (intOf i).toNat)
  case atStart => exact ⟨0, Nat.zero_le _, rfl, ⟨_, HW0.out⟩⟩
  case round =>
   clear HW0
   obtain ⟨k, hk, rfl, HWk⟩ := hrel
   obtain ⟨C, hway⟩ := HWk.out
   have hsq := hway.sq
   rw [HSq.out] at hsq
   obtain ⟨q1, q4⟩ := hsq
   by_cases hlt : k < xs.length
   ·have hx := List.getElem?_eq_getElem hlt
    obtain ⟨o, ha, hg2, hg3⟩ := q4 k _ hx
    obtain ⟨e1, e2⟩ := take_pre hx
    generalize xs[k] = x at *
    subst ha
    have hk1 : (k : Int) < (xs.length : Int) := by omega
    have HE : Hid (xs.take k ++ [x] = xs.take (k + 1) /\ xs.take k ++ [x] <+: xs) := ⟨e1, e2⟩
    have HWY := hid hway
    have hX := HY.out _ x C wr e2 hway.j
    unfold encH at hX
    obtain ⟨fn, tmps, assign, body, hy2, hR⟩ := hX
    clear q1 q4 e1 e2 hway HWk hx
    gi_wp2_with fail
    refine ⟨rfl, RoundIn.mono (F := Fence.wide) hR ?_⟩
    rintro e Y ⟨C', tY, hC', hJ2⟩
    obtain ⟨bv, rfl, hJ3⟩ := yes_no hJ2
    have HYW : Hid (Tn (fun b => False \/ C0 b) W Y /\ Sq Y /\ (∀ b, C' b -> C0 b \/ W.heap.size <= b) /\ (bv = true -> J (xs.take (k + 1)) C' Y) /\ (bv = false -> Jx (xs.take (k + 1)) C' Y)) := by
     have hs1 := HWY.out.tn.size
     refine ⟨HWY.out.tn.trans tY (fun i hi h => (HWY.out.sub i h).elim .inr (fun h => by omega)), ?_, fun b hb => ?_, by rw [<- HE.out.1]; exact hJ3.1, by rw [<- HE.out.1]; exact hJ3.2⟩
     ·have hq := HWY.out.sq
      rw [HSq.out] at hq ⊢
      refine ⟨hq.1.tn tY (fun h => (HWY.out.sub _ h).elim (fun h => HD.out _ h (.inl rfl)) (fun h => by have := HLW.out.1; omega)), hq.2.tn tY (fun hn h => (HWY.out.sub _ h).elim (fun h => HD.out _ h (.inr ⟨hn, rfl⟩)) (fun h => by have := HLW.out.2 hn; omega))⟩
     ·rcases hC' b hb with h | h
      ·exact HWY.out.sub b h
      ·exact .inr (by omega)
    clear hJ2 hJ3 tY hC' hR
    cases bv with
    | true =>
     have HG : Hid (∃ C, Way J C0 (fun _ => False) (fun _ => True) Sq W (xs.take (k + 1)) Y C) := ⟨C', HYW.out.2.2.2.1 rfl, HYW.out.2.2.1, HYW.out.1, HYW.out.2.1⟩
     clear HYW
     gi_wp2
     go_roundw
     case rel => exact ⟨k + 1, by omega, by go_num, HG⟩
     case measure => simp [intOf]; omega
    | false =>
     have HG : Hid (Tn (fun b => False \/ C0 b) W Y /\ Sq Y /\ (∀ b, C' b -> C0 b \/ W.heap.size <= b) /\ Jx (xs.take (k + 1)) C' Y) := ⟨HYW.out.1, HYW.out.2.1, HYW.out.2.2.1, HYW.out.2.2.2.2 rfl⟩
     clear HYW
     gi_wp2
     refine bodyPost_ret (results_none rfl _ _ _) rfl ?_
     exact ⟨⟨_, rfl⟩, HG.out.1, by have h := HG.out.2.1; rw [HSq.out] at h; exact h, C', HG.out.2.2.1, .inr ⟨_, List.take_prefix _ _, HG.out.2.2.2⟩⟩
   ·obtain rfl : k = xs.length := by omega
    have HWY := hid hway
    clear q1 q4 hway HWk
    gi_wp2
    go_end0
    exact ⟨⟨_, rfl⟩, HWY.out.tn, by have h := HWY.out.sq; rw [HSq.out] at h; exact h, C, HWY.out.sub, .inl (by have := HWY.out.j; rwa [List.take_length] at this)⟩
def encB (p : Nat × Nat) : Array Value := #[.int .i64 (p.1 : Int), .int .u64 (p.2 : Int)]
def bwd (L : List Nat) : List (Nat × Nat) := (List.range L.length).map (fun k => (L.length - 1 - k, L.getD (L.length - 1 - k) 0))
theorem bwd_length (L : List Nat) : (bwd L).length = L.length := by simp [bwd]
theorem bwd_get {L : List Nat} {k x : Nat} (hk : k < L.length) (h : L[L.length - 1 - k]? = some x) : (bwd L)[k]? = some (L.length - 1 - k, x) := by
 simp [bwd, hk, List.getD, h]
theorem backward_seq {L : List Nat} {n : Nat} {a : Option Addr} {cap lb g : Nat} (hn : L.length = n) (hl : n < 4611686018427387904) :
  IsSeq Tryz.prog 125 #[.pointer (some ⟨lb, 0, none⟩)] encB (bwd L) (fun b => b = lb \/ (L ≠ [] /\ b = g)) (fun _ => False) (fun W => IsC W lb #[.slice a n cap] /\ HdsAt W g a L) := by
 refine ⟨fun b hb => hb.elim, fun W h b hb => ?_, fun W W' A h ht hA => ⟨h.1.tn ht (hA _ (.inl rfl)), h.2.tn ht (fun hn => hA _ (.inr ⟨hn, rfl⟩))⟩, ?_⟩
 ·rcases hb with rfl | ⟨hn, rfl⟩
  ·exact h.1.lt
  ·exact h.2.lt hn
 ·intro W l J Jx C0 D hq stJ stJx hY h0 hd hdT
  obtain ⟨Sq, hSq⟩ : ∃ Sq : World -> Prop, Sq = fun W => IsC W lb #[.slice a n cap] /\ HdsAt W g a L := ⟨_, rfl⟩
  have hq' : Sq W := by rw [hSq]; exact hq
  have HSq := hid hSq
  have HY := hid hY
  have HD := hid hd
  have HSJ : Hid (Stb D J /\ Stb D Jx) := ⟨stJ, stJx⟩
  have HLW : Hid (lb < W.heap.size /\ (L ≠ [] -> g < W.heap.size)) := ⟨hq.1.lt, fun hn => hq.2.lt hn⟩
  have HW0 : Hid (Way J C0 (fun _ => False) (fun _ => True) Sq W [] W C0) := ⟨h0, fun _ h => .inl h, Tn.refl _ _, hq'⟩
  have c1 : W.cell? ⟨lb, 0, none⟩ = some (.slice a n cap) := hq.1.cell 0
  have hll := hq.1.lt
  have hxs : (n : Int) < 4611686018427387904 := by omega
  have hro : Fence.wide.round = none := rfl
  have hn1 : ∀ b w, (Op.unary UnOp.not (.bool b)).run Tryz.prog w = .ok (.bool (!b)) w := fun b _ => by cases b <;> kernel_rfl
  have HNL := hid hn
  clear hdT hY hd stJ stJx h0 hq hq' hSq hn
  refine callsIn_of_wp Tryz.func125 rfl trivial ?_ rfl
  simp only [Tryz.ntmps125, List.size_toArray, List.length_cons, List.length_nil, Nat.reduceAdd, Nat.reduceSub, Array.replicate_succ, Array.replicate_zero, List.push_toArray, List.append_toArray, List.nil_append, List.cons_append]
  gi_wp2
  gi_loopw [3] (fun i wr => ∃ k : Nat, k <= n /\ i = .int .i64 ((n : Int) - 1 - (k : Int)) /\ Hid (∃ C, Way J C0 (fun _ => False) (fun _ => True) Sq W ((bwd L).take k) wr C)) (fun i _ => (intOf i + 1).toNat)
  case atStart => exact ⟨0, Nat.zero_le _, by simp, ⟨_, HW0.out⟩⟩
  case round =>
   clear HW0 c1
   obtain ⟨k, hk, rfl, HWk⟩ := hrel
   obtain ⟨C, hway⟩ := HWk.out
   have hsq := hway.sq
   rw [HSq.out] at hsq
   obtain ⟨q1, q4⟩ := hsq
   have c1 : wr.cell? ⟨lb, 0, none⟩ = some (.slice a n cap) := q1.cell 0
   have hll := q1.lt
   by_cases hlt : k < n
   ·obtain ⟨m, hm⟩ : ∃ m : Nat, m = n - 1 - k := ⟨_, rfl⟩
    have hmL : m < L.length := by have := HNL.out; omega
    have hx := List.getElem?_eq_getElem hmL
    obtain ⟨o, ha, hg2, hg3⟩ := q4 m _ hx
    have hbx : (bwd L)[k]? = some (m, L[m]) := by
     have := bwd_get (L := L) (k := k) (x := L[m]) (by have := HNL.out; omega) (by rw [HNL.out, <- hm]; exact hx)
     rw [HNL.out, <- hm] at this
     exact this
    obtain ⟨e1, e2⟩ := take_pre hbx
    generalize L[m] = x at *
    subst ha
    have hmi : (n : Int) - 1 - (k : Int) = (m : Int) := by omega
    rw [hmi]
    have hmn : (m : Int) < (n : Int) := by omega
    have HMK := hid hm
    have HE : Hid ((bwd L).take k ++ [(m, x)] = (bwd L).take (k + 1) /\ (bwd L).take k ++ [(m, x)] <+: bwd L) := ⟨e1, e2⟩
    have HWY := hid hway
    have hX := HY.out _ (m, x) C wr e2 hway.j
    unfold encB at hX
    obtain ⟨fn, tmps, assign, body, hy2, hR⟩ := hX
    simp only at hy2 hR
    clear q1 q4 e1 e2 hway HWk hx hbx hmL hm hmi
    gi_wp2_with fail
    refine ⟨rfl, RoundIn.mono (F := Fence.wide) hR ?_⟩
    rintro e Y ⟨C', tY, hC', hJ2⟩
    obtain ⟨bv, rfl, hJ3⟩ := yes_no hJ2
    have HYW : Hid (Tn (fun b => False \/ C0 b) W Y /\ Sq Y /\ (∀ b, C' b -> C0 b \/ W.heap.size <= b) /\ (bv = true -> J ((bwd L).take (k + 1)) C' Y) /\ (bv = false -> Jx ((bwd L).take (k + 1)) C' Y)) := by
     have hs1 := HWY.out.tn.size
     refine ⟨HWY.out.tn.trans tY (fun i hi h => (HWY.out.sub i h).elim .inr (fun h => by omega)), ?_, fun b hb => ?_, by rw [<- HE.out.1]; exact hJ3.1, by rw [<- HE.out.1]; exact hJ3.2⟩
     ·have hq := HWY.out.sq
      rw [HSq.out] at hq ⊢
      refine ⟨hq.1.tn tY (fun h => (HWY.out.sub _ h).elim (fun h => HD.out _ h (.inl rfl)) (fun h => by have := HLW.out.1; omega)), hq.2.tn tY (fun hn h => (HWY.out.sub _ h).elim (fun h => HD.out _ h (.inr ⟨hn, rfl⟩)) (fun h => by have := HLW.out.2 hn; omega))⟩
     ·rcases hC' b hb with h | h
      ·exact HWY.out.sub b h
      ·exact .inr (by omega)
    clear hJ2 hJ3 tY hC' hR
    cases bv with
    | true =>
     have HG : Hid (∃ C, Way J C0 (fun _ => False) (fun _ => True) Sq W ((bwd L).take (k + 1)) Y C) := ⟨C', HYW.out.2.2.2.1 rfl, HYW.out.2.2.1, HYW.out.1, HYW.out.2.1⟩
     clear HYW
     gi_wp2
     go_roundw
     case rel => exact ⟨k + 1, by omega, by congr 1; have := HMK.out; push_cast; omega, HG⟩
     case measure => (simp only [intOf]; have := HMK.out; omega)
    | false =>
     have HG : Hid (Tn (fun b => False \/ C0 b) W Y /\ Sq Y /\ (∀ b, C' b -> C0 b \/ W.heap.size <= b) /\ Jx ((bwd L).take (k + 1)) C' Y) := ⟨HYW.out.1, HYW.out.2.1, HYW.out.2.2.1, HYW.out.2.2.2.2 rfl⟩
     clear HYW
     gi_wp2
     refine bodyPost_ret (results_none rfl _ _ _) rfl ?_
     exact ⟨⟨_, rfl⟩, HG.out.1, by have h := HG.out.2.1; rw [HSq.out] at h; exact h, C', HG.out.2.2.1, .inr ⟨_, List.take_prefix _ _, HG.out.2.2.2⟩⟩
   ·obtain rfl : k = n := by omega
    have HWY := hid hway
    have hmi : (k : Int) - 1 - (k : Int) = -1 := by omega
    rw [hmi]
    clear q1 q4 hway HWk hmi
    gi_wp2
    go_end0
    exact ⟨⟨_, rfl⟩, HWY.out.tn, by have h := HWY.out.sq; rw [HSq.out] at h; exact h, C, HWY.out.sub, .inl (by have := HWY.out.j; rwa [List.take_of_length_le (by rw [bwd_length, HNL.out]; exact Nat.le_refl _)] at this)⟩
end Go.Proofs.YtjkgjckkglfokaaGreat
