/- posted: a forest's nodes as they end, by the document. -/
import Derived.Test.YtmapmkogjhinmaaA12
import Derived.Test.YtmapmkogjhinmaaA09
import Derived.Test.YtmapmkogjhinmaaProg
import Derived.Maps.OwnSet
import Derived.WideKeyPair
import Derived.DeepKeys4
import Derived.WalkKit
import Derived.WalkSpells
import Derived.WalkLawsBesides
import Derived.Test.YtmapmkogjhinmaaA04
import Derived.Test.YtmapmkogjhinmaaA02
import Derived.Deep.DeepCutAuto
import Derived.Deep.RegionLaw
import Derived.Deep.RegionHeld3
import Derived.Test.YtmapmkogjhinmaaA06
namespace Go.Proofs.Ytmapmkogjhinmaa
open Go.RowKit
set_option linter.unusedVariables false
set_option linter.unusedSimpArgs false
def PostAt (w : World) (lo hi : Nat) (xs : List Value) (P : List (Kn × Nat)) : Prop :=
 xs.length = P.length * 5 /\ ∀ (i : Nat) (p : Kn × Nat), P[i]? = some p -> ∃ aa ac ka kl kc, (∀ j, j < 5 -> xs[i * 5 + j]? = (tv p.1.kind p.1.name aa p.1.attrs.length ac p.1.text ka kl kc)[j]?) /\ AttrsAt w lo hi aa p.1.attrs /\ p.1.attrs.length <= maxA
theorem PostAt.of_cells {w w' : World} {lo hi : Nat} {xs : List Value} {P : List (Kn × Nat)} (h : PostAt w lo hi xs P) (hc : ∀ b o, lo <= b -> b < hi -> w'.cell? ⟨b, o, none⟩ = w.cell? ⟨b, o, none⟩) : PostAt w' lo hi xs P :=
 ⟨h.1, fun i p hp => by
  obtain ⟨aa, ac, ka, kl, kc, h2, h3, h4⟩ := h.2 i p hp
  exact ⟨aa, ac, ka, kl, kc, h2, h3.of_cells hc, h4⟩⟩
theorem PostAt.snoc {w : World} {lo hi : Nat} {xs : List Value} {P : List (Kn × Nat)} (h : PostAt w lo hi xs P) {x : Kn} {aa : Option Addr} {ac f : Nat} {ka : Option Addr} {kl kc : Nat} (h2 : AttrsAt w lo hi aa x.attrs) (h3 : x.attrs.length <= maxA) : PostAt w lo hi (xs ++ (tv x.kind x.name aa x.attrs.length ac x.text ka kl kc).toList) (P ++ [(x, f)]) := by
 refine ⟨by simp [h.1, tv]; omega, fun i p hp => ?_⟩
 rcases Nat.lt_or_ge i P.length with hi' | hi'
 ·rw [List.getElem?_append_left hi'] at hp
  obtain ⟨aa', ac', ka', kl', kc', g2, g3⟩ := h.2 i p hp
  refine ⟨aa', ac', ka', kl', kc', fun j hj => ?_, g3⟩
  rw [List.getElem?_append_left (by rw [h.1]; omega)]
  exact g2 j hj
 ·have hie : i = P.length := by
   have := (List.getElem?_eq_some_iff.1 hp).1
   simp at this
   omega
  subst hie
  rw [List.getElem?_append_right (Nat.le_refl _)] at hp
  simp at hp
  subst hp
  refine ⟨aa, ac, ka, kl, kc, fun j hj => ?_, h2, h3⟩
  rw [List.getElem?_append_right (by rw [h.1]; omega), h.1]
  simp
def fvals (G : List (Kn × Nat)) : List Value := G.map (fun p => .int .i64 (p.2 : Int))
structure RowsAt (w : World) (lo hi base : Nat) (na : Option Addr) (nc : Nat) (xs : List Value) (P : List (Kn × Nat)) (fa : Option Addr) (fc : Nat) (G : List (Kn × Nat)) : Prop where
 own : w.ownsRow base 36 5 (.slice na P.length nc) P.length xs
 post : PostAt w lo hi xs P
 ownf : w.ownsRow base 3 1 (.slice fa G.length fc) G.length (fvals G)
 apart : ∀ b, (Value.slice na P.length nc).ownBlock = some b -> (Value.slice fa G.length fc).ownBlock ≠ some b
theorem RowsAt.turn {w w' : World} {lo hi base : Nat} {na : Option Addr} {nc : Nat} {xs : List Value} {P : List (Kn × Nat)} {fa : Option Addr} {fc : Nat} {G : List (Kn × Nat)} (h : RowsAt w lo hi base na nc xs P fa fc G) {A : Nat -> Prop} (ht : Turn A w w') (hhb : hi <= base) (hbw : base <= w.heap.size)
  (hA : ∀ b, A b -> base <= b /\ (Value.slice na P.length nc).ownBlock ≠ some b /\ (Value.slice fa G.length fc).ownBlock ≠ some b) : RowsAt w' lo hi base na nc xs P fa fc G :=
 ⟨own_of_block h.own (fun k hk => ht.block k (own_block_lt h.own k hk).2 (fun e => (hA k e).2.1 hk)),
  h.post.of_cells (fun b o _ h2 => World.cell?_of_block (w := w) (a := ⟨b, o, none⟩) (ht.block b (by omega) (fun e => by have := (hA b e).1; omega))),
  own_of_block h.ownf (fun k hk => ht.block k (own_block_lt h.ownf k hk).2 (fun e => (hA k e).2.2 hk)), h.apart⟩
theorem RowsAt.app1 {w w' : World} {lo hi base : Nat} {na : Option Addr} {nc : Nat} {xs : List Value} {P : List (Kn × Nat)} {fa : Option Addr} {fc : Nat} {G : List (Kn × Nat)} (h : RowsAt w lo hi base na nc xs P fa fc G) (hhb : hi <= base) (hbw : base <= w.heap.size) {x : Kn} {aa : Option Addr} {ac f : Nat} {ka : Option Addr} {kl kc : Nat} (h2 : AttrsAt w lo hi aa x.attrs) (h3 : x.attrs.length <= maxA)
  {na' : Option Addr} {nc' : Nat} (hown : w'.ownsRow base 36 5 (.slice na' (P.length + 1) nc') (P.length + 1) (xs ++ (tv x.kind x.name aa x.attrs.length ac x.text ka kl kc).toList)) (hg : w.grownBy w' (Value.slice na P.length nc).ownBlock)
  (hat : (Value.slice na' (P.length + 1) nc').ownBlock = (Value.slice na P.length nc).ownBlock \/ (Value.slice na' (P.length + 1) nc').ownBlock = some w.heap.size) : RowsAt w' lo hi base na' nc' (xs ++ (tv x.kind x.name aa x.attrs.length ac x.text ka kl kc).toList) (P ++ [(x, f)]) fa fc G := by
 have hl : (P ++ [(x, f)]).length = P.length + 1 := by simp
 have far : ∀ b, b < w.heap.size -> (Value.slice na P.length nc).ownBlock ≠ some b -> w'.heap[b]? = w.heap[b]? := fun b h1 h2 => hg.block b h1 (fun e => h2 e.symm)
 have hok := own_block_lt h.own
 refine ⟨by rw [hl]; exact hown, (h.post.snoc h2 h3).of_cells (fun b o _ h2 => World.cell?_of_block (w := w) (a := ⟨b, o, none⟩) (far b (by omega) (fun e => by have := (hok b e).1; omega))), own_of_block h.ownf (fun k hk => far k (own_block_lt h.ownf k hk).2 (fun e => h.apart k e hk)), fun b hb e => ?_⟩
 rw [hl] at hb
 rcases hat with hat | hat
 ·rw [hat] at hb
  exact h.apart b hb e
 ·rw [hat] at hb
  simp at hb
  have := (own_block_lt h.ownf b e).2
  omega
theorem RowsAt.app2 {w w' : World} {lo hi base : Nat} {na : Option Addr} {nc : Nat} {xs : List Value} {P : List (Kn × Nat)} {fa : Option Addr} {fc : Nat} {G : List (Kn × Nat)} (h : RowsAt w lo hi base na nc xs P fa fc G) (hhb : hi <= base) (hbw : base <= w.heap.size) {x : Kn} {f : Nat}
  {fa' : Option Addr} {fc' : Nat} (hown : w'.ownsRow base 3 1 (.slice fa' (G.length + 1) fc') (G.length + 1) (fvals G ++ [.int .i64 (f : Int)])) (hg : w.grownBy w' (Value.slice fa G.length fc).ownBlock)
  (hat : (Value.slice fa' (G.length + 1) fc').ownBlock = (Value.slice fa G.length fc).ownBlock \/ (Value.slice fa' (G.length + 1) fc').ownBlock = some w.heap.size) : RowsAt w' lo hi base na nc xs P fa' fc' (G ++ [(x, f)]) := by
 have hl : (G ++ [(x, f)]).length = G.length + 1 := by simp
 have far : ∀ b, b < w.heap.size -> (Value.slice fa G.length fc).ownBlock ≠ some b -> w'.heap[b]? = w.heap[b]? := fun b h1 h2 => hg.block b h1 (fun e => h2 e.symm)
 have hok := own_block_lt h.ownf
 refine ⟨own_of_block h.own (fun k hk => far k (own_block_lt h.own k hk).2 (h.apart k hk)), h.post.of_cells (fun b o _ h2 => World.cell?_of_block (w := w) (a := ⟨b, o, none⟩) (far b (by omega) (fun e => by have := (hok b e).1; omega))), by rw [hl]; simpa [fvals] using hown, fun b hb e => ?_⟩
 rw [hl] at e
 rcases hat with hat | hat
 ·rw [hat] at e
  exact h.apart b hb e
 ·rw [hat] at e
  simp at e
  have := (own_block_lt h.own b hb).2
  omega
def PosP (w : World) (lo hi base : Nat) (va vf : Value) (Q : List (Kn × Nat)) (e : Ending) (w' : World) : Prop :=
 ∃ na nc xs fa fc, e = .returned (.agg #[.slice na Q.length nc, .slice fa Q.length fc]) /\ RowsAt w' lo hi base na nc xs Q fa fc Q /\ Turn (fun b => va.ownBlock = some b \/ vf.ownBlock = some b) w w' /\
  ∀ b, ((Value.slice na Q.length nc).ownBlock = some b \/ (Value.slice fa Q.length fc).ownBlock = some b) -> (va.ownBlock = some b \/ vf.ownBlock = some b) \/ w.heap.size <= b
structure PoSt (w wr : World) (lo hi base : Nat) (Ro : Nat -> Prop) (na : Option Addr) (nc : Nat) (xs : List Value) (P : List (Kn × Nat)) (fa : Option Addr) (fc : Nat) (G : List (Kn × Nat)) : Prop where
 rows : RowsAt wr lo hi base na nc xs P fa fc G
 turn : Turn Ro w wr
 siz : w.heap.size + 2 <= wr.heap.size
 blk : ∀ b, ((Value.slice na P.length nc).ownBlock = some b \/ (Value.slice fa G.length fc).ownBlock = some b) -> (Ro b /\ b < w.heap.size) \/ w.heap.size + 2 <= b
def PosAll (n : Nat) : Prop := ∀ (w : World) (lo hi base : Nat) (a : Option Addr) (L : List (T n)) (c : Nat) (na : Option Addr) (nc : Nat) (xs : List Value) (fa : Option Addr) (fc : Nat) (P : List (Kn × Nat)), KidsAt w lo hi n a L -> hi <= base -> base <= w.heap.size -> L.length <= maxK -> RowsAt w lo hi base na nc xs P fa fc P -> P.length + (posL (posT true n) L P.length).length <= 4096 ->
 Calls Try.prog 12 #[.slice a L.length c, .agg #[.slice na P.length nc, .slice fa P.length fc]] w (PosP w lo hi base (.slice na P.length nc) (.slice fa P.length fc) (P ++ posL (posT true n) L P.length))
structure PoB (w wr : World) (lo hi base : Nat) (Ro : Nat -> Prop) (na : Option Addr) (nc : Nat) (xs : List Value) (fa : Option Addr) (fc : Nat) (Q : List (Kn × Nat)) : Prop where
 st : PoSt w wr lo hi base Ro na nc xs Q fa fc Q
 box : IsCells wr w.heap.size #[.slice na Q.length nc, .slice fa Q.length fc]
 res : IsCells wr (w.heap.size + 1) #[.slice none 0 0, .slice none 0 0]
structure Cur (wc cur : World) (lo hi base : Nat) (va vf : Value) (na : Option Addr) (nc : Nat) (xs : List Value) (P : List (Kn × Nat)) (fa : Option Addr) (fc : Nat) (G : List (Kn × Nat)) : Prop where
 rows : RowsAt cur lo hi base na nc xs P fa fc G
 turn : Turn (fun x => va.ownBlock = some x \/ vf.ownBlock = some x) wc cur
 blk : ∀ x, ((Value.slice na P.length nc).ownBlock = some x \/ (Value.slice fa G.length fc).ownBlock = some x) -> (va.ownBlock = some x \/ vf.ownBlock = some x) \/ wc.heap.size <= x
section
variable {wc cur : World} {lo hi base : Nat} {va vf : Value} {na : Option Addr} {nc : Nat} {xs : List Value} {P : List (Kn × Nat)} {fa : Option Addr} {fc : Nat} {G : List (Kn × Nat)}
theorem RowsAt.begin0 {w : World} (h : RowsAt w lo hi base na nc xs P fa fc G) : Cur w w lo hi base (.slice na P.length nc) (.slice fa G.length fc) na nc xs P fa fc G := ⟨h, Turn.refl _ _, fun _ h => .inl h⟩
theorem Cur.drew (h : Cur wc cur lo hi base va vf na nc xs P fa fc G) (hhb : hi <= base) (hbw : base <= wc.heap.size) : Cur wc cur.drew lo hi base va vf na nc xs P fa fc G :=
 ⟨h.rows.turn (A := fun _ => False) (Turn.refl _ _).drew hhb (Nat.le_trans hbw h.turn.size) (fun _ h => h.elim), h.turn.drew, h.blk⟩
theorem Cur.attrs (h : Cur wc cur lo hi base va vf na nc xs P fa fc G) (hhb : hi <= base) (hbw : base <= wc.heap.size) (hv : ∀ x, (va.ownBlock = some x \/ vf.ownBlock = some x) -> base <= x) {aa : Option Addr} {l : List (ByteArray × ByteArray)} (ha : AttrsAt wc lo hi aa l) : AttrsAt cur lo hi aa l :=
 ha.of_cells (fun b o _ h2 => World.cell?_of_block (w := wc) (a := ⟨b, o, none⟩) (h.turn.block b (by omega) (fun e => by have := hv b e; omega)))
theorem Cur.alloc (h : Cur wc cur lo hi base va vf na nc xs P fa fc G) (hhb : hi <= base) (hbw : base <= wc.heap.size) (o : Obj) : Cur wc (cur.alloc o) lo hi base va vf na nc xs P fa fc G :=
 ⟨h.rows.turn (A := fun _ => False) ((Turn.refl _ _).alloc _) hhb (Nat.le_trans hbw h.turn.size) (fun _ h => h.elim), h.turn.alloc _, h.blk⟩
theorem Cur.app1 (h : Cur wc cur lo hi base va vf na nc xs P fa fc G) (hhb : hi <= base) (hbw : base <= wc.heap.size) {w' : World} {x : Kn} {aa : Option Addr} {ac f : Nat} {ka : Option Addr} {kl kc : Nat} (h2 : AttrsAt cur lo hi aa x.attrs) (h3 : x.attrs.length <= maxA)
  {na' : Option Addr} {nc' : Nat} (hown : w'.ownsRow base 36 5 (.slice na' (P.length + 1) nc') (P.length + 1) (xs ++ (tv x.kind x.name aa x.attrs.length ac x.text ka kl kc).toList)) (hg : cur.grownBy w' (Value.slice na P.length nc).ownBlock)
  (hat : (Value.slice na' (P.length + 1) nc').ownBlock = (Value.slice na P.length nc).ownBlock \/ (Value.slice na' (P.length + 1) nc').ownBlock = some cur.heap.size) : Cur wc w' lo hi base va vf na' nc' (xs ++ (tv x.kind x.name aa x.attrs.length ac x.text ka kl kc).toList) (P ++ [(x, f)]) fa fc G := by
 have hl : (P ++ [(x, f)]).length = P.length + 1 := by simp
 have hs := h.turn.size
 refine ⟨h.rows.app1 hhb (by omega) h2 h3 hown hg hat, ?_, fun y hy => ?_⟩
 ·refine (h.turn.mono (B := fun x => (va.ownBlock = some x \/ vf.ownBlock = some x) \/ wc.heap.size <= x) (fun k _ hk => .inl hk)).trans ⟨hg.os, hg.tape, hg.output, hg.size, fun k hk hn => hg.block k hk (fun e => hn (h.blk k (.inl e.symm)))⟩ |>.mono (fun k hk h => ?_)
  rcases h with h | h
  ·exact h
  ·omega
 ·rw [hl] at hy
  rcases hy with hy | hy
  ·rcases hat with hat | hat
   ·rw [hat] at hy; exact h.blk y (.inl hy)
   ·rw [hat] at hy; simp at hy; exact .inr (by omega)
  ·exact h.blk y (.inr hy)
theorem Cur.app2 (h : Cur wc cur lo hi base va vf na nc xs P fa fc G) (hhb : hi <= base) (hbw : base <= wc.heap.size) {w' : World} {x : Kn} {f : Nat}
  {fa' : Option Addr} {fc' : Nat} (hown : w'.ownsRow base 3 1 (.slice fa' (G.length + 1) fc') (G.length + 1) (fvals G ++ [.int .i64 (f : Int)])) (hg : cur.grownBy w' (Value.slice fa G.length fc).ownBlock)
  (hat : (Value.slice fa' (G.length + 1) fc').ownBlock = (Value.slice fa G.length fc).ownBlock \/ (Value.slice fa' (G.length + 1) fc').ownBlock = some cur.heap.size) : Cur wc w' lo hi base va vf na nc xs P fa' fc' (G ++ [(x, f)]) := by
 have hl : (G ++ [(x, f)]).length = G.length + 1 := by simp
 have hs := h.turn.size
 refine ⟨h.rows.app2 hhb (by omega) hown hg hat, ?_, fun y hy => ?_⟩
 ·refine (h.turn.mono (B := fun x => (va.ownBlock = some x \/ vf.ownBlock = some x) \/ wc.heap.size <= x) (fun k _ hk => .inl hk)).trans ⟨hg.os, hg.tape, hg.output, hg.size, fun k hk hn => hg.block k hk (fun e => hn (h.blk k (.inr e.symm)))⟩ |>.mono (fun k hk h => ?_)
  rcases h with h | h
  ·exact h
  ·omega
 ·rw [hl] at hy
  rcases hy with hy | hy
  ·exact h.blk y (.inl hy)
  ·rcases hat with hat | hat
   ·rw [hat] at hy; exact h.blk y (.inr hy)
   ·rw [hat] at hy; simp at hy; exact .inr (by omega)
end
def News (W : World) (X : Nat) (vs : List Value) : Prop := ∀ j u, vs[j]? = some u -> ∃ ad, some (⟨X, 0, none⟩ : Addr) = some ad /\ W.cell? (ad.add j) = some u
theorem News.keep {W W' : World} {X : Nat} {vs : List Value} (h : News W X vs) (hb : W'.heap[X]? = W.heap[X]?) : News W' X vs := fun j u hu => by
 obtain ⟨ad, h1, h2⟩ := h j u hu
 simp only [Option.some.injEq] at h1
 subst h1
 exact ⟨_, rfl, (World.cell?_of_block (w := W) (a := Addr.add ⟨X, 0, none⟩ j) (by unfold Addr.add; split <;> exact hb)).trans h2⟩
theorem one_int (f : Int) : ∀ u ∈ [Value.int .i64 f], u.oneCell' = true := by
 intro u hu
 simp at hu
 subst hu
 rfl
theorem PoB.at {w wc cur : World} {lo hi base : Nat} {Ro : Nat -> Prop} {na : Option Addr} {nc : Nat} {xs : List Value} {fa : Option Addr} {fc : Nat} {Q : List (Kn × Nat)} (h : PoB w wc lo hi base Ro na nc xs fa fc Q)
  {na' : Option Addr} {nc' : Nat} {xs' : List Value} {fa' : Option Addr} {fc' : Nat} {Q' G' : List (Kn × Nat)} (hc : Cur wc cur lo hi base (.slice na Q.length nc) (.slice fa Q.length fc) na' nc' xs' Q' fa' fc' G') : IsCells cur w.heap.size #[.slice na Q.length nc, .slice fa Q.length fc] :=
 h.box.of_block (hc.turn.block _ (by have := h.st.siz; omega) (fun e => by
  rcases h.st.blk _ e with h | h <;> omega))
theorem PoB.push {w wc cur : World} {lo hi base : Nat} {Ro : Nat -> Prop} {na : Option Addr} {nc : Nat} {xs : List Value} {fa : Option Addr} {fc : Nat} {Q : List (Kn × Nat)} (h : PoB w wc lo hi base Ro na nc xs fa fc Q) (hhb : hi <= base) (hbw : base <= w.heap.size) (hRo : ∀ b, Ro b -> base <= b /\ b < w.heap.size)
  {na' : Option Addr} {nc' : Nat} {xs' : List Value} {fa' : Option Addr} {fc' : Nat} {Q' : List (Kn × Nat)} (hc : Cur wc cur lo hi base (.slice na Q.length nc) (.slice fa Q.length fc) na' nc' xs' Q' fa' fc' Q') :
  PoB w ((cur.setCell ⟨w.heap.size, 0, none⟩ (.slice na' Q'.length nc')).setCell ⟨w.heap.size, 1, none⟩ (.slice fa' Q'.length fc')) lo hi base Ro na' nc' xs' fa' fc' Q' := by
 have hs := hc.turn.size
 have h2 := h.st.siz
 have hne : ∀ x, ((Value.slice na Q.length nc).ownBlock = some x \/ (Value.slice fa Q.length fc).ownBlock = some x) -> x ≠ w.heap.size /\ x ≠ w.heap.size + 1 := fun x hx => by
  rcases h.st.blk x hx with h | h <;> omega
 have hne' : ∀ x, ((Value.slice na' Q'.length nc').ownBlock = some x \/ (Value.slice fa' Q'.length fc').ownBlock = some x) -> x ≠ w.heap.size /\ x ≠ w.heap.size + 1 := fun x hx => by
  rcases hc.blk x hx with h | h
  ·exact hne x h
  ·omega
 have hb : IsCells cur w.heap.size #[.slice na Q.length nc, .slice fa Q.length fc] := h.box.of_block (hc.turn.block _ (by omega) (fun e => (hne _ e).1 rfl))
 have hr : IsCells cur (w.heap.size + 1) #[.slice none 0 0, .slice none 0 0] := h.res.of_block (hc.turn.block _ (by omega) (fun e => (hne _ e).2 rfl))
 have ht : Turn (fun x => x = w.heap.size) cur ((cur.setCell ⟨w.heap.size, 0, none⟩ (.slice na' Q'.length nc')).setCell ⟨w.heap.size, 1, none⟩ (.slice fa' Q'.length fc')) :=
  ((Turn.refl _ _).setCell (A := fun x => x = w.heap.size) (p := ⟨w.heap.size, 0, none⟩) rfl _).setCell (A := fun x => x = w.heap.size) (p := ⟨w.heap.size, 1, none⟩) rfl _
 refine ⟨⟨hc.rows.turn ht hhb (by omega) (fun x hx => by subst hx; exact ⟨hbw, fun e => (hne' _ (.inl e)).1 rfl, fun e => (hne' _ (.inr e)).1 rfl⟩), ?_, by have := ht.size; omega, fun x hx => ?_⟩, (hb.set 0 _).set 1 _, hr.of_block (ht.block _ hr.lt (by omega))⟩
 ·refine ((h.st.turn.mono (B := fun x => Ro x \/ w.heap.size <= x) (fun _ _ h => .inl h)).trans (hc.turn.mono (fun k hk hx => ?_))).trans (ht.mono (fun k _ hk => .inr (by omega))) |>.mono (fun k hk hx => ?_)
  ·rcases h.st.blk k hx with h | h
   ·exact .inl h.1
   ·exact .inr (by omega)
  ·rcases hx with hx | hx
   ·exact hx
   ·omega
 ·rcases hc.blk x hx with h' | h'
  ·exact h.st.blk x h'
  ·exact .inr (by omega)
end Go.Proofs.Ytmapmkogjhinmaa
/- What distances are known: by four places, as one number; a map with four numbers as its key. -/
namespace Go.Proofs.Ytmapmkogjhinmaa
open Go.RowKit Go.Maps
set_option linter.unusedVariables false
set_option linter.unusedSimpArgs false
set_option maxRecDepth 100000
def ix (a b c d : Nat) : Nat := ((a * 33 + b) * 33 + c) * 33 + d
theorem ix_lt {a b c d : Nat} (ha : a <= 32) (hb : b <= 32) (hc : c <= 32) (hd : d <= 32) : ix a b c d < 1185921 := by unfold ix; omega
theorem ix_inj {a b c d a' b' c' d' : Nat} (hb : b <= 32) (hc : c <= 32) (hd : d <= 32) (hb' : b' <= 32) (hc' : c' <= 32) (hd' : d' <= 32) (h : ix a b c d = ix a' b' c' d') : a = a' /\ b = b' /\ c = c' /\ d = d' := by
 unfold ix at h
 omega
def cntK (g : Nat -> Option Nat) : Nat -> Nat
 | 0 => 0
 | n + 1 => cntK g n + (if (g n).isSome then 1 else 0)
theorem cntK_le (g : Nat -> Option Nat) : ∀ n, cntK g n <= n
 | 0 => Nat.le_refl _
 | n + 1 => by
  have := cntK_le g n
  unfold cntK
  split <;> omega
theorem cntK_other {g : Nat -> Option Nat} {i v : Nat} : ∀ n, n <= i -> cntK (fun j => if j = i then some v else g j) n = cntK g n
 | 0, _ => rfl
 | n + 1, h => by
  have := cntK_other (g := g) (i := i) (v := v) n (by omega)
  unfold cntK
  rw [this]
  simp only [show ¬ n = i from by omega, if_false]
theorem cntK_put {g : Nat -> Option Nat} {i v : Nat} : ∀ n, i < n -> cntK (fun j => if j = i then some v else g j) n = cntK g n + (if (g i).isSome then 0 else 1)
 | 0, h => by omega
 | n + 1, h => by
  by_cases e : i = n
  ·subst e
   unfold cntK
   rw [cntK_other (g := g) (i := i) (v := v) i (Nat.le_refl _)]
   cases hg : g i <;> simp
  ·have := cntK_put (g := g) (i := i) (v := v) n (by omega)
   unfold cntK
   rw [this]
   simp only [show ¬ n = i from fun h => e h.symm, if_false]
   omega
def kElem : Value -> Option (DataW Unit × List MemPlace)
 | .int .i64 x => some (.lit (.int .i64 x), [])
 | _ => none
theorem kElem_some (x : Int) : kElem (.int .i64 x) = some (.lit (.int .i64 x), []) := rfl
theorem kElem_inv {v : Value} {x : Int} {ps : List MemPlace} (h : kElem v = some (.lit (.int .i64 x), ps)) : v = .int .i64 x := by
 unfold kElem at h
 split at h
 ·simp at h
  rw [h.1]
 ·cases h
theorem laidOut0 : laidOutB Try.prog = true := by kernel_rfl
theorem row72 : (72 : TypeId) < Try.prog.types.size := of_decide_eq_true (by kernel_rfl)
theorem cells72 : Try.prog.cellsOf 72 = 4 := by kernel_rfl
theorem cells3 : Try.prog.cellsOf 3 = 1 := by kernel_rfl
theorem wide72 : (match Try.prog.underlying 72 with | some (.array _ _) | some (.struct _) => true | _ => false) = true := by rw [Try.underlying72]
theorem law72 : Keyed Try.prog 72 := Keyed.of_law (deep_law_laid laidOut0 (m := 2) (by omega) row72 (by kernel_rfl) wide72)
theorem deep72 : Try.prog.keyType 72 = true := by kernel_rfl
theorem types72 : ∃ m, Try.prog.types.size = m + 1 := Nat.exists_eq_succ_of_ne_zero (fun h => by have h2 := row72; rw [h] at h2; exact absurd h2 (Nat.not_lt_zero _))
def kl4 (a b c d : Nat) : Lit := .string (keyBytes [.int .i64 (a : Int), .int .i64 (b : Int), .int .i64 (c : Int), .int .i64 (d : Int)])
def kv4 (a b c d : Nat) : Value := .agg #[.int .i64 (a : Int), .int .i64 (b : Int), .int .i64 (c : Int), .int .i64 (d : Int)]
theorem wf_i64 {t : Nat} (h : t <= 32) : (Lit.int .i64 (t : Int)).wf = true := by
 have h1 : IntKind.i64.min = -9223372036854775808 := rfl
 have h2 : IntKind.i64.max = 9223372036854775807 := rfl
 simp only [Lit.wf, h1, h2, Bool.and_eq_true, decide_eq_true_eq]
 omega
theorem key4 {a b c d : Nat} (ha : a <= 32) (hb : b <= 32) (hc : c <= 32) (hd : d <= 32) : keyOf Try.prog 72 (kv4 a b c d) = some (kl4 a b c d) := by
 obtain ⟨m, hm⟩ := types72
 unfold keyOf kv4
 simp only [Try.underlying72]
 rw [if_pos (by simp [deep72, Value.formed, Try.underlying72, cells72]), hm]
 unfold Program.keyLits
 simp only [Try.underlying72, Value.cells]
 rw [if_pos (by rw [cells72]; rfl), show List.range 4 = [0, 1, 2, 3] from rfl, List.mapM_cons, List.mapM_cons, List.mapM_cons, List.mapM_cons, List.mapM_nil]
 simp [cells3, Program.keyLits, Try.underlying3, wf_i64 ha, wf_i64 hb, wf_i64 hc, wf_i64 hd, kl4]
theorem kl4_inj {a b c d a' b' c' d' : Nat} (ha : a <= 32) (hb : b <= 32) (hc : c <= 32) (hd : d <= 32) (ha' : a' <= 32) (hb' : b' <= 32) (hc' : c' <= 32) (hd' : d' <= 32) (h : kl4 a b c d = kl4 a' b' c' d') : ix a b c d = ix a' b' c' d' := by
 have h1 := key4 ha hb hc hd
 rw [h] at h1
 have h2 := law72.inj h1 (key4 ha' hb' hc' hd')
 simp only [kv4, Value.agg.injEq, Array.mk.injEq, List.cons.injEq, Value.int.injEq, true_and, and_true] at h2
 unfold ix
 omega
def KMap (w : World) (m : Nat) (g : Nat -> Option Nat) : Prop :=
 ∃ D : DataW Unit, w.ownsMap Try.prog 72 kElem m (Maps.size D) D /\ Maps.size D <= cntK g 1185921 /\
  ∀ a b c d : Nat, a <= 32 -> b <= 32 -> c <= 32 -> d <= 32 -> (g (ix a b c d) = none -> Maps.has D (kl4 a b c d) = false) /\ ∀ v, g (ix a b c d) = some v -> Maps.has D (kl4 a b c d) = true /\ D.atKey (kl4 a b c d) (.lit (.int .i64 0)) = .lit (.int .i64 (v : Int))
theorem KMap.lt {w : World} {m : Nat} {g : Nat -> Option Nat} (h : KMap w m g) : m < w.heap.size := by
 obtain ⟨D, hown, _⟩ := h
 exact hown.lt
theorem KMap.of_block {w w' : World} {m : Nat} {g : Nat -> Option Nat} (h : KMap w m g) (hb : w'.heap[m]? = w.heap[m]?) : KMap w' m g := by
 obtain ⟨D, ⟨es, clock, h1, r⟩, h2⟩ := h
 exact ⟨D, ⟨es, clock, hb.trans h1, r⟩, h2⟩
theorem KMap.made (w : World) : KMap (w.alloc (.map #[] 0)) w.heap.size (fun _ => none) :=
 ⟨.map [], World.ownsMap_made _ _ _ _, Nat.zero_le _, fun a b c d _ _ _ _ => ⟨fun _ => rfl, fun v h => by cases h⟩⟩
theorem zero3 (w : World) : (zeroValue 3).run Try.prog w = .ok (.int .i64 0) w := by kernel_rfl
theorem KMap.look {w : World} {m : Nat} {g : Nat -> Option Nat} (h : KMap w m g) {a b c d : Nat} (ha : a <= 32) (hb : b <= 32) (hc : c <= 32) (hd : d <= 32) :
  (Instr.lookup 54 (.map (some m)) (kv4 a b c d) true).run Try.prog w = .ok (.tuple #[.int .i64 (((g (ix a b c d)).getD 0 : Nat) : Int), .bool (g (ix a b c d)).isSome]) w := by
 obtain ⟨D, hown, _, h3⟩ := h
 obtain ⟨h4, h5⟩ := h3 a b c d ha hb hc hd
 obtain ⟨v, ps, hrun, hv⟩ := hown.look_ok law72 Try.underlying54 (zero3 w) (zd := .lit (.int .i64 0)) (zp := []) rfl (key4 ha hb hc hd)
 rw [hrun]
 cases hg : g (ix a b c d) with
 | none =>
  rw [h4 hg]
  rw [atKey_of_not_has (h4 hg)] at hv
  rw [kElem_inv hv]
  rfl
 | some x =>
  obtain ⟨h6, h7⟩ := h5 x hg
  rw [h6]
  rw [h7] at hv
  rw [kElem_inv hv]
  rfl
theorem KMap.store {w : World} {m : Nat} {g : Nat -> Option Nat} (h : KMap w m g) {a b c d : Nat} (ha : a <= 32) (hb : b <= 32) (hc : c <= 32) (hd : d <= 32) (v : Nat) :
  ∃ w', (Instr.mapUpdate 54 (.map (some m)) (kv4 a b c d) (.int .i64 (v : Int))).run Try.prog w = .ok () w' /\ KMap w' m (fun j => if j = ix a b c d then some v else g j) /\ w.grownBy w' (some m) := by
 obtain ⟨D, hown, hsz, h3⟩ := h
 have hle := cntK_le g 1185921
 obtain ⟨w', hrun, hown', hturn⟩ := hown.update law72 Try.underlying54 (by unfold maxLen; omega) (key4 ha hb hc hd) (kElem_some (v : Int))
 have hs := size_put (k := kl4 a b c d) (hown.tidy law72) (DataW.lit (.int .i64 (v : Int)))
 have hlt := ix_lt ha hb hc hd
 refine ⟨w', hrun, ⟨D.put (kl4 a b c d) (.lit (.int .i64 (v : Int))), ?_, ?_, fun a' b' c' d' ha' hb' hc' hd' => ?_⟩, hturn⟩
 ·obtain ⟨es, clock, q1, q2, q3, q4⟩ := hown'
  refine ⟨es, clock, q1, q2, ?_, q4⟩
  have : Maps.size (D.put (kl4 a b c d) (.lit (.int .i64 (v : Int)))) = es.size := by rw [q4]; simp [Maps.size, length_sorted]
  omega
 ·rw [hs, cntK_put _ hlt]
  cases hg : g (ix a b c d) with
  | none =>
   rw [((h3 a b c d ha hb hc hd).1 hg)]
   simpa using hsz
  | some x =>
   rw [((h3 a b c d ha hb hc hd).2 x hg).1]
   simpa using hsz
 ·by_cases e : ix a' b' c' d' = ix a b c d
  ·obtain ⟨rfl, rfl, rfl, rfl⟩ := ix_inj hb' hc' hd' hb hc hd e
   simp only [if_pos]
   refine ⟨fun e => by simp at e, fun b' hb' => ?_⟩
   simp only [Option.some.injEq] at hb'
   subst hb'
   exact ⟨has_put_same (k := kl4 a' b' c' d') hown.isMap trivial _, atKey_put_same (k := kl4 a' b' c' d') hown.isMap trivial _ _⟩
  ·simp only [if_neg e]
   have hne : kl4 a' b' c' d' ≠ kl4 a b c d := fun h => e (kl4_inj ha' hb' hc' hd' ha hb hc hd h)
   rw [has_put_other hne, atKey_put_other hne]
   exact h3 a' b' c' d' ha' hb' hc' hd'
end Go.Proofs.Ytmapmkogjhinmaa
/- apart: the distance of two parts, by the program. -/
namespace Go.Proofs.Ytmapmkogjhinmaa
open Go.RowKit
set_option linter.unusedVariables false
set_option linter.unusedSimpArgs false
set_option maxRecDepth 100000
set_option maxHeartbeats 1000000
attribute [local go_sem] Bel.cell Bel.fz
structure MetAt (w : World) (mb mk : Nat) (A B : List (Kn × Nat)) (g : Nat -> Option Nat) : Prop where
 a0 : ∀ (i : Nat) (x : Kn × Nat), A[i]? = some x -> ∃ ga ca, w.cell? ⟨mb, 0, none⟩ = some (.slice (some ⟨ga, 0, none⟩) A.length ca) /\ ga < w.heap.size /\ ga ≠ mk /\ w.cell? ⟨ga, i * 6 + 5, none⟩ = some (.int .i64 (x.2 : Int))
 b0 : ∀ (i : Nat) (x : Kn × Nat), B[i]? = some x -> ∃ ga ca, w.cell? ⟨mb, 1, none⟩ = some (.slice (some ⟨ga, 0, none⟩) B.length ca) /\ ga < w.heap.size /\ ga ≠ mk /\ w.cell? ⟨ga, i * 6 + 5, none⟩ = some (.int .i64 (x.2 : Int))
 turn : ∀ i j, i < A.length -> j < B.length -> w.cell? ⟨mb, 2 + i * 32 + j, none⟩ = some (.int .i64 (turnN A B i j : Int))
 map : w.cell? ⟨mb, 1026, none⟩ = some (.map (some mk))
 lt : mb < w.heap.size
 ne : mb ≠ mk
 km : KMap w mk g
 ok : ∀ a b c d v, a <= 32 -> b <= 32 -> c <= 32 -> d <= 32 -> g (ix a b c d) = some v -> v = Z A B a b c d
theorem MetAt.step {w w' : World} {mb mk : Nat} {A B : List (Kn × Nat)} {g g' : Nat -> Option Nat} (h : MetAt w mb mk A B g) (ht : Turn (fun b => b = mk) w w') (hk : KMap w' mk g') (hok : ∀ a b c d v, a <= 32 -> b <= 32 -> c <= 32 -> d <= 32 -> g' (ix a b c d) = some v -> v = Z A B a b c d) : MetAt w' mb mk A B g' := by
 have hs := ht.size
 have hc : ∀ b o, b < w.heap.size -> b ≠ mk -> w'.cell? ⟨b, o, none⟩ = w.cell? ⟨b, o, none⟩ := fun b o h1 h2 => World.cell?_of_block (w := w) (a := ⟨b, o, none⟩) (ht.block b h1 h2)
 refine ⟨fun i x hx => ?_, fun i x hx => ?_, fun i j hi hj => (hc _ _ h.lt h.ne).trans (h.turn i j hi hj), (hc _ _ h.lt h.ne).trans h.map, Nat.lt_of_lt_of_le h.lt hs, h.ne, hk, hok⟩
 ·obtain ⟨ga, ca, h1, h2, h3, h4⟩ := h.a0 i x hx
  exact ⟨ga, ca, (hc _ _ h.lt h.ne).trans h1, by omega, h3, (hc _ _ h2 h3).trans h4⟩
 ·obtain ⟨ga, ca, h1, h2, h3, h4⟩ := h.b0 i x hx
  exact ⟨ga, ca, (hc _ _ h.lt h.ne).trans h1, by omega, h3, (hc _ _ h2 h3).trans h4⟩
theorem MetAt.below {w w' : World} {mb mk : Nat} {A B : List (Kn × Nat)} {g : Nat -> Option Nat} (h : MetAt w mb mk A B g) (hb : Below w.heap.size w w') : MetAt w' mb mk A B g :=
 h.step ((Turn.refl _ _).then hb (Nat.le_refl _)) (h.km.of_block (hb.block _ h.km.lt)) h.ok
structure TB (W : World) (mk : Nat) (I : World -> Prop) where
 w : World
 t : Turn (fun b => b = mk) W w
 i : I w
theorem TB.cell {W : World} {mk : Nat} {I : World -> Prop} (u : TB W mk I) (b o : Nat) (h : b < W.heap.size) (hn : (b = mk) = False) : u.w.cell? ⟨b, o, none⟩ = W.cell? ⟨b, o, none⟩ := World.cell?_of_block (w := W) (a := ⟨b, o, none⟩) (u.t.block b h (fun e => by rw [hn] at e; exact e))
theorem TB.fz {W : World} {mk : Nat} {I : World -> Prop} (u : TB W mk I) (b o : Nat) (h : b < W.heap.size) (hn : (b = mk) = False) : u.w.frozen? ⟨b, o, none⟩ = W.frozen? ⟨b, o, none⟩ := World.frozen?_of_block (w := W) (a := ⟨b, o, none⟩) (u.t.block b h (fun e => by rw [hn] at e; exact e))
theorem wp_region_tb {P : Program} {id : Nat} {Q : Exit -> Act -> World -> Prop} {a : Act} {w : World} {l : List Oper} (mk : Nat) (I : World -> Prop) (hm : P.follows .mixedOrders = true) (hB : Region.lexB .any l.toArray = true) (hI : I w) (hI2 : I w.drew)
  (h : Nonempty (TB w mk I) -> wpQuiet P l.toArray (fun w' => ∃ u : TB w mk I, w' = u.w) (fun a' => ∀ w', (∃ u : TB w mk I, w' = u.w) -> Q .normal a' w') l a) : (Code.region id l.toArray true).wp P Q a w :=
 wp_region_quiet (C := fun w' => ∃ u : TB w mk I, w' = u.w) hm hB ⟨⟨w.drew, (Turn.refl _ _).drew, hI2⟩, rfl⟩ (by simpa using h ⟨⟨w, Turn.refl _ _, hI⟩⟩)
def Met (mb mk : Nat) (A B : List (Kn × Nat)) (w : World) : Prop := ∃ g, MetAt w mb mk A B g
theorem Met.drew {mb mk : Nat} {A B : List (Kn × Nat)} {w : World} (h : Met mb mk A B w) : Met mb mk A B w.drew := by
 obtain ⟨g, h⟩ := h
 exact ⟨g, h.below (Below.refl _ _).drew⟩
def ApP (w : World) (mb mk : Nat) (A B : List (Kn × Nat)) (z : Nat) (e : Ending) (w' : World) : Prop :=
 e = .returned (.int .i64 (z : Int)) /\ Turn (fun b => b = mk) w w' /\ Met mb mk A B w'
def ApAll (mb mk : Nat) (A B : List (Kn × Nat)) (n : Nat) : Prop := ∀ (w : World) (a b c d : Nat), Met mb mk A B w -> Cl A a b -> Cl B c d -> (b - a) + (d - c) <= n ->
 Calls Try.prog 17 #[.pointer (some ⟨mb, 0, none⟩), .int .i64 (a : Int), .int .i64 (b : Int), .int .i64 (c : Int), .int .i64 (d : Int)] w (ApP w mb mk A B (Z A B a b c d))
theorem apart_base (mb mk : Nat) (A B : List (Kn × Nat)) (w : World) (a b c d : Nat) (hm : Met mb mk A B w) (hab : Cl A a b) (hcd : Cl B c d) (hA : A.length <= 32) (hB : B.length <= 32) (he : a = b \/ c = d) :
  Calls Try.prog 17 #[.pointer (some ⟨mb, 0, none⟩), .int .i64 (a : Int), .int .i64 (b : Int), .int .i64 (c : Int), .int .i64 (d : Int)] w (ApP w mb mk A B (Z A B a b c d)) := by
 have l1 := hab.le
 have l2 := hcd.le
 have l3 := hab.len
 have l4 := hcd.len
 have hz : ((Z A B a b c d : Nat) : Int) = (b : Int) - (a : Int) + (d : Int) - (c : Int) := by rw [Z_base he]; omega
 have HM : Hid (Met mb mk A B w) := hm
 clear hm hab hcd
 generalize Z A B a b c d = z at *
 by_cases e1 : a = b
 ·have h1 : ((a : Int) == (b : Int)) = true := by simp [e1]
  clear e1 he
  go_enter Try.func17, Try.ntmps17
  go_wp2
  go_ret
  exact ⟨congrArg (fun z => Ending.returned (.int .i64 z)) (by omega), Turn.refl _ _, HM.out⟩
 ·have e2 : c = d := by omega
  have h1 : ((a : Int) == (b : Int)) = false := by simp; omega
  have h2 : ((c : Int) == (d : Int)) = true := by simp [e2]
  clear e1 e2 he
  go_enter Try.func17, Try.ntmps17
  go_wp2
  go_ret
  exact ⟨congrArg (fun z => Ending.returned (.int .i64 z)) (by omega), Turn.refl _ _, HM.out⟩
end Go.Proofs.Ytmapmkogjhinmaa
/- What is the same, told by both sides: attributes. -/
namespace Go.Proofs.Ytmapmkogjhinmaa
open Go.RowKit
set_option linter.unusedVariables false
set_option linter.unusedSimpArgs false
set_option maxRecDepth 100000
set_option maxHeartbeats 2000000
theorem bl_inj {a b : ByteArray} (h : a.toList = b.toList) : a = b := by
 rw [ByteArray.toList_eq, ByteArray.toList_eq] at h
 exact ByteArray.ext (Array.toList_inj.1 h)
theorem bl_eq (a b : ByteArray) : (a.toList == b.toList) = decide (a = b) := by
 by_cases h : a = b
 ·simp [h]
 ·have : a.toList ≠ b.toList := fun e => h (bl_inj e)
  simp [h, this]
theorem equal_two (w : World) (lo lo2 hi hi2 : Nat) (a a2 : Option Addr) (l l2 : List (ByteArray × ByteArray)) (c c2 : Nat) (h : AttrsAt w lo hi a l) (h2 : AttrsAt w lo2 hi2 a2 l2) (hh : hi <= w.heap.size) (hh2 : hi2 <= w.heap.size) (hl : l.length <= maxA) (hl2 : l2.length <= maxA) :
  Calls Try.prog 55 #[.slice a l.length c, .slice a2 l2.length c2] w fun e w' => e = .returned (.bool (decide (l = l2))) /\ Below w.heap.size w w' := by
 have HA : Hid (AttrsAt w lo hi a l) := h
 have HA2 : Hid (AttrsAt w lo2 hi2 a2 l2) := h2
 unfold maxA at hl hl2
 clear h h2
 by_cases hn : l.length = l2.length
 ·have n1 : ((l.length : Int) != (l2.length : Int)) = false := by simp [hn]
  have HN : Hid (l.length = l2.length) := hn
  obtain ⟨R, hR⟩ : ∃ R, R = decide (l = l2) := ⟨_, rfl⟩
  rw [<- hR]
  have HR : Hid (R = decide (l = l2)) := hR
  clear hR hn
  go_enter Try.func55, Try.ntmps55
  go_wp2
  go_loopw [13] (fun iv wr => ∃ i : Nat, i <= l.length /\ iv = .int .i64 (i : Int) /\ Hid (∀ j, j < i -> l[j]? = l2[j]?) /\ Hid (Below w.heap.size w wr)) (fun iv _ => l.length - (intOf iv).toNat)
  case atStart => exact ⟨0, by omega, rfl, fun j hj => by omega, Below.refl _ _⟩
  case round =>
   obtain ⟨i, hi', rfl, hsame, hb⟩ := hrel
   by_cases hlt : i < l.length
   ·have t1 : (i : Int) < (l.length : Int) := by omega
    have t1' : (i : Int) < (l2.length : Int) := by have := HN.out; omega
    have t0 : (0 : Int) <= (i : Int) := by omega
    obtain ⟨p, hp⟩ : ∃ p, l[i]? = some p := ⟨_, List.getElem?_eq_getElem hlt⟩
    obtain ⟨q, hq⟩ : ∃ q, l2[i]? = some q := ⟨_, List.getElem?_eq_getElem (by have := HN.out; omega)⟩
    obtain ⟨b, o, rfl, -, hbl, c0, c1⟩ := HA.out i p hp
    obtain ⟨b2, o2, rfl, -, hbl2, e0, e1⟩ := HA2.out i q hq
    have d0 := (hb.out.cell (p := ⟨b, o + i * 2, none⟩) (show b < w.heap.size by omega)).trans c0
    have d1 := (hb.out.cell (p := ⟨b, o + i * 2 + 1, none⟩) (show b < w.heap.size by omega)).trans c1
    have f0 := (hb.out.cell (p := ⟨b2, o2 + i * 2, none⟩) (show b2 < w.heap.size by omega)).trans e0
    have f1 := (hb.out.cell (p := ⟨b2, o2 + i * 2 + 1, none⟩) (show b2 < w.heap.size by omega)).trans e1
    have HP : Hid (l[i]? = some p /\ l2[i]? = some q) := ⟨hp, hq⟩
    clear hp hq c0 c1 e0 e1
    by_cases hx : p.1 = q.1
    ·have n5 : (p.1.toList == q.1.toList) = true := by rw [hx]; simp
     by_cases hy : p.2 = q.2
     ·have n6 : (p.2.toList == q.2.toList) = true := by rw [hy]; simp
      have HS : Hid (∀ j, j < i + 1 -> l[j]? = l2[j]?) := fun j hj => by
       rcases Nat.lt_or_ge j i with h | h
       ·exact hsame.out j h
       ·have : j = i := by omega
        subst this
        rw [HP.out.1, HP.out.2, Prod.ext hx hy]
      clear hx hy
      go_wp2
      go_region
      go_wp2
      refine ⟨⟨i + 1, by omega, by simp, HS, hb.out.drew⟩, ?_⟩
      simp [intOf]; omega
     ·have n6 : (p.2.toList == q.2.toList) = false := by rw [bl_eq]; simp [hy]
      have HF : Hid (R = false) := by
       show _ = _
       rw [HR.out]
       refine decide_eq_false (fun e => hy ?_)
       have h1 := HP.out.1
       rw [e, HP.out.2] at h1
       cases h1
       rfl
      clear hx hy
      go_wp2
      go_region
      go_wp2
      go_ret
      exact ⟨congrArg (fun z => Ending.returned (.bool z)) HF.out.symm, hb.out.drew⟩
    ·have n5 : (p.1.toList == q.1.toList) = false := by rw [bl_eq]; simp [hx]
     have HF : Hid (R = false) := by
      show _ = _
      rw [HR.out]
      refine decide_eq_false (fun e => hx ?_)
      have h1 := HP.out.1
      rw [e, HP.out.2] at h1
      cases h1
      rfl
     clear hx
     go_wp2
     go_region
     go_wp2
     go_ret
     exact ⟨congrArg (fun z => Ending.returned (.bool z)) HF.out.symm, hb.out.drew⟩
   ·have t1 : ¬ (i : Int) < (l.length : Int) := by omega
    have HT : Hid (R = true) := by
     show _ = _
     rw [HR.out]
     refine decide_eq_true (List.ext_getElem? (fun j => ?_))
     rcases Nat.lt_or_ge j i with h | h
     ·exact hsame.out j h
     ·have := HN.out
      rw [List.getElem?_eq_none (by omega), List.getElem?_eq_none (by omega)]
    go_wp2
    go_ret
    exact ⟨congrArg (fun z => Ending.returned (.bool z)) HT.out.symm, hb.out⟩
 ·have n1 : ((l.length : Int) != (l2.length : Int)) = true := by simp; omega
  have hf : decide (l = l2) = false := decide_eq_false (fun e => hn (by rw [e]))
  rw [hf]
  clear hf hn
  go_enter Try.func55, Try.ntmps55
  go_wp2
  go_ret
  exact ⟨rfl, Below.refl _ _⟩
theorem attrs_two (w : World) (lo lo2 hi hi2 : Nat) (a a2 : Option Addr) (l l2 : List (ByteArray × ByteArray)) (c c2 : Nat) (h : AttrsAt w lo hi a l) (h2 : AttrsAt w lo2 hi2 a2 l2) (hh : hi <= w.heap.size) (hh2 : hi2 <= w.heap.size) (hl : l.length <= maxA) (hl2 : l2.length <= maxA) :
  Calls Try.prog 29 #[.slice a l.length c, .slice a2 l2.length c2] w fun e w' => e = .returned (.bool (decide (l = l2))) /\ Below w.heap.size w w' := by
 have HA : Hid (AttrsAt w lo hi a l) := h
 have HA2 : Hid (AttrsAt w lo2 hi2 a2 l2) := h2
 unfold maxA at hl hl2
 clear h h2
 by_cases hn : l.length = l2.length
 ·have n1 : ((l.length : Int) != (l2.length : Int)) = false := by simp [hn]
  have HN : Hid (l.length = l2.length) := hn
  obtain ⟨R, hR⟩ : ∃ R, R = decide (l = l2) := ⟨_, rfl⟩
  rw [<- hR]
  have HR : Hid (R = decide (l = l2)) := hR
  clear hR hn
  go_enter Try.func29, Try.ntmps29
  go_wp2
  go_loopw [5] (fun iv wr => ∃ i : Nat, i <= l.length /\ iv = .int .i64 (i : Int) /\ Hid (∀ j, j < i -> l[j]? = l2[j]?) /\ Hid (Below w.heap.size w wr)) (fun iv _ => l.length - (intOf iv).toNat)
  case atStart => exact ⟨0, by omega, rfl, fun j hj => by omega, Below.refl _ _⟩
  case round =>
   obtain ⟨i, hi', rfl, hsame, hb⟩ := hrel
   by_cases hlt : i < l.length
   ·have t1 : (i : Int) < (l.length : Int) := by omega
    have t1' : (i : Int) < (l2.length : Int) := by have := HN.out; omega
    have t0 : (0 : Int) <= (i : Int) := by omega
    obtain ⟨p, hp⟩ : ∃ p, l[i]? = some p := ⟨_, List.getElem?_eq_getElem hlt⟩
    obtain ⟨q, hq⟩ : ∃ q, l2[i]? = some q := ⟨_, List.getElem?_eq_getElem (by have := HN.out; omega)⟩
    obtain ⟨b, o, rfl, -, hbl, c0, c1⟩ := HA.out i p hp
    obtain ⟨b2, o2, rfl, -, hbl2, e0, e1⟩ := HA2.out i q hq
    have d0 := (hb.out.cell (p := ⟨b, o + i * 2, none⟩) (show b < w.heap.size by omega)).trans c0
    have d1 := (hb.out.cell (p := ⟨b, o + i * 2 + 1, none⟩) (show b < w.heap.size by omega)).trans c1
    have f0 := (hb.out.cell (p := ⟨b2, o2 + i * 2, none⟩) (show b2 < w.heap.size by omega)).trans e0
    have f1 := (hb.out.cell (p := ⟨b2, o2 + i * 2 + 1, none⟩) (show b2 < w.heap.size by omega)).trans e1
    have HP : Hid (l[i]? = some p /\ l2[i]? = some q) := ⟨hp, hq⟩
    clear hp hq c0 c1 e0 e1
    by_cases hx : p.1 = q.1
    ·have n5 : (p.1.toList == q.1.toList) = true := by rw [hx]; simp
     by_cases hy : p.2 = q.2
     ·have n6 : (p.2.toList == q.2.toList) = true := by rw [hy]; simp
      have HS : Hid (∀ j, j < i + 1 -> l[j]? = l2[j]?) := fun j hj => by
       rcases Nat.lt_or_ge j i with h | h
       ·exact hsame.out j h
       ·have : j = i := by omega
        subst this
        rw [HP.out.1, HP.out.2, Prod.ext hx hy]
      clear hx hy
      go_wp2
      go_region
      go_wp2
      refine ⟨⟨i + 1, by omega, by simp, HS, hb.out.drew⟩, ?_⟩
      simp [intOf]; omega
     ·have n6 : (p.2.toList == q.2.toList) = false := by rw [bl_eq]; simp [hy]
      have HF : Hid (R = false) := by
       show _ = _
       rw [HR.out]
       refine decide_eq_false (fun e => hy ?_)
       have h1 := HP.out.1
       rw [e, HP.out.2] at h1
       cases h1
       rfl
      clear hx hy
      go_wp2
      go_region
      go_wp2
      go_ret
      exact ⟨congrArg (fun z => Ending.returned (.bool z)) HF.out.symm, hb.out.drew⟩
    ·have n5 : (p.1.toList == q.1.toList) = false := by rw [bl_eq]; simp [hx]
     have HF : Hid (R = false) := by
      show _ = _
      rw [HR.out]
      refine decide_eq_false (fun e => hx ?_)
      have h1 := HP.out.1
      rw [e, HP.out.2] at h1
      cases h1
      rfl
     clear hx
     go_wp2
     go_region
     go_wp2
     go_ret
     exact ⟨congrArg (fun z => Ending.returned (.bool z)) HF.out.symm, hb.out.drew⟩
   ·have t1 : ¬ (i : Int) < (l.length : Int) := by omega
    have HT : Hid (R = true) := by
     show _ = _
     rw [HR.out]
     refine decide_eq_true (List.ext_getElem? (fun j => ?_))
     rcases Nat.lt_or_ge j i with h | h
     ·exact hsame.out j h
     ·have := HN.out
      rw [List.getElem?_eq_none (by omega), List.getElem?_eq_none (by omega)]
    go_wp2
    go_ret
    exact ⟨congrArg (fun z => Ending.returned (.bool z)) HT.out.symm, hb.out⟩
 ·have n1 : ((l.length : Int) != (l2.length : Int)) = true := by simp; omega
  have hf : decide (l = l2) = false := decide_eq_false (fun e => hn (by rw [e]))
  rw [hf]
  clear hf hn
  go_enter Try.func29, Try.ntmps29
  go_wp2
  go_ret
  exact ⟨rfl, Below.refl _ _⟩
end Go.Proofs.Ytmapmkogjhinmaa
/- Same, of two nodes without children; one, of two nodes. -/
namespace Go.Proofs.Ytmapmkogjhinmaa
open Go.RowKit
set_option linter.unusedVariables false
set_option linter.unusedSimpArgs false
set_option maxRecDepth 100000
set_option maxHeartbeats 2000000
attribute [local go_sem] Bel.cell Bel.fz
theorem AttrsAt.bel {w w' : World} {lo hi : Nat} {a : Option Addr} {l : List (ByteArray × ByteArray)} (h : AttrsAt w lo hi a l) (hb : Below w.heap.size w w') (hh : hi <= w.heap.size) : AttrsAt w' lo hi a l :=
 h.of_cells (fun b o _ h2 => hb.cell (p := ⟨b, o, none⟩) (show b < w.heap.size by omega))
theorem samenode_two (w : World) (b x b2 x2 lo lo2 hi hi2 : Nat) (p q : Kn) (aa aa2 : Option Addr) (ac ac2 : Nat) (hb : b < w.heap.size) (hb2 : b2 < w.heap.size) (hl : p.attrs.length <= maxA) (hl2 : q.attrs.length <= maxA) (hk : p.kind = 1 \/ p.kind = 2) (hhi : hi <= w.heap.size) (hhi2 : hi2 <= w.heap.size)
  (h0 : w.cell? ⟨b, x, none⟩ = some (.int .i64 p.kind)) (h1 : w.cell? ⟨b, x + 1, none⟩ = some (.string p.name)) (h2 : w.cell? ⟨b, x + 2, none⟩ = some (.slice aa p.attrs.length ac)) (h3 : w.cell? ⟨b, x + 3, none⟩ = some (.string p.text)) (hA : AttrsAt w lo hi aa p.attrs)
  (g0 : w.cell? ⟨b2, x2, none⟩ = some (.int .i64 q.kind)) (g1 : w.cell? ⟨b2, x2 + 1, none⟩ = some (.string q.name)) (g2 : w.cell? ⟨b2, x2 + 2, none⟩ = some (.slice aa2 q.attrs.length ac2)) (g3 : w.cell? ⟨b2, x2 + 3, none⟩ = some (.string q.text)) (hA2 : AttrsAt w lo2 hi2 aa2 q.attrs) :
  Calls Try.prog 40 #[.pointer (some ⟨b, x, none⟩), .pointer (some ⟨b2, x2, none⟩)] w fun e w' => e = .returned (.bool (sameK p q)) /\ Below w.heap.size w w' := by
 have HEQ : Hid (∀ W, Below w.heap.size w W -> Calls Try.prog 55 #[.slice aa p.attrs.length ac, .slice aa2 q.attrs.length ac2] W fun e w' => e = .returned (.bool (decide (p.attrs = q.attrs))) /\ Below W.heap.size W w') := fun W hW => equal_two W lo lo2 hi hi2 aa aa2 p.attrs q.attrs ac ac2 (hA.bel hW hhi) (hA2.bel hW hhi2) (by have := hW.size; omega) (by have := hW.size; omega) hl hl2
 clear hA hA2
 obtain ⟨R, hR⟩ : ∃ R, R = sameK p q := ⟨_, rfl⟩
 rw [<- hR]
 have HR : Hid (R = sameK p q) := hR
 clear hR
 obtain ⟨E, hE⟩ : ∃ E, E = decide (p.attrs = q.attrs) := ⟨_, rfl⟩
 have HE : Hid (E = decide (p.attrs = q.attrs)) := hE
 rw [<- hE] at HEQ
 clear hE
 go_enter Try.func40, Try.ntmps40
 by_cases hkk : p.kind = q.kind
 ·have n1 : (p.kind != q.kind) = false := by simp [hkk]
  go_wp2
  refine wp_region_bel (by kernel_rfl) (by kernel_rfl) ?_
  intro hne
  repeat go_big_quiet_step (fail)
  refine wpQuiet_nil ?_
  rintro _ ⟨u, rfl⟩
  have hu := u.h.size
  have k0 := (u.h.cell (p := ⟨b, x, none⟩) hb).trans h0
  have k1 := (u.h.cell (p := ⟨b, x + 1, none⟩) hb).trans h1
  have k2 := (u.h.cell (p := ⟨b, x + 2, none⟩) hb).trans h2
  have k3 := (u.h.cell (p := ⟨b, x + 3, none⟩) hb).trans h3
  have j1 := (u.h.cell (p := ⟨b2, x2 + 1, none⟩) hb2).trans g1
  have j2 := (u.h.cell (p := ⟨b2, x2 + 2, none⟩) hb2).trans g2
  have j3 := (u.h.cell (p := ⟨b2, x2 + 3, none⟩) hb2).trans g3
  clear h0 h1 h2 h3 g0 g1 g2 g3
  have hbu : b < u.w.heap.size := by omega
  have hbu2 : b2 < u.w.heap.size := by omega
  by_cases e1 : p.kind = 1
  ·have hkb : (p.kind == 1) = true := by simp [e1]
   have heq := fun W (hW : Below u.w.heap.size u.w W) => HEQ.out W (u.h.trans (hW.mono hu))
   by_cases hnm : p.name = q.name
   ·have n2 : (p.name.toList == q.name.toList) = true := by rw [hnm]; simp
    have HF : Hid (R = E) := by
     show _ = _
     rw [HR.out, HE.out]
     unfold sameK
     rw [if_neg (by omega), decide_eq_true hkk, decide_eq_true hnm]
     simp
    clear hnm e1 hkk hk
    go_wp2
    refine wp_region_bel (by kernel_rfl) (by kernel_rfl) ?_
    intro hne2
    repeat go_big_quiet_step ((go_at_call 55; exact Calls.bel_of (heq _ (Bel.h _))))
    refine wpQuiet_nil ?_
    rintro _ ⟨u2, rfl⟩
    go_wp2
    go_ret
    exact ⟨congrArg (fun z => Ending.returned (.bool z)) HF.out.symm, u.h.trans (u2.h.mono hu)⟩
   ·have n2 : (p.name.toList == q.name.toList) = false := by rw [bl_eq]; simp [hnm]
    have HF : Hid (R = false) := by
     show _ = _
     rw [HR.out]
     unfold sameK
     rw [if_neg (by omega), decide_eq_false hnm]
     simp
    clear hnm e1 hkk hk
    go_wp2
    refine wp_region_bel (by kernel_rfl) (by kernel_rfl) ?_
    intro hne2
    repeat go_big_quiet_step ((go_at_call 55; exact Calls.bel_of (heq _ (Bel.h _))))
    refine wpQuiet_nil ?_
    rintro _ ⟨u2, rfl⟩
    go_wp2
    go_ret
    exact ⟨congrArg (fun z => Ending.returned (.bool z)) HF.out.symm, u.h.trans (u2.h.mono hu)⟩
  ·have e2 : p.kind = 2 := by omega
   have hkb : (p.kind == 1) = false := by simp [e1]
   have hkb2 : (p.kind == 2) = true := by simp [e2]
   obtain ⟨tb, htb⟩ : ∃ tb, tb = decide (p.text = q.text) := ⟨_, rfl⟩
   have n2 : (p.text.toList == q.text.toList) = tb := by rw [bl_eq, htb]
   have HF : Hid (R = tb) := by
    show _ = _
    rw [HR.out, htb]
    unfold sameK
    rw [if_pos e2, decide_eq_true hkk]
    simp
   clear htb e1 e2 hkk hk
   go_wp2
   refine wp_region_bel (by kernel_rfl) (by kernel_rfl) ?_
   intro hne2
   repeat go_big_quiet_step (fail)
   refine wpQuiet_nil ?_
   rintro _ ⟨u2, rfl⟩
   go_wp2
   go_ret
   exact ⟨congrArg (fun z => Ending.returned (.bool z)) HF.out.symm, u.h.trans (u2.h.mono hu)⟩
 ·have n1 : (p.kind != q.kind) = true := by simp [hkk]
  have HF : Hid (R = false) := by
   show _ = _
   rw [HR.out]
   unfold sameK
   rw [decide_eq_false hkk]
   simp
  clear hkk hk
  go_wp2
  refine wp_region_bel (by kernel_rfl) (by kernel_rfl) ?_
  intro hne
  repeat go_big_quiet_step (fail)
  refine wpQuiet_nil ?_
  rintro _ ⟨u, rfl⟩
  go_wp2
  go_ret
  exact ⟨congrArg (fun z => Ending.returned (.bool z)) HF.out.symm, u.h⟩
theorem same_nil (w : World) : Calls Try.prog 25 #[.slice none 0 0, .slice none 0 0, .int .i64 131071] w fun e w' => e = .returned (.bool true) /\ w' = w := by
 go_enter Try.func25, Try.ntmps25
 go_wp2
 go_loopw [19] (fun iv wr => iv = .int .i64 0 /\ wr = w) (fun _ _ => 0)
 case atStart => exact ⟨rfl, rfl⟩
 case round =>
  obtain ⟨rfl, rfl⟩ := hrel
  go_wp2
  go_ret
  exact ⟨rfl, rfl⟩
end Go.Proofs.Ytmapmkogjhinmaa
/- Same, of two nodes without children; one, of two nodes. -/
namespace Go.Proofs.Ytmapmkogjhinmaa
open Go.RowKit
set_option linter.unusedVariables false
set_option linter.unusedSimpArgs false
set_option maxRecDepth 100000
set_option maxHeartbeats 4000000
attribute [local go_sem] Bel.cell Bel.fz
theorem same_two (w : World) (b b2 lo lo2 hi hi2 : Nat) (p q : Kn) (aa aa2 : Option Addr) (ac ac2 : Nat) (hb : b < w.heap.size) (hb2 : b2 < w.heap.size) (hl : p.attrs.length <= maxA) (hl2 : q.attrs.length <= maxA) (hk : p.kind = 1 \/ p.kind = 2) (hhi : hi <= w.heap.size) (hhi2 : hi2 <= w.heap.size)
  (h0 : w.cell? ⟨b, 0, none⟩ = some (.int .i64 p.kind)) (h1 : w.cell? ⟨b, 1, none⟩ = some (.string p.name)) (h2 : w.cell? ⟨b, 2, none⟩ = some (.slice aa p.attrs.length ac)) (h3 : w.cell? ⟨b, 3, none⟩ = some (.string p.text)) (h4 : w.cell? ⟨b, 4, none⟩ = some (.slice none 0 0)) (hA : AttrsAt w lo hi aa p.attrs)
  (g0 : w.cell? ⟨b2, 0, none⟩ = some (.int .i64 q.kind)) (g1 : w.cell? ⟨b2, 1, none⟩ = some (.string q.name)) (g2 : w.cell? ⟨b2, 2, none⟩ = some (.slice aa2 q.attrs.length ac2)) (g3 : w.cell? ⟨b2, 3, none⟩ = some (.string q.text)) (g4 : w.cell? ⟨b2, 4, none⟩ = some (.slice none 0 0)) (hA2 : AttrsAt w lo2 hi2 aa2 q.attrs) :
  Calls Try.prog 25 #[.slice (some ⟨b, 0, none⟩) 1 1, .slice (some ⟨b2, 0, none⟩) 1 1, .int .i64 131072] w fun e w' => e = .returned (.bool (sameK p q)) /\ Below w.heap.size w w' := by
 have HSN : Hid (∀ W, Below w.heap.size w W -> Calls Try.prog 40 #[.pointer (some ⟨b, 0, none⟩), .pointer (some ⟨b2, 0, none⟩)] W fun e w' => e = .returned (.bool (sameK p q)) /\ Below W.heap.size W w') := fun W hW =>
  samenode_two W b 0 b2 0 lo lo2 hi hi2 p q aa aa2 ac ac2 (by have := hW.size; omega) (by have := hW.size; omega) hl hl2 hk (by have := hW.size; omega) (by have := hW.size; omega) ((hW.cell (p := ⟨b, _, none⟩) hb).trans h0) ((hW.cell (p := ⟨b, _, none⟩) hb).trans h1) ((hW.cell (p := ⟨b, _, none⟩) hb).trans h2) ((hW.cell (p := ⟨b, _, none⟩) hb).trans h3) (hA.bel hW hhi) ((hW.cell (p := ⟨b2, _, none⟩) hb2).trans g0) ((hW.cell (p := ⟨b2, _, none⟩) hb2).trans g1) ((hW.cell (p := ⟨b2, _, none⟩) hb2).trans g2) ((hW.cell (p := ⟨b2, _, none⟩) hb2).trans g3) (hA2.bel hW hhi2)
 have HC : Hid (∀ W, Below w.heap.size w W -> W.cell? ⟨b, 0, none⟩ = some (.int .i64 p.kind) /\ W.cell? ⟨b, 4, none⟩ = some (.slice none 0 0) /\ W.cell? ⟨b2, 4, none⟩ = some (.slice none 0 0)) := fun W hW => ⟨(hW.cell (p := ⟨b, _, none⟩) hb).trans h0, (hW.cell (p := ⟨b, _, none⟩) hb).trans h4, (hW.cell (p := ⟨b2, _, none⟩) hb2).trans g4⟩
 clear h0 h1 h2 h3 h4 g0 g1 g2 g3 g4 hA hA2
 generalize sameK p q = R at *
 generalize p.kind = kd at *
 go_enter Try.func25, Try.ntmps25
 go_wp2
 go_loopw [19] (fun iv wr => ∃ i : Nat, i <= 1 /\ iv = .int .i64 (i : Int) /\ Hid (i = 1 -> R = true) /\ Hid (Below w.heap.size w wr)) (fun iv _ => 1 - (intOf iv).toNat)
 case atStart => exact ⟨0, by omega, rfl, fun h => by omega, Below.refl _ _⟩
 case round =>
  obtain ⟨i, hi', rfl, hR1, hbw⟩ := hrel
  have hbs := hbw.out.size
  by_cases hlt : i < 1
  ·have hi0 : i = 0 := by omega
   subst hi0
   have hcal : ∀ W, Below wr.heap.size wr W -> Calls Try.prog 40 #[.pointer (some ⟨b, 0, none⟩), .pointer (some ⟨b2, 0, none⟩)] W fun e w' => e = .returned (.bool R) /\ Below W.heap.size W w' := fun W hW => HSN.out W (hbw.out.trans (hW.mono hbs))
   obtain ⟨k0, k4, j4⟩ := HC.out wr hbw.out
   have hbr : b < wr.heap.size := by omega
   have hbr2 : b2 < wr.heap.size := by omega
   clear hR1
   go_wp2
   refine wp_region_bel (by kernel_rfl) (by kernel_rfl) ?_
   intro hne
   repeat go_big_quiet_step ((go_at_call 40; exact Calls.bel_of (hcal _ (Bel.h _))))
   refine wpQuiet_nil ?_
   rintro _ ⟨u, rfl⟩
   have hu := u.h.size
   have HBU : Hid (Below w.heap.size w u.w) := hbw.out.trans (u.h.mono hbs)
   obtain ⟨m0, m4, n4⟩ := HC.out u.w HBU.out
   have hbu : b < u.w.heap.size := by omega
   have hbu2 : b2 < u.w.heap.size := by omega
   clear k0 k4 j4 hcal
   cases R with
   | false =>
    go_wp2
    go_ret
    exact ⟨rfl, HBU.out⟩
   | true =>
    have hcal2 : ∀ W, Below u.w.heap.size u.w W -> Calls Try.prog 25 #[.slice none 0 0, .slice none 0 0, .int .i64 131071] W fun e w' => e = .returned (.bool true) /\ Below W.heap.size W w' := fun W hW => (same_nil W).mono (fun e w' h => ⟨h.1, by rw [h.2]; exact Below.refl _ _⟩)
    by_cases hk1 : kd = 1
    ·have hkb : (kd == 1) = true := by simp [hk1]
     clear hk1 hk
     go_wp2
     refine wp_region_bel (by kernel_rfl) (by kernel_rfl) ?_
     intro hne2
     repeat go_big_quiet_step ((go_at_call 25; exact Calls.bel_of (hcal2 _ (Bel.h _))))
     refine wpQuiet_nil ?_
     rintro _ ⟨u2, rfl⟩
     have HB2 : Hid (Below w.heap.size w u2.w) := HBU.out.trans (u2.h.mono (by omega))
     go_wp2
     go_roundw
     case rel => exact ⟨1, by omega, by go_num, (by first | exact fun _ => rfl | exact trivial | exact fun _ => trivial), HB2⟩
     case measure => simp [intOf]
    ·have hkb : (kd == 1) = false := by simp [hk1]
     clear hk1 hk
     go_wp2
     refine wp_region_bel (by kernel_rfl) (by kernel_rfl) ?_
     intro hne2
     repeat go_big_quiet_step ((go_at_call 25; exact Calls.bel_of (hcal2 _ (Bel.h _))))
     refine wpQuiet_nil ?_
     rintro _ ⟨u2, rfl⟩
     have HB2 : Hid (Below w.heap.size w u2.w) := HBU.out.trans (u2.h.mono (by omega))
     go_wp2
     go_roundw
     case rel => exact ⟨1, by omega, by go_num, (by first | exact fun _ => rfl | exact trivial | exact fun _ => trivial), HB2⟩
     case measure => simp [intOf]
  ·have hi1 : i = 1 := by omega
   subst hi1
   have HT : Hid (R = true) := hR1.out rfl
   go_wp2
   go_ret
   exact ⟨congrArg (fun z => Ending.returned (.bool z)) HT.out.symm, hbw.out⟩
theorem Same_two (w : World) (b b2 : Nat) (R : Bool) (hc : Calls Try.prog 25 #[.slice (some ⟨b, 0, none⟩) 1 1, .slice (some ⟨b2, 0, none⟩) 1 1, .int .i64 131072] w fun e w' => e = .returned (.bool R) /\ Below w.heap.size w w') :
  Calls Try.prog 16 #[.slice (some ⟨b, 0, none⟩) 1 1, .slice (some ⟨b2, 0, none⟩) 1 1] w fun e w' => e = .returned (.bool R) /\ Below w.heap.size w w' := by
 go_enter Try.func16, Try.ntmps16
 go_wp2_with fail
 refine hc.mono ?_
 rintro e w1 ⟨rfl, hb1⟩
 go_wp2
 go_ret
 exact ⟨rfl, hb1⟩
theorem one_any (w : World) (lo lo2 hi hi2 : Nat) (p q : Kn) (aa aa2 ka ka2 : Option Addr) (ac ac2 kl kc kl2 kc2 : Nat) (hl : p.attrs.length <= maxA) (hl2 : q.attrs.length <= maxA) (hhi : hi <= w.heap.size) (hhi2 : hi2 <= w.heap.size) (hA : AttrsAt w lo hi aa p.attrs) (hA2 : AttrsAt w lo2 hi2 aa2 q.attrs) :
  Calls Try.prog 22 #[.agg #[.int .i64 p.kind, .string p.name, .slice aa p.attrs.length ac, .string p.text, .slice ka kl kc], .agg #[.int .i64 q.kind, .string q.name, .slice aa2 q.attrs.length ac2, .string q.text, .slice ka2 kl2 kc2]] w fun e w' => e = .returned (.bool (sameK p q)) /\ Below w.heap.size w w' := by
 have HB0 : Hid (Below w.heap.size w ((w.alloc (.cells #[.int .i64 p.kind, .string p.name, .slice aa p.attrs.length ac, .string p.text, .slice ka kl kc] 36)).alloc (.cells #[.int .i64 q.kind, .string q.name, .slice aa2 q.attrs.length ac2, .string q.text, .slice ka2 kl2 kc2] 36))) := (below_new' w _).alloc (by simp) _
 have hat := attrs_two _ lo lo2 hi hi2 aa aa2 p.attrs q.attrs ac ac2 (hA.bel HB0.out hhi) (hA2.bel HB0.out hhi2) (by simp; omega) (by simp; omega) hl hl2
 clear hA hA2
 obtain ⟨R, hR⟩ : ∃ R, R = sameK p q := ⟨_, rfl⟩
 rw [<- hR]
 have HR : Hid (R = sameK p q) := hR
 clear hR
 obtain ⟨E, hE⟩ : ∃ E, E = decide (p.attrs = q.attrs) := ⟨_, rfl⟩
 have HE : Hid (E = decide (p.attrs = q.attrs)) := hE
 rw [<- hE] at hat
 clear hE
 by_cases hkk : p.kind = q.kind
 ·have n1 : (p.kind != q.kind) = false := by simp [hkk]
  by_cases e2 : p.kind = 2
  ·have hkb : (p.kind == 2) = true := by simp [e2]
   obtain ⟨tb, htb⟩ : ∃ tb, tb = decide (p.text = q.text) := ⟨_, rfl⟩
   have n2 : (p.text.toList == q.text.toList) = tb := by rw [bl_eq, htb]
   have HF : Hid (R = tb) := by
    show _ = _
    rw [HR.out, htb]
    unfold sameK
    rw [if_pos e2, decide_eq_true hkk]
    simp
   clear htb e2 hkk
   go_enter Try.func22, Try.ntmps22
   go_wp2
   go_ret
   exact ⟨congrArg (fun z => Ending.returned (.bool z)) HF.out.symm, HB0.out⟩
  ·have hkb : (p.kind == 2) = false := by simp [e2]
   by_cases hnm : p.name = q.name
   ·have n2 : (p.name.toList == q.name.toList) = true := by rw [hnm]; simp
    have HF : Hid (R = E) := by
     show _ = _
     rw [HR.out, HE.out]
     unfold sameK
     rw [if_neg e2, decide_eq_true hkk, decide_eq_true hnm]
     simp
    clear hnm e2 hkk
    go_enter Try.func22, Try.ntmps22
    go_wp2_with fail
    refine hat.mono ?_
    rintro e w1 ⟨rfl, hb1⟩
    have HB1 : Hid (Below w.heap.size w w1) := HB0.out.trans (hb1.mono (by simp; omega))
    clear hat hb1
    go_wp2
    go_ret
    exact ⟨congrArg (fun z => Ending.returned (.bool z)) HF.out.symm, HB1.out⟩
   ·have n2 : (p.name.toList == q.name.toList) = false := by rw [bl_eq]; simp [hnm]
    have HF : Hid (R = false) := by
     show _ = _
     rw [HR.out]
     unfold sameK
     rw [if_neg e2, decide_eq_false hnm]
     simp
    clear hnm e2 hkk
    go_enter Try.func22, Try.ntmps22
    go_wp2
    go_ret
    exact ⟨congrArg (fun z => Ending.returned (.bool z)) HF.out.symm, HB0.out⟩
 ·have n1 : (p.kind != q.kind) = true := by simp [hkk]
  have HF : Hid (R = false) := by
   show _ = _
   rw [HR.out]
   unfold sameK
   rw [decide_eq_false hkk]
   simp
  clear hkk
  go_enter Try.func22, Try.ntmps22
  go_wp2
  go_ret
  exact ⟨congrArg (fun z => Ending.returned (.bool z)) HF.out.symm, HB0.out⟩
end Go.Proofs.Ytmapmkogjhinmaa
