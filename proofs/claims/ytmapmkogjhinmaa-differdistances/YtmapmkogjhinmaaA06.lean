/- A node in plain, as the document makes it: child by child. -/
import Derived.Test.YtmapmkogjhinmaaA05
import Derived.WalkSpells
import Derived.WalkLawsBesides
import Derived.Deep.QuietTactic
import Derived.BigQuiet
import Derived.Maps.AppendAt
import Derived.Deep.AppendSrc
import Derived.Deep.RegionHeld3
import Derived.Deep.RegionLaw
import Derived.OwnWalk
import Derived.Laws.CopyRow
import Derived.Lib.AppendZerosOnto
import Derived.Lib.Overlaps
import Derived.Laws.Externs
namespace Go.Proofs.Ytmapmkogjhinmaa
open Go.RowKit
set_option linter.unusedVariables false
set_option linter.unusedSimpArgs false
def mkN {α : Type} (s : Sl) (l : List α) : Nd α := { kind := s.kind, name := s.name, attrs := s.attrs, text := s.text, kids := l }
def slD (D : Dc) (h : Nat) : Sl := (sl D h).getD (zeroSl 0)
def kidT (D : Dc) : (m : Nat) -> Nat -> List (T m)
 | 0, _ => []
 | m + 1, h => (lst D h).map fun c => (mkN (slD D c) (kidT D m c) : Nd (T m))
def subT (D : Dc) (m : Nat) (h : Nat) : T (m + 1) := (mkN (slD D h) (kidT D m h) : Nd (T m))
structure SubSt (w wr : World) (R : Nat -> Prop) (m : Nat) (s : Sl) (L : List (T m)) (aa : Option Addr) (ac bx i : Nat) (la : Option Addr) (lcap : Nat) (xs : List Value) : Prop where
 res : IsCells wr w.heap.size #[.int .i64 0, .string ⟨#[]⟩, .slice none 0 0, .string ⟨#[]⟩, .slice none 0 0]
 box : IsCells wr bx #[.int .i64 s.kind, .string s.name, .slice aa s.attrs.length ac, .string s.text, .slice la i lcap]
 bxl : w.heap.size < bx
 own : wr.ownsRow (bx + 1) 36 5 (.slice la i lcap) i xs
 kids : CopiesAt wr (fun b => R b \/ (bx + 1 <= b /\ b < wr.heap.size /\ (Value.slice la i lcap).ownBlock ≠ some b)) m xs (L.take i)
 bel : Below w.heap.size w wr
theorem SubSt.step {w wr w2 w3 : World} {R : Nat -> Prop} {m : Nat} {s : Sl} {L : List (T m)} {aa : Option Addr} {ac bx i : Nat} {la : Option Addr} {lcap : Nat} {xs : List Value} (h : SubSt w wr R m s L aa ac bx i la lcap xs) (hR : ∀ b, R b -> b < w.heap.size) {k : T m} (hk : L[i]? = some k)
  {u : Array Value} (hu : TreeR w2 (fun b => R b \/ (wr.heap.size <= b /\ b < w2.heap.size)) m u k) (hb : Below wr.heap.size wr w2) {o o' : Obj} {la' : Option Addr} {lcap' : Nat} (hown : w3.ownsRow (bx + 1) 36 5 (.slice la' (i + 1) lcap') (i + 1) (xs ++ u.toList))
  (hg : ((w2.alloc o).alloc o').grownBy w3 (Value.slice la i lcap).ownBlock) (hat : (Value.slice la' (i + 1) lcap').ownBlock = (Value.slice la i lcap).ownBlock \/ (Value.slice la' (i + 1) lcap').ownBlock = some (w2.heap.size + 2)) :
  SubSt w (w3.setCell ⟨bx, 4, none⟩ (.slice la' (i + 1) lcap')) R m s L aa ac bx (i + 1) la' lcap' (xs ++ u.toList) := by
 have hs := hb.size
 have hs3 : w2.heap.size + 2 <= w3.heap.size := by have := hg.size; simpa using this
 have hbl := h.bel.size
 have hox := own_block_lt h.own
 have hbx := h.box.lt
 have hrx := h.res.lt
 have hbb := h.bxl
 have hss : (w3.setCell ⟨bx, 4, none⟩ (.slice la' (i + 1) lcap')).heap.size = w3.heap.size := by simp [World.setCell]
 have far : ∀ b, b < w2.heap.size -> (Value.slice la i lcap).ownBlock ≠ some b -> w3.heap[b]? = w2.heap[b]? := fun b hb1 hb2 =>
  (hg.block b (by simp; omega) (fun e => hb2 e.symm)).trans ((Below.heap_alloc _ _ _ (by simp; omega)).trans (Below.heap_alloc _ _ _ hb1))
 have far2 : ∀ b, b < wr.heap.size -> (Value.slice la i lcap).ownBlock ≠ some b -> w3.heap[b]? = wr.heap[b]? := fun b hb1 hb2 => (far b (by omega) hb2).trans (hb.block b hb1)
 have hnew : ∀ b, b < w2.heap.size -> (Value.slice la i lcap).ownBlock ≠ some b -> (Value.slice la' (i + 1) lcap').ownBlock ≠ some b := fun b h1 h2 e => by
  rcases hat with hat | hat
  ·rw [hat] at e; exact h2 e
  ·rw [hat] at e; simp only [Option.some.injEq] at e; omega
 have hnb : ∀ b, b <= bx -> (Value.slice la i lcap).ownBlock ≠ some b := fun b hb e => by have := hox _ e; omega
 have cell3 : ∀ b o, b ≠ bx -> (w3.setCell ⟨bx, 4, none⟩ (.slice la' (i + 1) lcap')).cell? ⟨b, o, none⟩ = w3.cell? ⟨b, o, none⟩ := fun b o hb => World.cell?_of_block (w := w3) (a := ⟨b, o, none⟩) (Below.heap_setCell _ _ _ _ hb)
 refine ⟨(h.res.of_block (far2 _ hrx (hnb _ (by omega)))).other (by show w.heap.size ≠ bx; omega) _, ?_, hbb, own_of_block hown (fun k hk => Below.heap_setCell _ _ _ _ (by have := (own_block_lt hown k hk).1; show k ≠ bx; omega)), ?_, ?_⟩
 ·have := (h.box.of_block (far2 _ hbx (hnb _ (by omega)))).set 4 (.slice la' (i + 1) lcap')
  simpa using this
 ·rw [take_more hk]
  have hne : ∀ b, wr.heap.size <= b -> (Value.slice la i lcap).ownBlock ≠ some b := fun b h1 e => by have := hox _ e; omega
  refine CopiesAt.snoc (h.kids.to (fun b hb' => ?_) (fun b o hb' => ?_)) (hu.to (fun b hb' => ?_) (fun b o hb' => ?_))
  ·rcases hb' with hb' | hb'
   ·exact .inl hb'
   ·exact .inr ⟨hb'.1, by rw [hss]; omega, hnew b (by omega) hb'.2.2⟩
  ·rcases hb' with hb' | hb'
   ·have := hR b hb'
    rw [cell3 b o (by omega)]
    exact World.cell?_of_block (w := wr) (a := ⟨b, o, none⟩) (far2 b (by omega) (hnb b (by omega)))
   ·rw [cell3 b o (by omega)]
    exact World.cell?_of_block (w := wr) (a := ⟨b, o, none⟩) (far2 b hb'.2.1 hb'.2.2)
  ·rcases hb' with hb' | hb'
   ·exact .inl hb'
   ·exact .inr ⟨by omega, by rw [hss]; omega, hnew b hb'.2 (hne b hb'.1)⟩
  ·rcases hb' with hb' | hb'
   ·have := hR b hb'
    rw [cell3 b o (by omega)]
    exact World.cell?_of_block (w := w2) (a := ⟨b, o, none⟩) (far b (by omega) (hnb b (by omega)))
   ·rw [cell3 b o (by omega)]
    exact World.cell?_of_block (w := w2) (a := ⟨b, o, none⟩) (far b hb'.2 (hne b hb'.1))
 ·exact ((h.bel.trans (hb.mono hbl)).trans ⟨hg.os, hg.tape, hg.output, by omega, fun k hk => far k (by omega) (hnb k (by omega))⟩).setCell (p := ⟨bx, 4, none⟩) (by show w.heap.size <= bx; omega) _
end Go.Proofs.Ytmapmkogjhinmaa
/- Subtree, by the document. -/
namespace Go.Proofs.Ytmapmkogjhinmaa
open Go.RowKit
set_option linter.unusedVariables false
set_option linter.unusedSimpArgs false
theorem WF.alen {D : Dc} (hw : WF D) {h : Nat} {s : Sl} (e : sl D h = some s) : s.attrs.length <= 32 := by
 obtain ⟨i, _, h2, h3, _⟩ := sl_live e
 rcases hw.kind e with hk | hk
 ·have ho := hw.own i s h2 h3
  unfold ownE ndOf at ho
  simp only [hk, if_true] at ho
  split at ho
  ·unfold attrsE at ho
   split at ho
   ·omega
   ·omega
  ·omega
 ·rw [((hw.used i s h2 h3).1 hk).2.2]
  simp
theorem grown_box {w3 w4 : World} {o o' : Obj} {bx : Nat} {row : Option Nat} (hg : ((w3.alloc o).alloc o').grownBy w4 row) (hbx : bx < w3.heap.size) (hne : some bx ≠ row) : w4.heap[bx]? = w3.heap[bx]? :=
 (hg.block bx (by simp; omega) hne).trans ((Below.heap_alloc _ _ _ (by simp; omega)).trans (Below.heap_alloc _ _ _ hbx))
theorem kidT_succ (D : Dc) (m h : Nat) : kidT D (m + 1) h = (lst D h).map (subT D m) := rfl
theorem slD_of {D : Dc} {h : Nat} {s : Sl} (e : sl D h = some s) : slD D h = s := by simp [slD, e]
end Go.Proofs.Ytmapmkogjhinmaa
/- Forest, by the document. -/
namespace Go.Proofs.Ytmapmkogjhinmaa
open Go.RowKit
set_option linter.unusedVariables false
set_option linter.unusedSimpArgs false
def ForR (w : World) (R : Nat -> Prop) (n : Nat) (a : Option Addr) (L : List (T n)) : Prop :=
 ∀ i k, L[i]? = some k -> ∃ (b o : Nat) (u : Array Value), a = some ⟨b, o, none⟩ /\ R b /\ u.size = 5 /\ (∀ j, j < 5 -> w.cell? ⟨b, o + i * 5 + j, none⟩ = u[j]?) /\ TreeR w R n u k
structure ForSt (w wr : World) (R : Nat -> Prop) (m : Nat) (L : List (T m)) (i : Nat) (la : Option Addr) (lcap : Nat) (xs : List Value) : Prop where
 own : wr.ownsRow w.heap.size 36 5 (.slice la i lcap) i xs
 kids : CopiesAt wr (fun b => R b \/ (w.heap.size <= b /\ b < wr.heap.size /\ (Value.slice la i lcap).ownBlock ≠ some b)) m xs (L.take i)
 bel : Below w.heap.size w wr
theorem ForSt.step {w wr w2 w3 : World} {R : Nat -> Prop} {m : Nat} {L : List (T m)} {i : Nat} {la : Option Addr} {lcap : Nat} {xs : List Value} (h : ForSt w wr R m L i la lcap xs) (hR : ∀ b, R b -> b < w.heap.size) {k : T m} (hk : L[i]? = some k)
  {u : Array Value} (hu : TreeR w2 (fun b => R b \/ (wr.heap.size <= b /\ b < w2.heap.size)) m u k) (hb : Below wr.heap.size wr w2) {o o' : Obj} {la' : Option Addr} {lcap' : Nat} (hown : w3.ownsRow w.heap.size 36 5 (.slice la' (i + 1) lcap') (i + 1) (xs ++ u.toList))
  (hg : ((w2.alloc o).alloc o').grownBy w3 (Value.slice la i lcap).ownBlock) (hat : (Value.slice la' (i + 1) lcap').ownBlock = (Value.slice la i lcap).ownBlock \/ (Value.slice la' (i + 1) lcap').ownBlock = some (w2.heap.size + 2)) :
  ForSt w w3 R m L (i + 1) la' lcap' (xs ++ u.toList) := by
 have hs := hb.size
 have hs3 : w2.heap.size + 2 <= w3.heap.size := by have := hg.size; simpa using this
 have hbl := h.bel.size
 have hox := own_block_lt h.own
 have far : ∀ b, b < w2.heap.size -> (Value.slice la i lcap).ownBlock ≠ some b -> w3.heap[b]? = w2.heap[b]? := fun b hb1 hb2 => grown_box hg hb1 (fun e => hb2 e.symm)
 have far2 : ∀ b, b < wr.heap.size -> (Value.slice la i lcap).ownBlock ≠ some b -> w3.heap[b]? = wr.heap[b]? := fun b hb1 hb2 => (far b (by omega) hb2).trans (hb.block b hb1)
 have hnew : ∀ b, b < w2.heap.size -> (Value.slice la i lcap).ownBlock ≠ some b -> (Value.slice la' (i + 1) lcap').ownBlock ≠ some b := fun b h1 h2 e => by
  rcases hat with hat | hat
  ·rw [hat] at e; exact h2 e
  ·rw [hat] at e; simp only [Option.some.injEq] at e; omega
 have hnb : ∀ b, b < w.heap.size -> (Value.slice la i lcap).ownBlock ≠ some b := fun b hb e => by have := hox _ e; omega
 refine ⟨hown, ?_, ?_⟩
 ·rw [take_more hk]
  have hne : ∀ b, wr.heap.size <= b -> (Value.slice la i lcap).ownBlock ≠ some b := fun b h1 e => by have := hox _ e; omega
  refine CopiesAt.snoc (h.kids.to (fun b hb' => ?_) (fun b o hb' => ?_)) (hu.to (fun b hb' => ?_) (fun b o hb' => ?_))
  ·rcases hb' with hb' | hb'
   ·exact .inl hb'
   ·exact .inr ⟨hb'.1, by omega, hnew b (by omega) hb'.2.2⟩
  ·rcases hb' with hb' | hb'
   ·have := hR b hb'
    exact World.cell?_of_block (w := wr) (a := ⟨b, o, none⟩) (far2 b (by omega) (hnb b (by omega)))
   ·exact World.cell?_of_block (w := wr) (a := ⟨b, o, none⟩) (far2 b hb'.2.1 hb'.2.2)
  ·rcases hb' with hb' | hb'
   ·exact .inl hb'
   ·exact .inr ⟨by omega, by omega, hnew b hb'.2 (hne b hb'.1)⟩
  ·rcases hb' with hb' | hb'
   ·have := hR b hb'
    exact World.cell?_of_block (w := w2) (a := ⟨b, o, none⟩) (far b (by omega) (hnb b (by omega)))
   ·exact World.cell?_of_block (w := w2) (a := ⟨b, o, none⟩) (far b hb'.2 (hne b hb'.1))
 ·exact (h.bel.trans (hb.mono hbl)).trans ⟨hg.os, hg.tape, hg.output, by omega, fun k hk => far k (by omega) (hnb k (by omega))⟩
end Go.Proofs.Ytmapmkogjhinmaa
/- Lists set and read again; a node in plain counted; where a place lies. -/
namespace Go.Proofs.Ytmapmkogjhinmaa
open Go.RowKit
set_option linter.unusedVariables false
set_option linter.unusedSimpArgs false
theorem setL_zero (D : Dc) (l' : List Nat) : setL D 0 l' = { D with roots := l' } := by simp [setL]
theorem setL_some {D : Dc} {p i : Nat} {s : Sl} {l' : List Nat} (h0 : p ≠ 0) (ha : atI D.S p = some i) (hs : D.S[i]? = some s) : setL D p l' = { D with S := D.S.set i { s with kids := l' } } := by
 simp only [setL, if_neg h0, ha, hs]
theorem sl_setL_ne {D : Dc} {p q : Nat} {l' : List Nat} (hne : q ≠ p) : sl (setL D p l') q = sl D q := by
 by_cases h0 : p = 0
 ·subst h0; rw [setL_zero]; rfl
 ·cases ha : atI D.S p with
  | none => simp only [setL, if_neg h0, ha]
  | some i =>
   obtain ⟨s, hs, hl, _, _, _, hp⟩ := atI_some ha
   rw [setL_some h0 ha hs]
   have h1 := atI_set_same (h := q) (j := 0) (s' := { s with kids := l' }) hs rfl rfl
   simp only [sl, h1]
   cases hq : atI D.S q with
   | none => rfl
   | some j =>
    obtain ⟨t, ht, _, _, _, _, hqq⟩ := atI_some hq
    simp only [Option.bind_some]
    have hij : i ≠ j := by
     rintro rfl
     rw [hs] at ht
     cases ht
     exact hne (hqq.trans hp.symm)
    rw [List.getElem?_set_ne hij]
theorem sl_setL_eq {D : Dc} {p : Nat} {s : Sl} {l' : List Nat} (hs : sl D p = some s) : sl (setL D p l') p = some { s with kids := l' } := by
 have h0 : p ≠ 0 := by rintro rfl; rw [sl_zero] at hs; cases hs
 obtain ⟨i, ha, hsi, _, _⟩ := sl_live hs
 rw [setL_some h0 ha hsi]
 have h1 := atI_set_same (h := p) (j := 0) (s' := { s with kids := l' }) hsi rfl rfl
 simp only [sl, h1, ha, Option.bind_some]
 exact List.getElem?_set_self (List.getElem?_eq_some_iff.1 hsi).1
theorem lst_setL_eq {D : Dc} {p : Nat} {l' : List Nat} (hp : p = 0 \/ ∃ s, sl D p = some s) : lst (setL D p l') p = l' := by
 rcases hp with rfl | ⟨s, hs⟩
 ·rw [setL_zero]; rfl
 ·have h0 : p ≠ 0 := by rintro rfl; rw [sl_zero] at hs; cases hs
  simp only [lst, if_neg h0, sl_setL_eq hs]
theorem roots_setL {D : Dc} {p : Nat} {l' : List Nat} (h0 : p ≠ 0) : (setL D p l').roots = D.roots := by
 unfold setL
 rw [if_neg h0]
 split
 ·rfl
 ·split <;> rfl
theorem lst_setL_ne {D : Dc} {p q : Nat} {l' : List Nat} (hne : q ≠ p) : lst (setL D p l') q = lst D q := by
 unfold lst
 by_cases h0 : q = 0
 ·rw [if_pos h0, if_pos h0, roots_setL (by omega)]
 ·rw [if_neg h0, if_neg h0, sl_setL_ne hne]
def outD (D : Dc) (n : Nat) (s : Sl) : Dc := setL D s.parent ((lst D s.parent).take (idxH (lst D s.parent) n).toNat ++ (lst D s.parent).drop ((idxH (lst D s.parent) n).toNat + 1))
def putD (D : Dc) (n p : Nat) (wh : Int) (a : Nat) : Dc := setPar (setL D p (ins (lst D p) (whereN (lst D p) wh a) n)) n p
def placeE (D : Dc) (wh : Int) (a : Nat) : Nat × Int := if a = 0 then (0, 0) else match sl D a with
 | none => (0, 8)
 | some s => if wh <= 2 then (if s.kind = 2 then (0, 31) else (a, 0)) else (s.parent, 0)
theorem mem_cut {l : List Nat} {k n a : Nat} (hk : l[k]? = some n) (ha : a ∈ l) (hne : a ≠ n) : a ∈ l.take k ++ l.drop (k + 1) := by
 obtain ⟨j, hj⟩ := List.getElem?_of_mem ha
 rw [List.mem_append]
 rcases Nat.lt_trichotomy j k with h | h | h
 ·exact .inl (List.mem_of_getElem? (i := j) (by rw [List.getElem?_take_of_lt h]; exact hj))
 ·subst h; rw [hj] at hk; cases hk; exact absurd rfl hne
 ·exact .inr (List.mem_of_getElem? (i := j - (k + 1)) (by rw [List.getElem?_drop, show k + 1 + (j - (k + 1)) = j from by omega]; exact hj))
end Go.Proofs.Ytmapmkogjhinmaa
/- The program's documents: a list put in the place of another one. -/
namespace Go.Proofs.Ytmapmkogjhinmaa
open Go.RowKit
set_option linter.unusedVariables false
set_option linter.unusedSimpArgs false
def roN (ro : Nat -> Nat) (k : Nat) (v : Value) (b : Nat) : Nat := if v.ownBlock = some b then k else if ro b = k then 0 else ro b
theorem roN_other {ro : Nat -> Nat} {k N : Nat} {v vo : Value} (hlt : ∀ b, ro b ≠ 0 -> b < N) (ho : ∀ b, vo.ownBlock = some b -> ro b = k) (hb : ∀ b, v.ownBlock = some b -> vo.ownBlock = some b \/ N <= b) {b : Nat} (h1 : ro b ≠ 0) (h2 : ro b ≠ k) : roN ro k v b = ro b := by
 unfold roN
 rw [if_neg, if_neg h2]
 intro e
 rcases hb b e with h | h
 ·exact h2 (ho b h)
 ·have := hlt b h1; omega
theorem roN_same {ro : Nat -> Nat} {k : Nat} {v : Value} {b : Nat} (h : v.ownBlock = some b) : roN ro k v b = k := by
 unfold roN
 rw [if_pos h]
theorem roN_from {ro : Nat -> Nat} {k N : Nat} {v vo : Value} (hk : k ≠ 0) (ho : ∀ b, vo.ownBlock = some b -> ro b = k) (hb : ∀ b, v.ownBlock = some b -> vo.ownBlock = some b \/ N <= b) {b : Nat} (h : roN ro k v b ≠ 0) : ro b ≠ 0 \/ N <= b := by
 unfold roN at h
 split at h
 ·rename_i e
  rcases hb b e with h' | h'
  ·left
   rw [ho b h']
   exact hk
  ·exact .inr h'
 ·split at h
  ·exact absurd rfl h
  ·exact .inl h
section
variable {w w' : World} {ro : Nat -> Nat} {db : Nat} {D : Dc} {sa : Option Addr} {scap : Nat} {ra : Option Addr} {rcap : Nat} {L : List (Value × Value)}
theorem PdS.newRoots (h : PdS w ro db D sa scap ra rcap L) {l' : List Nat} {a' : Option Addr} {c' : Nat} (hg : w.grownBy w' (Value.slice ra D.roots.length rcap).ownBlock) (hown : w'.ownsRow 0 67 1 (.slice a' l'.length c') l'.length (hvals l'))
  (hb : ∀ b, (Value.slice a' l'.length c').ownBlock = some b -> (Value.slice ra D.roots.length rcap).ownBlock = some b \/ w.heap.size <= b) :
  PdS (w'.setCell ⟨db, 1, none⟩ (.slice a' l'.length c')) (roN ro 3 (.slice a' l'.length c')) db { D with roots := l' } sa scap a' c' L := by
 have ro1 : ∀ {b}, ro b ≠ 0 -> ro b ≠ 3 -> roN ro 3 (.slice a' l'.length c') b = ro b := fun h1 h2 => roN_other h.lt h.rr hb h1 h2
 have blk : ∀ b, ro b ≠ 0 -> ro b ≠ 3 -> w'.heap[b]? = w.heap[b]? := fun b h1 h2 => hg.block b (h.lt b h1) (fun e => h2 (h.rr b e.symm))
 have blk2 : ∀ b, ro b ≠ 0 -> ro b ≠ 3 -> ro b ≠ 1 -> (w'.setCell ⟨db, 1, none⟩ (.slice a' l'.length c')).heap[b]? = w.heap[b]? := fun b h1 h2 h3 =>
  (Below.heap_setCell _ _ _ _ (by show b ≠ db; rintro rfl; exact h3 h.rdb)).trans (blk b h1 h2)
 have hnd : ∀ b, (Value.slice a' l'.length c').ownBlock = some b -> b ≠ db := fun b hb' e => by
  subst e
  rcases hb b hb' with h' | h'
  ·have := h.rr b h'; rw [h.rdb] at this; omega
  ·have := h.lt b (by rw [h.rdb]; omega); omega
 refine ⟨?_, own_of_block h.slots (fun k hk => blk2 k (by rw [h.rs k hk]; omega) (by rw [h.rs k hk]; omega) (by rw [h.rs k hk]; omega)), own_of_block hown (fun k hk => Below.heap_setCell _ _ _ _ (hnd k hk)), h.len, fun i s p hs hp => ?_, ?_, fun b hb' => ?_, fun b hb' => roN_same hb', fun i p b hp hb' => ?_, fun i p b hp hb' => ?_, fun b hb' => ?_⟩
 ·have := (h.head.of_block (blk db (by rw [h.rdb]; omega) (by rw [h.rdb]; omega))).set 1 (.slice a' l'.length c')
  simpa using this
 ·obtain ⟨v1, v2⟩ := h.vals i s p hs hp
  exact ⟨own_of_block v1 (fun b hb' => blk2 b (by rw [h.rat i p b hp hb']; omega) (by rw [h.rat i p b hp hb']; omega) (by rw [h.rat i p b hp hb']; omega)),
   own_of_block v2 (fun b hb' => blk2 b (by rw [h.rk i p b hp hb']; omega) (by rw [h.rk i p b hp hb']; omega) (by rw [h.rk i p b hp hb']; omega))⟩
 ·rw [ro1 (by rw [h.rdb]; omega) (by rw [h.rdb]; omega), h.rdb]
 ·rw [ro1 (by rw [h.rs b hb']; omega) (by rw [h.rs b hb']; omega), h.rs b hb']
 ·rw [ro1 (by rw [h.rat i p b hp hb']; omega) (by rw [h.rat i p b hp hb']; omega), h.rat i p b hp hb']
 ·rw [ro1 (by rw [h.rk i p b hp hb']; omega) (by rw [h.rk i p b hp hb']; omega), h.rk i p b hp hb']
 ·have hz : (w'.setCell ⟨db, 1, none⟩ (.slice a' l'.length c')).heap.size = w'.heap.size := by simp [World.setCell]
  rw [hz]
  unfold roN at hb'
  split at hb'
  ·rename_i e
   exact (own_block_lt hown b e).2
  ·split at hb'
   ·exact absurd rfl hb'
   ·exact Nat.lt_of_lt_of_le (h.lt b hb') hg.size
end
section
variable {w w' : World} {ro : Nat -> Nat} {db : Nat} {D : Dc} {g : Nat} {scap : Nat} {ra : Option Addr} {rcap : Nat} {L : List (Value × Value)}
theorem PdS.newRow (h : PdS w ro db D (some ⟨g, 0, none⟩) scap ra rcap L) {i j k : Nat} {s s' : Sl} {p p' : Value × Value} {v' vo : Value} (hs : D.S[i]? = some s) (hp : L[i]? = some p) (hj : j < 8) (hc : slotCells s' p' = (slotCells s p).set j v') (h3 : s'.live = s.live)
  (hk : k = 2 * i + 4 \/ k = 2 * i + 5) (hok : ∀ b, vo.ownBlock = some b -> ro b = k) (hg : w.grownBy w' vo.ownBlock) (hb : ∀ b, v'.ownBlock = some b -> vo.ownBlock = some b \/ w.heap.size <= b) (hlt : ∀ b, v'.ownBlock = some b -> b < w'.heap.size)
  (hv : w'.ownsRow 0 99 2 p'.1 s'.attrs.length (attrCells s'.attrs) /\ w'.ownsRow 0 67 1 p'.2 s'.kids.length (hvals s'.kids))
  (hq1 : ∀ b, p'.1.ownBlock = some b -> roN ro k v' b = 2 * i + 4) (hq2 : ∀ b, p'.2.ownBlock = some b -> roN ro k v' b = 2 * i + 5) :
  PdS (w'.setCell ⟨g, i * 8 + j, none⟩ v') (roN ro k v') db { D with S := D.S.set i s' } (some ⟨g, 0, none⟩) scap ra rcap (L.set i p') := by
 have hg2 : ro g = 2 := h.rs g rfl
 have hi := (List.getElem?_eq_some_iff.1 hs).1
 have hk0 : k ≠ 0 /\ k ≠ 1 /\ k ≠ 2 /\ k ≠ 3 := by omega
 have ro1 : ∀ {b}, ro b ≠ 0 -> ro b ≠ k -> roN ro k v' b = ro b := fun h1 h2 => roN_other h.lt hok hb h1 h2
 have blk : ∀ b, ro b ≠ 0 -> ro b ≠ k -> w'.heap[b]? = w.heap[b]? := fun b h1 h2 => hg.block b (h.lt b h1) (fun e => h2 (hok b e.symm))
 have st : ∀ b, b ≠ g -> (w'.setCell ⟨g, i * 8 + j, none⟩ v').heap[b]? = w'.heap[b]? := fun b hb' => Below.heap_setCell _ _ _ _ hb'
 have blk2 : ∀ b, ro b ≠ 0 -> ro b ≠ k -> ro b ≠ 2 -> (w'.setCell ⟨g, i * 8 + j, none⟩ v').heap[b]? = w.heap[b]? := fun b h1 h2 h3 => (st b (by rintro rfl; exact h3 hg2)).trans (blk b h1 h2)
 have hnr : ∀ b, roN ro k v' b ≠ 2 -> b ≠ g := fun b h1 e => by
  subst e
  rw [ro1 (by omega) (by omega)] at h1
  exact h1 hg2
 refine ⟨?_, ?_, own_of_block h.roots (fun b hb' => blk2 b (by rw [h.rr b hb']; omega) (by rw [h.rr b hb']; omega) (by rw [h.rr b hb']; omega)), by simp [h.len], fun m x y hx hy => ?_, ?_, fun b hb' => ?_, fun b hb' => ?_, fun m y b hy hb' => ?_, fun m y b hy hb' => ?_, fun b hb' => ?_⟩
 ·have := h.head.of_block (blk2 db (by rw [h.rdb]; omega) (by rw [h.rdb]; omega) (by rw [h.rdb]; omega))
  rw [show cnt Sl.live ({ D with S := D.S.set i s' } : Dc).S = cnt Sl.live D.S from cnt_set hs h3]
  simpa using this
 ·have h1 : w'.ownsRow 0 77 8 (.slice (some ⟨g, 0, none⟩) D.S.length scap) D.S.length (rowOf D.S L) := own_of_block h.slots (fun b hb' => blk b (by rw [h.rs b hb']; omega) (by rw [h.rs b hb']; omega))
  have := own_set h1 (i * 8 + j) v'
  rw [<- rowOf_set h.len hs hp hj hc] at this
  simpa using this
 ·by_cases hm : m = i
  ·subst hm
   rw [List.getElem?_set_self hi] at hx
   rw [List.getElem?_set_self (by rw [h.len]; exact hi)] at hy
   cases hx
   cases hy
   exact ⟨own_of_block hv.1 (fun b hb' => st b (hnr b (by rw [hq1 b hb']; omega))), own_of_block hv.2 (fun b hb' => st b (hnr b (by rw [hq2 b hb']; omega)))⟩
  ·rw [List.getElem?_set_ne (by omega)] at hx hy
   obtain ⟨v1, v2⟩ := h.vals m x y hx hy
   exact ⟨own_of_block v1 (fun b hb' => blk2 b (by rw [h.rat m y b hy hb']; omega) (by rw [h.rat m y b hy hb']; omega) (by rw [h.rat m y b hy hb']; omega)),
    own_of_block v2 (fun b hb' => blk2 b (by rw [h.rk m y b hy hb']; omega) (by rw [h.rk m y b hy hb']; omega) (by rw [h.rk m y b hy hb']; omega))⟩
 ·rw [ro1 (by rw [h.rdb]; omega) (by rw [h.rdb]; omega), h.rdb]
 ·have hb2 : (Value.slice (some ⟨g, 0, none⟩) D.S.length scap).ownBlock = some b := hb'
  rw [ro1 (by rw [h.rs b hb2]; omega) (by rw [h.rs b hb2]; omega), h.rs b hb2]
 ·rw [ro1 (by rw [h.rr b hb']; omega) (by rw [h.rr b hb']; omega), h.rr b hb']
 ·by_cases hm : m = i
  ·subst hm
   rw [List.getElem?_set_self (by rw [h.len]; exact hi)] at hy
   cases hy
   exact hq1 b hb'
  ·rw [List.getElem?_set_ne (by omega)] at hy
   rw [ro1 (by rw [h.rat m y b hy hb']; omega) (by rw [h.rat m y b hy hb']; omega), h.rat m y b hy hb']
 ·by_cases hm : m = i
  ·subst hm
   rw [List.getElem?_set_self (by rw [h.len]; exact hi)] at hy
   cases hy
   exact hq2 b hb'
  ·rw [List.getElem?_set_ne (by omega)] at hy
   rw [ro1 (by rw [h.rk m y b hy hb']; omega) (by rw [h.rk m y b hy hb']; omega), h.rk m y b hy hb']
 ·have hz : (w'.setCell ⟨g, i * 8 + j, none⟩ v').heap.size = w'.heap.size := by simp [World.setCell]
  rw [hz]
  unfold roN at hb'
  split at hb'
  ·rename_i e
   exact hlt b e
  ·split at hb'
   ·exact absurd rfl hb'
   ·exact Nat.lt_of_lt_of_le (h.lt b hb') hg.size
theorem PdS.newKids (h : PdS w ro db D (some ⟨g, 0, none⟩) scap ra rcap L) {i : Nat} {s : Sl} {p : Value × Value} (hs : D.S[i]? = some s) (hp : L[i]? = some p) {l' : List Nat} {a' : Option Addr} {c' : Nat} (hg : w.grownBy w' p.2.ownBlock) (hown : w'.ownsRow 0 67 1 (.slice a' l'.length c') l'.length (hvals l'))
  (hb : ∀ b, (Value.slice a' l'.length c').ownBlock = some b -> p.2.ownBlock = some b \/ w.heap.size <= b) :
  PdS (w'.setCell ⟨g, i * 8 + 7, none⟩ (.slice a' l'.length c')) (roN ro (2 * i + 5) (.slice a' l'.length c')) db { D with S := D.S.set i { s with kids := l' } } (some ⟨g, 0, none⟩) scap ra rcap (L.set i (p.1, .slice a' l'.length c')) := by
 obtain ⟨v1, v2⟩ := h.vals i s p hs hp
 have hok : ∀ b, p.2.ownBlock = some b -> ro b = 2 * i + 5 := fun b hb' => h.rk i p b hp hb'
 exact h.newRow (j := 7) (k := 2 * i + 5) (vo := p.2) (s' := { s with kids := l' }) (p' := (p.1, .slice a' l'.length c')) hs hp (by omega) rfl rfl (.inr rfl) hok hg hb (fun b hb' => (own_block_lt hown b hb').2)
  ⟨own_of_block v1 (fun b hb' => hg.block b (own_block_lt v1 b hb').2 (fun e => by have e1 := hok b e.symm; have e2 := h.rat i p b hp hb'; omega)), hown⟩
  (fun b hb' => by rw [roN_other h.lt hok hb (by rw [h.rat i p b hp hb']; omega) (by rw [h.rat i p b hp hb']; omega), h.rat i p b hp hb']) (fun b hb' => roN_same hb')
end
end Go.Proofs.Ytmapmkogjhinmaa
/- copy, and append of zeros, at a row that is known whole, at elements of any size. -/
namespace Go.Proofs.Ytmapmkogjhinmaa
open Go.RowKit
set_option linter.unusedVariables false
set_option linter.unusedSimpArgs false
theorem addrP (b o j : Nat) : (⟨b, o, none⟩ : Addr).add j = ⟨b, o + j, none⟩ := by unfold Addr.add; split <;> simp_all
theorem cell_of {w : World} {g : Nat} {cur : List Value} {t : TypeId} (h : w.heap[g]? = some (.cells cur.toArray t (0, 0))) (j : Nat) : w.cell? ⟨g, j, none⟩ = cur[j]? := by simp [World.cell?, h]
def over (cur : List Value) (o : Nat) (cs : List Value) : List Value := cur.take o ++ cs ++ cur.drop (o + cs.length)
theorem over_length {cur cs : List Value} {o : Nat} (h : o + cs.length <= cur.length) : (over cur o cs).length = cur.length := by
 simp [over]
 omega
theorem grown_setRow {w : World} {g : Nat} (cs : Array Value) : w.grownBy (w.setRow g cs) (some g) /\ (w.setRow g cs).heap.size = w.heap.size := by
 refine ⟨⟨rfl, rfl, rfl, by simp [World.setRow], fun k hk hne => ?_⟩, by simp [World.setRow]⟩
 simp only [World.setRow, Array.getElem?_modify]
 rw [if_neg (fun e => hne (by rw [e]))]
theorem run_copyK {P : Program} (w : World) (dT sT ty elem : TypeId) (size g o dLen dCap : Nat) (a : Option Addr) (sLen sCap : Nat) (cur : List Value) (t : TypeId) (cs : List Value)
  (hu : P.underlying dT = some (.slice elem)) (hs : (P.info? elem).map (·.size) = some size) (hg : w.heap[g]? = some (.cells cur.toArray t (0, 0))) (hn : cs.length = Nat.min sLen dLen * size)
  (hsrc : ∀ j v, cs[j]? = some v -> ∃ ad, a = some ad /\ w.cell? (ad.add j) = some v) (hfit : o + cs.length <= cur.length) (h1 : ∀ v ∈ cs, v.oneCell' = true) :
  ∃ w', (Builtin.copy_ #[dT, sT] ty #[.slice (some ⟨g, o, none⟩) dLen dCap, .slice a sLen sCap]).run P w = .ok (goInt (Nat.min sLen dLen)) w' /\ w'.heap[g]? = some (.cells (over cur o cs).toArray t (0, 0)) /\ w.grownBy w' (some g) /\ w'.heap.size = w.heap.size := by
 have hst := run_storeCells_at P g o t cs 0 cur.toArray w hg (by simpa using hfit) h1
 simp only [Nat.add_zero] at hst
 refine ⟨w.setRow g (over cur o cs).toArray, ?_, setRow_heap w g _ _ t _ hg, grown_setRow _⟩
 cases hq : P.info? elem with
 | none => simp [hq] at hs
 | some i =>
  have hi : i.size = size := by simpa [hq] using hs
  cases a with
  | some ad =>
   have hl := run_loadCells_list (P := P) w ad cs (fun j v hj => by
    obtain ⟨ad', e, h⟩ := hsrc j v hj
    cases e
    exact h)
   simp [Builtin.copy_, run_underlying hu, Builtin.lenOf, Builtin.firstCells, sizeOf, typeInfo, hq, hi, <- hn, hl, hst, over]
  | none =>
   have hn0 : cs = [] := by
    cases cs with
    | nil => rfl
    | cons v r =>
     obtain ⟨ad', e, _⟩ := hsrc 0 v rfl
     cases e
   subst hn0
   simp [Builtin.copy_, run_underlying hu, Builtin.lenOf, Builtin.firstCells, sizeOf, typeInfo, hq, storeCells, over]
   have := setRow_self w g cur.toArray t (0, 0) hg
   exact this.symm
theorem wpList_copyK {P : Program} (w : World) {ops : Array Oper} {rest : List Oper} {op : Oper} {ac : Act} {Q : Exit -> Act -> World -> Prop} (hgd : op.guard = none) (d s : Operand) (dT sT elem : TypeId)
  (ho : op.op = .call { callee := .builtin .copy, args := #[d, s], argTypes := #[dT, sT] }) (size g o dLen dCap : Nat) (a : Option Addr) (sLen sCap : Nat) (cur : List Value) (t : TypeId) (cs : List Value)
  (hd : ac.eval d = .slice (some ⟨g, o, none⟩) dLen dCap) (hx : ac.eval s = .slice a sLen sCap)
  (hu : P.underlying dT = some (.slice elem)) (hs : (P.info? elem).map (·.size) = some size) (hg : w.heap[g]? = some (.cells cur.toArray t (0, 0))) (hn : cs.length = Nat.min sLen dLen * size)
  (hsrc : ∀ j v, cs[j]? = some v -> ∃ ad, a = some ad /\ w.cell? (ad.add j) = some v) (hfit : o + cs.length <= cur.length) (h1 : ∀ v ∈ cs, v.oneCell' = true)
  (hK : ∀ w', w'.heap[g]? = some (.cells (over cur o cs).toArray t (0, 0)) -> w.grownBy w' (some g) -> w'.heap.size = w.heap.size -> wpList P ops Q rest (ac.put op.dst (goInt (Nat.min sLen dLen))) w') : wpList P ops Q (op :: rest) ac w := by
 refine wpList_plain hgd fun K hK' => ?_
 obtain ⟨w', hr, h2, h3, h4⟩ := run_copyK (P := P) w dT sT op.type elem size g o dLen dCap a sLen sCap cur t cs hu hs hg hn hsrc hfit h1
 unfold Oper.wp execOp
 simp only [ho, resolve, invoke, builtin, Sem.run_bind, Sem.run_pure, Result.andThen_ok, List.map_toArray, List.map_cons, List.map_nil, hd, hx, hr]
 exact hK' _ _ (hK w' h2 h3 h4)
theorem step_copyK {P : Program} {w : World} {ops : Array Oper} {op : Oper} {ac : Act} {K : Act -> World -> Prop} {Q : Exit -> Act -> World -> Prop} {E : Prop} (hgd : op.guard = none) (d s : Operand) (dT sT elem : TypeId)
  (ho : op.op = .call { callee := .builtin .copy, args := #[d, s], argTypes := #[dT, sT] }) (size g o dLen dCap : Nat) (a : Option Addr) (sLen sCap : Nat) (cur : List Value) (t : TypeId) (cs : List Value)
  (hd : ac.eval d = .slice (some ⟨g, o, none⟩) dLen dCap) (hx : ac.eval s = .slice a sLen sCap)
  (hu : P.underlying dT = some (.slice elem)) (hs : (P.info? elem).map (·.size) = some size) (hg : w.heap[g]? = some (.cells cur.toArray t (0, 0))) (hn : cs.length = Nat.min sLen dLen * size)
  (hsrc : ∀ j v, cs[j]? = some v -> ∃ ad, a = some ad /\ w.cell? (ad.add j) = some v) (hfit : o + cs.length <= cur.length) (h1 : ∀ v ∈ cs, v.oneCell' = true)
  (hK : ∀ w', w'.heap[g]? = some (.cells (over cur o cs).toArray t (0, 0)) -> w.grownBy w' (some g) -> w'.heap.size = w.heap.size -> K (ac.put op.dst (goInt (Nat.min sLen dLen))) w') :
  if Region.wanted op (yielded ops ac.tmps) = true then Oper.wp P op ac w K Q else E := by
 have hw : Region.wanted op (yielded ops ac.tmps) = true := by simp [Region.wanted, hgd]
 rw [if_pos hw]
 obtain ⟨w', hr, h2, h3, h4⟩ := run_copyK (P := P) w dT sT op.type elem size g o dLen dCap a sLen sCap cur t cs hu hs hg hn hsrc hfit h1
 unfold Oper.wp execOp
 simp only [ho, resolve, invoke, builtin, Sem.run_bind, Sem.run_pure, Result.andThen_ok, List.map_toArray, List.map_cons, List.map_nil, hd, hx, hr]
 exact hK w' h2 h3 h4
theorem wpList_zeros {P : Program} (w : World) {ops : Array Oper} {rest : List Oper} {op : Oper} {ac : Act} {Q : Exit -> Act -> World -> Prop} (hgd : op.guard = none) (s x : Operand) (t tn e : TypeId) (kn kq : IntKind)
  (ho : op.op = .call { callee := .builtin .append, args := #[s, x], argTypes := #[t, tn] }) (ht : P.underlying t = some (.slice e)) (htn : P.underlying tn = some (.int kn)) {z : Value} {size bytes : Nat} (hi : InfoOf P e z size bytes) (hzs : z.cells.size = size) (hsz : 0 < size)
  (ad : Addr) (i c : Nat) (K : Int) (k : Nat) (hk : K = (k : Int)) (olds : List Value) (hl : olds.length = i * size) (hs : ac.eval s = .slice (some ad) i c) (hx : ac.eval x = .int kq K) (hold : ∀ j v, olds[j]? = some v -> w.cell? (ad.add j) = some v)
  (h0 : 0 < k) (hg : c < i + k) (hb : (i + k) * bytes <= 140737488355328) (hm : i + k <= 1099511627776)
  (hK : ∀ w' G (cur : List Value), w'.heap[w.heap.size]? = some (.cells cur.toArray e (0, 0)) -> cur.length = G * size -> cur.take (i * size) = olds -> i + k <= G -> G <= maxLen -> w.grownBy w' none -> w'.heap.size = w.heap.size + 1 ->
   wpList P ops Q rest (ac.put op.dst (.slice (some ⟨w.heap.size, 0, none⟩) (i + k) G)) w') : wpList P ops Q (op :: rest) ac w := by
 refine wpList_plain hgd fun K' hK' => ?_
 subst hk
 obtain ⟨i0, hi0, hz0, hz1, hz2⟩ := hi.parts
 have hfc : (Builtin.firstCells i0.size i (.slice (some ad) i c)).run P w.drew = .ok olds.toArray w.drew := by
  rw [hz1]
  exact run_firstCells_some w.drew size i ad i c olds hl (fun j v hj => hold j v hj)
 have hr := Lib.run_append_grow_zeros (P := P) w t tn op.type e i0 z kq kn ht htn hi0 hz0 (some ad) i c olds hfc k h0 (by rw [hz1]; exact hsz) hg (by omega) (by
  rw [hz2]
  have : k * bytes <= (i + k) * bytes := Nat.mul_le_mul_right _ (by omega)
  omega) (by rw [hz2]; exact growslice_fits hg hb)
 unfold Oper.wp execOp
 simp only [ho, resolve, invoke, builtin, Sem.run_bind, Sem.run_pure, Result.andThen_ok, List.map_toArray, List.map_cons, List.map_nil, hs, hx, hr]
 have hge := grownCap_ge w (i + k) c e
 refine hK' _ _ (hK _ (grownCap w (i + k) c e) (olds ++ (Builtin.zeroCells z.cells k).toList ++ (Builtin.zeroCells z.cells (grownCap w (i + k) c e - (i + k))).toList) ?_ ?_ ?_ hge ?_ ?_ ?_)
 ·have := heap_alloc_new w.drew (.cells (olds.toArray ++ Builtin.zeroCells z.cells k ++ Builtin.zeroCells z.cells (grownCap w (i + k) c e - (i + k))) e)
  rw [show w.drew.heap.size = w.heap.size from rfl] at this
  rw [this]
  congr 2
  apply Array.ext'
  simp
 ·simp only [List.length_append, Array.length_toList, size_zeroCells, hzs, hl]
  rw [<- Nat.add_mul, <- Nat.add_mul]
  congr 1
  omega
 ·rw [List.append_assoc, List.take_append_of_le_length (by omega), List.take_of_length_le (by omega)]
 ·exact grownCap_le_maxLen w _ _ _ (by unfold maxLen; omega)
 ·exact ⟨rfl, rfl, rfl, by simp, fun k hk _ => Below.heap_alloc w.drew _ _ hk⟩
 ·simp
theorem own_of_full {w : World} {base g cap n size : Nat} {e : TypeId} {cur xs : List Value} (h : w.heap[g]? = some (.cells cur.toArray e (0, 0))) (hb : base <= g) (hnc : n <= cap) (hm : cap <= maxLen) (hl : cur.length = cap * size) (hx : cur.take (n * size) = xs) :
  w.ownsRow base e size (.slice (some ⟨g, 0, none⟩) n cap) n xs := by
 have : n * size <= cap * size := Nat.mul_le_mul_right _ hnc
 refine ⟨?_, .inr ⟨g, cap, cur.toArray, rfl, hb, h, hnc, hm, by simpa using hl, by simpa using hx⟩⟩
 rw [<- hx, List.length_take]
 omega
theorem full_of_own {w : World} {base n cap size : Nat} {a : Option Addr} {e : TypeId} {xs : List Value} (h : w.ownsRow base e size (.slice a n cap) n xs) (hn : 0 < n) :
  ∃ (g : Nat) (cur : List Value), a = some ⟨g, 0, none⟩ /\ base <= g /\ w.heap[g]? = some (.cells cur.toArray e (0, 0)) /\ n <= cap /\ cap <= maxLen /\ cur.length = cap * size /\ cur.take (n * size) = xs := by
 rcases h.2 with ⟨_, e1⟩ | ⟨g, cap', cur, e1, hb, hh, h1, h2, h3, h4⟩
 ·omega
 ·simp only [Value.slice.injEq, true_and] at e1
  obtain ⟨rfl, rfl⟩ := e1
  exact ⟨g, cur.toList, rfl, hb, by simpa using hh, h1, h2, by simpa using h3, h4⟩
theorem over_shift {cur xs vs : List Value} {i n k : Nat} (hx : cur.take (n * k) = xs) (hi : i <= n) (hv : vs.length = k) (hl : (n + 1) * k <= cur.length) :
  (over (over cur ((i + 1) * k) (xs.drop (i * k))) (i * k) vs).take ((n + 1) * k) = xs.take (i * k) ++ vs ++ xs.drop (i * k) := by
 have h1 : i * k <= n * k := Nat.mul_le_mul_right _ hi
 have h2 : (i + 1) * k = i * k + k := by rw [Nat.add_mul, Nat.one_mul]
 have h3 : (n + 1) * k = n * k + k := by rw [Nat.add_mul, Nat.one_mul]
 have hxl : xs.length = n * k := by rw [<- hx, List.length_take]; omega
 rw [h3] at hl ⊢
 rw [h2]
 clear h2 h3
 generalize i * k = p at *
 generalize n * k = q at *
 have hd : (xs.drop p).length = q - p := by rw [List.length_drop, hxl]
 have ht : cur.take p = xs.take p := by rw [<- hx, List.take_take]; congr 1; omega
 unfold over
 rw [hv, hd, show p + k + (q - p) = q + k by omega]
 have e1 : (cur.take (p + k) ++ xs.drop p ++ cur.drop (q + k)).take p = xs.take p := by
  rw [List.append_assoc, List.take_append_of_le_length (by simp; omega), List.take_take, <- ht]; congr 1; omega
 have e2 : (cur.take (p + k) ++ xs.drop p ++ cur.drop (q + k)).drop (p + k) = xs.drop p ++ cur.drop (q + k) := by
  rw [List.append_assoc, List.drop_append_of_le_length (by simp; omega), List.drop_of_length_le (by simp; omega), List.nil_append]
 have e3 : (xs.take p ++ vs ++ xs.drop p).length = q + k := by simp only [List.length_append, List.length_take, hd, hv, hxl]; omega
 rw [e1, e2, show xs.take p ++ vs ++ (xs.drop p ++ cur.drop (q + k)) = (xs.take p ++ vs ++ xs.drop p) ++ cur.drop (q + k) by simp only [List.append_assoc], List.take_append_of_le_length (by omega), List.take_of_length_le (by omega)]
theorem over_grow {cur xs vs : List Value} {i n k : Nat} (hxl : xs.length = n * k) (hx : cur.take (i * k) = xs.take (i * k)) (hi : i <= n) (hv : vs.length = k) (hl : (n + 1) * k <= cur.length) :
  (over (over cur (i * k) vs) ((i + 1) * k) (xs.drop (i * k))).take ((n + 1) * k) = xs.take (i * k) ++ vs ++ xs.drop (i * k) := by
 have h1 : i * k <= n * k := Nat.mul_le_mul_right _ hi
 have h2 : (i + 1) * k = i * k + k := by rw [Nat.add_mul, Nat.one_mul]
 have h3 : (n + 1) * k = n * k + k := by rw [Nat.add_mul, Nat.one_mul]
 rw [h3] at hl ⊢
 rw [h2]
 clear h2 h3
 generalize i * k = p at *
 generalize n * k = q at *
 have hd : (xs.drop p).length = q - p := by rw [List.length_drop, hxl]
 unfold over
 rw [hv, hd, show p + k + (q - p) = q + k by omega]
 have e1 : (cur.take p ++ vs ++ cur.drop (p + k)).take (p + k) = xs.take p ++ vs := by
  rw [List.take_append_of_le_length (by simp; omega), List.take_of_length_le (by simp; omega), hx]
 have e3 : (xs.take p ++ vs ++ xs.drop p).length = q + k := by simp only [List.length_append, List.length_take, hd, hv, hxl]; omega
 rw [e1, List.take_append_of_le_length (by omega), List.take_of_length_le (by omega)]
end Go.Proofs.Ytmapmkogjhinmaa
/- append onto a part of a row from a later part of it, and clear, at a row that is known whole. -/
namespace Go.Proofs.Ytmapmkogjhinmaa
open Go.RowKit
set_option linter.unusedVariables false
set_option linter.unusedSimpArgs false
end Go.Proofs.Ytmapmkogjhinmaa
/- slices.Insert and slices.Delete of one element: a row of one's own, at handles. -/
namespace Go.Proofs.Ytmapmkogjhinmaa.H
open Go.RowKit
set_option linter.unusedVariables false
set_option linter.unusedSimpArgs false
set_option maxRecDepth 100000
set_option maxHeartbeats 2000000
theorem infoE : InfoOf Try.prog 67 (.int .u64 0) 1 8 := by unfold InfoOf; kernel_rfl
theorem sizeE : (Try.prog.info? 67).map (·.size) = some 1 := by kernel_rfl
def InsP (w : World) (base : Nat) (v : Value) (n i : Nat) (xs vs : List Value) (e : Ending) (w' : World) : Prop :=
 ∃ v', e = .returned v' /\ w'.ownsRow base 67 1 v' (n + 1) (xs.take (i * 1) ++ vs ++ xs.drop (i * 1)) /\ w.grownBy w' v.ownBlock /\ (v'.ownBlock = v.ownBlock \/ v'.ownBlock = some w.heap.size)
theorem ins_end (w : World) (base : Nat) (a : Option Addr) (n cap vb : Nat) (xs vs : List Value) (hown : w.ownsRow base 67 1 (.slice a n cap) n xs) (hv : w.heap[vb]? = some (.cells vs.toArray 67 (0, 0))) (hvl : vs.length = 1) (h1v : ∀ u ∈ vs, u.oneCell' = true)
  (hn : n <= 1048576) (hbase : base <= w.heap.size) :
  Calls Try.prog 54 #[.slice a n cap, .int .i64 (n : Int), .slice (some ⟨vb, 0, none⟩) 1 1] w (InsP w base (.slice a n cap) n n xs vs) := by
 have hn' : (n : Int) <= 1048576 := by omega
 obtain ⟨hnc, hxl, -⟩ := row_cell hown
 have hcm : cap <= maxLen := by
  rcases hown.2 with ⟨e, _⟩ | ⟨g, cap', cur, e, _, _, _, h, _⟩
  ·simp only [Value.slice.injEq] at e; omega
  ·simp only [Value.slice.injEq, true_and] at e; omega
 unfold maxLen at hcm
 have hcm' : (cap : Int) <= 9223372036854775807 := by omega
 have H : Hid (w.ownsRow base 67 1 (.slice a n cap) n xs) := hown
 have HV : Hid (∀ j u, vs[j]? = some u -> ∃ ad, (some ⟨vb, 0, none⟩ : Option Addr) = some ad /\ w.cell? (ad.add j) = some u) := fun j u hu => ⟨_, rfl, by
  rw [addrP, Nat.zero_add, cell_of hv]
  exact hu⟩
 clear hown hv
 go_enter Try.func54, Try.ntmps54
 cases a with
 | none =>
  go_wp2_with (at_builtin; refine wpList_app rfl _ _ rfl Try.underlying49 infoE rfl (by decide) base _ n xs rfl H.out _ 1 1 vs rfl (by omega) HV.out h1v (by unfold maxLen; omega) (by omega) hbase ?_; intro v' w' k1 k2 k3 k4)
  all_goals
   go_ret
   refine ⟨v', rfl, ?_, k2, k4⟩
   rw [List.take_of_length_le (by omega), List.drop_of_length_le (by omega), List.append_nil]
   exact k1
 | some ad =>
  go_wp2_with (at_builtin; refine wpList_app rfl _ _ rfl Try.underlying49 infoE rfl (by decide) base _ n xs rfl H.out _ 1 1 vs rfl (by omega) HV.out h1v (by unfold maxLen; omega) (by omega) hbase ?_; intro v' w' k1 k2 k3 k4)
  all_goals
   go_ret
   refine ⟨v', rfl, ?_, k2, k4⟩
   rw [List.take_of_length_le (by omega), List.drop_of_length_le (by omega), List.append_nil]
   exact k1
theorem ins_grow (w : World) (base : Nat) (a : Option Addr) (n cap vb i : Nat) (xs vs : List Value) (hown : w.ownsRow base 67 1 (.slice a n cap) n xs) (hv : w.heap[vb]? = some (.cells vs.toArray 67 (0, 0))) (hvl : vs.length = 1) (h1v : ∀ u ∈ vs, u.oneCell' = true) (h1x : ∀ u ∈ xs, u.oneCell' = true)
  (hn : n <= 1048576) (hbase : base <= w.heap.size) (hi : i < n) (hroom : cap < n + 1) :
  Calls Try.prog 54 #[.slice a n cap, .int .i64 (i : Int), .slice (some ⟨vb, 0, none⟩) 1 1] w (InsP w base (.slice a n cap) n i xs vs) := by
 obtain ⟨g, cur, rfl, hbg, hcur, hnc, hcm, hcl, hct⟩ := full_of_own hown (by omega)
 obtain ⟨-, hxl, -⟩ := row_cell hown
 have hgl : g < w.heap.size := (Array.getElem?_eq_some_iff.1 hcur).1
 have hvbl : vb < w.heap.size := (Array.getElem?_eq_some_iff.1 hv).1
 unfold maxLen at hcm
 have hn' : (n : Int) <= 1048576 := by omega
 have hcm' : (cap : Int) <= 9223372036854775807 := by omega
 have hc1 : (cap : Int) < (n : Int) + 1 := by omega
 have hc2 : (n : Int) <= (cap : Int) := by omega
 have hi1 : (i : Int) < (n : Int) := by omega
 have hi2 : ((i : Int) == (n : Int)) = false := by simp; omega
 have hi3 : ¬ ((i : Int) = (n : Int)) := by omega
 have hi4 : (i : Int) <= (cap : Int) := by omega
 have hi5 : ¬ (cap = i) := by omega
 have hk : (n : Int) + 1 - (i : Int) = ((n + 1 - i : Nat) : Int) := by omega
 have hik : Hid (i + (n + 1 - i) = n + 1) := by show _ = _; omega
 have Hx : Hid (∀ j u, (xs.take (i * 1))[j]? = some u -> w.cell? ((⟨g, 0, none⟩ : Addr).add j) = some u) := fun j u hu => by
  rw [addrP, Nat.zero_add, cell_of hcur]
  rw [List.getElem?_take] at hu
  split at hu
  ·rw [<- hct, List.getElem?_take] at hu
   split at hu
   ·exact hu
   ·cases hu
  ·cases hu
 have Hcur : Hid (w.heap[g]? = some (.cells cur.toArray 67 (0, 0))) := hcur
 have Hv : Hid (w.heap[vb]? = some (.cells vs.toArray 67 (0, 0))) := hv
 have Hct : Hid (cur.take (n * 1) = xs) := hct
 have Hxl : Hid (xs.length = n * 1) := hxl
 have Hvl : Hid (vs.length = 1) := hvl
 have Hcl : Hid (cur.length = cap * 1) := hcl
 have tok1 : True := trivial
 have tok2 : True := trivial
 clear hown hcur hv hct hxl hvl hcl
 go_enter Try.func54, Try.ntmps54
 go_wp2_with (first
  | (at_builtin; have _t := tok1; go_must (refine wpList_zeros _ rfl _ _ 49 3 67 .i64 .i64 rfl Try.underlying49 Try.underlying3 infoE rfl (by decide) ⟨g, 0, none⟩ i cap _ (n + 1 - i) rfl (xs.take (i * 1)) (by have := Hxl.out; simp; omega) rfl rfl Hx.out (by omega) (by omega) (by omega) (by omega) ?_; intro w1 G cur1 k1 k2 k3 k4 k5 k6 k7; rw [hik.out] at k4 ⊢; clear tok1 _t; unfold maxLen at k5; have k5' : (G : Int) <= 9223372036854775807 := (by omega); have k8 : ¬ (G = i) := (by omega); have k9 : (n : Int) + 1 <= (G : Int) := (by omega); have K1 : Hid (w1.heap[w.heap.size]? = some (.cells cur1.toArray 67 (0, 0))) := k1; clear k1; have K2 : Hid (cur1.length = G * 1) := k2; clear k2; have K3 : Hid (cur1.take (i * 1) = xs.take (i * 1)) := k3; clear k3; have K6 : Hid (w.grownBy w1 none) := k6; clear k6; have K7 : Hid (w1.heap.size = w.heap.size + 1) := k7; clear k7))
  | (have _t := tok2; have _k := K1; (refine wpList_copyK _ rfl _ _ 49 49 67 rfl 1 w.heap.size (i) (n + 1 - i) (G - i) (some ⟨vb, 0, none⟩) 1 1 cur1 67 vs rfl rfl Try.underlying49 sizeE K1.out (by rw [Hvl.out, show Nat.min 1 (n + 1 - i) = 1 from Nat.min_eq_left (by omega)]) (fun j u hu => ⟨_, rfl, by
     rw [addrP, Nat.zero_add, World.cell?_of_block (w := w) (a := ⟨vb, j, none⟩) (K6.out.block vb hvbl (by simp)), cell_of Hv.out]; exact hu⟩) (by rw [Hvl.out, K2.out]; omega) h1v ?_; intro w2 m1 m2 m3; clear tok2 _t; have M1 : Hid (w2.heap[w.heap.size]? = some (.cells (over cur1 (i) vs).toArray 67 (0, 0))) := m1; clear m1; have M2 : Hid (w1.grownBy w2 (some w.heap.size)) := m2; clear m2; have M3 : Hid (w2.heap.size = w1.heap.size) := m3; clear m3)))
 have hd0 : (i : Int) <= (n : Int) := by omega
 have hd0' : i <= n := by omega
 have hd1 : (0 : Int) <= (i : Int) + 1 := by omega
 have hd2 : (i : Int) + 1 <= (n : Int) + 1 := by omega
 have hd3 : ((i : Int) + 1).toNat = i + 1 := by omega
 have hd4 : ¬ (G = i + 1) := by omega
 have hd5 : (i : Int) + 1 <= (G : Int) := by omega
 have hd6 : IntKind.i64.wrap ((i : Int) + 1) = (i : Int) + 1 := by rw [IntKind.wrap_i64]; omega
 have Hsrc : Hid (∀ j u, (xs.drop (i * 1))[j]? = some u -> ∃ ad, (some ⟨g, i, none⟩ : Option Addr) = some ad /\ w2.drew.cell? (ad.add j) = some u) := fun j u hu => ⟨_, rfl, by
  have hgg : w2.heap[g]? = w.heap[g]? := (M2.out.block g (by have := K7.out; omega) (by simp; omega)).trans (K6.out.block g hgl (by simp))
  rw [addrP]
  show w2.cell? _ = _
  rw [World.cell?_of_block (w := w) (a := ⟨g, i + j, none⟩) hgg, cell_of Hcur.out]
  rw [List.getElem?_drop] at hu
  rw [<- Hct.out, List.getElem?_take] at hu
  split at hu
  ·simpa using hu
  ·cases hu⟩
 go_region_law (go_must (refine step_copyK rfl _ _ 49 49 67 rfl 1 w.heap.size (i + 1) (n + 1 - (i + 1)) (G - (i + 1)) (some ⟨g, i, none⟩) (n - i) (cap - i) (over cur1 (i) vs) 67 (xs.drop (i * 1)) (by simp [Act.eval, Act.put]) (by simp [Act.eval, Act.put]) Try.underlying49 sizeE M1.out (by
   have := Hxl.out
   rw [List.length_drop, show Nat.min (n - i) (n + 1 - (i + 1)) = n - i from by simp only [Nat.min_def]; split <;> omega]; omega) Hsrc.out (by
   have h1 := Hxl.out
   have h2 := K2.out
   have h3 := Hvl.out
   rw [over_length (by omega), List.length_drop]; omega) (fun u hu => h1x u (List.mem_of_mem_drop hu)) ?_; intro w3 p1 p2 p3; have P1 : Hid (w3.heap[w.heap.size]? = some (.cells (over (over cur1 (i) vs) (i + 1) (xs.drop (i * 1))).toArray 67 (0, 0))) := p1; clear p1; have P2 : Hid (w2.grownBy w3 (some w.heap.size)) := ⟨p2.os, p2.tape, p2.output, p2.size, p2.block⟩; clear p2; have P3 : Hid (w3.heap.size = w2.heap.size) := p3; clear p3))
 all_goals
  go_wp2
  go_ret
  have z1 := K7.out
  have z2 := M3.out
  have hgr : w.grownBy w3 (Value.slice (some ⟨g, 0, none⟩) n cap).ownBlock :=
   ⟨P2.out.os.trans (M2.out.os.trans K6.out.os), P2.out.tape.trans (M2.out.tape.trans K6.out.tape), P2.out.output.trans (M2.out.output.trans K6.out.output), by have := P3.out; omega, fun k hk _ =>
    (P2.out.block k (by omega) (by simp; omega)).trans ((M2.out.block k (by omega) (by simp; omega)).trans (K6.out.block k hk (by simp)))⟩
  have h1 := Hxl.out
  have h2 := K2.out
  have h3 := Hvl.out
  refine ⟨_, rfl, own_of_full P1.out hbase (by omega) (by unfold maxLen; omega) (by rw [over_length (by rw [over_length (by omega), List.length_drop]; omega), over_length (by omega)]; exact h2) ?_, hgr, .inr rfl⟩
  have := over_grow (cur := cur1) (xs := xs) (vs := vs) (i := i) (n := n) (k := 1) h1 K3.out (by omega) h3 (by omega)
  simpa using this
theorem overlaps_no (w : World) (vb b off lb cb : Nat) (hne : vb ≠ b) (vs cur : List Value) (t t' : TypeId) (hv : w.heap[vb]? = some (.cells vs.toArray t (0, 0))) (hb : w.heap[b]? = some (.cells cur.toArray t' (0, 0))) (hc : cur.length ≠ 0) :
  (callFunc 62 #[.slice (some ⟨vb, 0, none⟩) 1 1, .slice (some ⟨b, off, none⟩) lb cb]).run Try.prog w = .ok (.value (.bool false)) w := by
 rw [run_callFunc_extern Try.func62 (by kernel_rfl) (by kernel_rfl) (by kernel_rfl) (e := Extern.SlicesOverlaps.overlaps #[49, 49] #[4]) (by kernel_rfl),
  Lib.run_overlaps_apart w 49 4 67 Try.underlying49 1 (fun w => by obtain ⟨i0, hi, _, h1, _⟩ := infoE.parts; simp [sizeOf, typeInfo, hi, h1]) ⟨vb, 0, none⟩ ⟨b, off, none⟩ 1 1 lb cb hne t t' vs.length cur.length (by simp [World.shape?, hv]) (by simp [World.shape?, hb]) hc (by simp [World.frozen?, hv]) (by simp [World.frozen?, hv])]
 rfl
theorem ins_shift (w : World) (base : Nat) (a : Option Addr) (n cap vb i : Nat) (xs vs : List Value) (hown : w.ownsRow base 67 1 (.slice a n cap) n xs) (hv : w.heap[vb]? = some (.cells vs.toArray 67 (0, 0))) (hvl : vs.length = 1) (h1v : ∀ u ∈ vs, u.oneCell' = true) (h1x : ∀ u ∈ xs, u.oneCell' = true)
  (hn : n <= 1048576) (hbase : base <= w.heap.size) (hi : i < n) (hroom : n + 1 <= cap) (hne : (Value.slice a n cap).ownBlock ≠ some vb) :
  Calls Try.prog 54 #[.slice a n cap, .int .i64 (i : Int), .slice (some ⟨vb, 0, none⟩) 1 1] w (InsP w base (.slice a n cap) n i xs vs) := by
 obtain ⟨g, cur, rfl, hbg, hcur, hnc, hcm, hcl, hct⟩ := full_of_own hown (by omega)
 obtain ⟨-, hxl, -⟩ := row_cell hown
 have hgl : g < w.heap.size := (Array.getElem?_eq_some_iff.1 hcur).1
 have hvbl : vb < w.heap.size := (Array.getElem?_eq_some_iff.1 hv).1
 have hvg : vb ≠ g := fun e => hne (by rw [e]; rfl)
 have hov : ∀ lb cb, (callFunc 62 #[.slice (some ⟨vb, 0, none⟩) 1 1, .slice (some ⟨g, i + 1, none⟩) lb cb]).run Try.prog w = .ok (.value (.bool false)) w := fun lb cb => overlaps_no w vb g _ lb cb hvg vs cur _ _ hv hcur (by omega)
 unfold maxLen at hcm
 have hn' : (n : Int) <= 1048576 := by omega
 have hcm' : (cap : Int) <= 9223372036854775807 := by omega
 have hc1 : (n : Int) + 1 <= (cap : Int) := by omega
 have hc2 : (n : Int) <= (cap : Int) := by omega
 have hi1 : (i : Int) < (n : Int) := by omega
 have hi2 : ((i : Int) == (n : Int)) = false := by simp; omega
 have hi3 : ¬ ((i : Int) = (n : Int)) := by omega
 have hi4 : (i : Int) <= (cap : Int) := by omega
 have hi5 : ¬ (cap = i) := by omega
 have hi6 : ¬ (cap = i + 1) := by omega
 have hi7 : (i : Int) + 1 <= (n : Int) + 1 := by omega
 have hi8 : i <= n + 1 := by omega
 have hi9 : (i : Int) <= (n : Int) + 1 := by omega
 have hd1 : (0 : Int) <= (i : Int) + 1 := by omega
 have hd3 : ((i : Int) + 1).toNat = i + 1 := by omega
 have hd6 : IntKind.i64.wrap ((i : Int) + 1) = (i : Int) + 1 := by rw [IntKind.wrap_i64]; omega
 have Hsrc : Hid (∀ j u, (xs.drop (i * 1))[j]? = some u -> ∃ ad, (some ⟨g, i, none⟩ : Option Addr) = some ad /\ w.drew.cell? (ad.add j) = some u) := fun j u hu => ⟨_, rfl, by
  rw [addrP]
  show w.cell? _ = _
  rw [cell_of hcur]
  rw [List.getElem?_drop] at hu
  rw [<- hct, List.getElem?_take] at hu
  split at hu
  ·simpa using hu
  ·cases hu⟩
 have Hcur : Hid (w.heap[g]? = some (.cells cur.toArray 67 (0, 0))) := hcur
 have Hv : Hid (w.heap[vb]? = some (.cells vs.toArray 67 (0, 0))) := hv
 have Hct : Hid (cur.take (n * 1) = xs) := hct
 have Hxl : Hid (xs.length = n * 1) := hxl
 have Hvl : Hid (vs.length = 1) := hvl
 have Hcl : Hid (cur.length = cap * 1) := hcl
 have tok2 : True := trivial
 clear hown hcur hv hct hxl hvl hcl hne
 go_enter Try.func54, Try.ntmps54
 go_wp2_with (simp only [hov])
 go_region_law (go_must (refine step_copyK rfl _ _ 49 49 67 rfl 1 g (i + 1) (n + 1 - (i + 1)) (cap - (i + 1)) (some ⟨g, i, none⟩) (n + 1 - i) (cap - i) cur 67 (xs.drop (i * 1)) (by simp [Act.eval, Act.put]) (by simp [Act.eval, Act.put]) Try.underlying49 sizeE Hcur.out (by
   have := Hxl.out
   rw [List.length_drop, show Nat.min (n + 1 - i) (n + 1 - (i + 1)) = n - i from by simp only [Nat.min_def]; split <;> omega]; omega) Hsrc.out (by
   have h1 := Hxl.out
   have h2 := Hcl.out
   rw [List.length_drop]; omega) (fun u hu => h1x u (List.mem_of_mem_drop hu)) ?_; intro w2 p1 p2 p3; have M1 : Hid (w2.heap[g]? = some (.cells (over cur (i + 1) (xs.drop (i * 1))).toArray 67 (0, 0))) := p1; clear p1; have M2 : Hid (w.grownBy w2 (some g)) := ⟨p2.os, p2.tape, p2.output, p2.size, p2.block⟩; clear p2; have M3 : Hid (w2.heap.size = w.heap.size) := p3; clear p3))
 all_goals
  go_wp2_with (have _t := tok2; (refine wpList_copyK _ rfl _ _ 49 49 67 rfl 1 g (i) (n + 1 - i) (cap - i) (some ⟨vb, 0, none⟩) 1 1 (over cur (i + 1) (xs.drop (i * 1))) 67 vs rfl rfl Try.underlying49 sizeE M1.out (by rw [Hvl.out, show Nat.min 1 (n + 1 - i) = 1 from Nat.min_eq_left (by omega)]) (fun j u hu => ⟨_, rfl, by
     rw [addrP, Nat.zero_add, World.cell?_of_block (w := w) (a := ⟨vb, j, none⟩) (M2.out.block vb hvbl (by simp; omega)), cell_of Hv.out]; exact hu⟩) (by
      have h1 := Hxl.out
      have h2 := Hcl.out
      rw [Hvl.out, over_length (by rw [List.length_drop]; omega)]; omega) h1v ?_; intro w3 m1 m2 m3; clear tok2 _t; have P1 : Hid (w3.heap[g]? = some (.cells (over (over cur (i + 1) (xs.drop (i * 1))) (i) vs).toArray 67 (0, 0))) := m1; clear m1; have P2 : Hid (w2.grownBy w3 (some g)) := m2; clear m2; have P3 : Hid (w3.heap.size = w2.heap.size) := m3; clear m3))
  go_ret
  have z2 := M3.out
  have hgr : w.grownBy w3 (Value.slice (some ⟨g, 0, none⟩) n cap).ownBlock :=
   ⟨P2.out.os.trans M2.out.os, P2.out.tape.trans M2.out.tape, P2.out.output.trans M2.out.output, by have := P3.out; omega, fun k hk hne => (P2.out.block k (by omega) hne).trans (M2.out.block k hk hne)⟩
  have h1 := Hxl.out
  have h2 := Hcl.out
  have h3 := Hvl.out
  refine ⟨_, rfl, own_of_full P1.out hbg (by omega) (by unfold maxLen; omega) (by rw [over_length (by rw [over_length (by rw [List.length_drop]; omega)]; omega), over_length (by rw [List.length_drop]; omega)]; exact h2) ?_, hgr, .inl rfl⟩
  have := over_shift (cur := cur) (xs := xs) (vs := vs) (i := i) (n := n) (k := 1) Hct.out (by omega) h3 (by omega)
  simpa using this
theorem insert_any (w : World) (base : Nat) (a : Option Addr) (n cap vb i : Nat) (xs vs : List Value) (hown : w.ownsRow base 67 1 (.slice a n cap) n xs) (hv : w.heap[vb]? = some (.cells vs.toArray 67 (0, 0))) (hvl : vs.length = 1) (h1v : ∀ u ∈ vs, u.oneCell' = true) (h1x : ∀ u ∈ xs, u.oneCell' = true)
  (hn : n <= 1048576) (hbase : base <= w.heap.size) (hi : i <= n) (hne : (Value.slice a n cap).ownBlock ≠ some vb) :
  Calls Try.prog 54 #[.slice a n cap, .int .i64 (i : Int), .slice (some ⟨vb, 0, none⟩) 1 1] w (InsP w base (.slice a n cap) n i xs vs) := by
 by_cases hin : i = n
 ·subst hin
  exact ins_end w base a i cap vb xs vs hown hv hvl h1v hn hbase
 ·by_cases hr : n + 1 <= cap
  ·exact ins_shift w base a n cap vb i xs vs hown hv hvl h1v h1x hn hbase (by omega) hr hne
  ·exact ins_grow w base a n cap vb i xs vs hown hv hvl h1v h1x hn hbase (by omega) (by omega)
end Go.Proofs.Ytmapmkogjhinmaa.H
