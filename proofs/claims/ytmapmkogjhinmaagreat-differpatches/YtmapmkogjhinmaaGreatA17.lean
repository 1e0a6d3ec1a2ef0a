/- The program's growing: what each step keeps. -/
import Derived.Test.YtmapmkogjhinmaaGreatA16
namespace Go.Proofs.YtmapmkogjhinmaaGreat
open Go.RowKit
set_option maxRecDepth 100000
set_option maxHeartbeats 4000000
set_option linter.unusedVariables false
set_option linter.unusedSimpArgs false
structure PG (w : World) (ro : Nat -> Nat) (db fb fg : Nat) (E : Dc) (F : List Nat) (w' : World) (ro' : Nat -> Nat) : Prop where
 turn : Turn (fun b => ro b ≠ 0 \/ b = fb) w w'
 doc : PDoc w' ro' db E
 from' : ∀ b, ro' b ≠ 0 -> ro b ≠ 0 \/ w.heap.size <= b
 fr : FrAt w' fb fg F
 fbl : fb < w.heap.size /\ fg < w.heap.size
 fz : ro fb = 0 /\ ro fg = 0
section
variable {w w1 w2 : World} {ro ro1 ro2 : Nat -> Nat} {db fb fg : Nat} {D E : Dc} {F G : List Nat}
theorem PG.start (h : PDoc w ro db D) (hf : FrAt w fb fg F) (hz : ro fb = 0 /\ ro fg = 0) : PG w ro db fb fg D F w ro :=
 ⟨Turn.refl _ _, h, fun b hb => .inl hb, hf, hf.lt, hz⟩
theorem PG.fz1 (h : PG w ro db fb fg D F w1 ro1) : ro1 fb = 0 /\ ro1 fg = 0 := by
 have key : ∀ b, b < w.heap.size -> ro b = 0 -> ro1 b = 0 := fun b hb hr => by
  by_cases e : ro1 b = 0
  ·exact e
  ·rcases h.from' b e with h1 | h1
   ·exact absurd hr h1
   ·omega
 exact ⟨key fb h.fbl.1 h.fz.1, key fg h.fbl.2 h.fz.2⟩
theorem PG.trans (h : PG w ro db fb fg D F w1 ro1) (k : PG w1 ro1 db fb fg E G w2 ro2) : PG w ro db fb fg E G w2 ro2 := by
 refine ⟨⟨k.turn.os.trans h.turn.os, k.turn.tape.trans h.turn.tape, k.turn.output.trans h.turn.output, Nat.le_trans h.turn.size k.turn.size, fun b hb hn => ?_⟩, k.doc, fun b hb => ?_, k.fr, h.fbl, h.fz⟩
 ·rw [k.turn.block b (Nat.lt_of_lt_of_le hb h.turn.size) (fun e => ?_), h.turn.block b hb hn]
  rcases e with e | e
  ·rcases h.from' b e with h1 | h1
   ·exact hn (.inl h1)
   ·omega
  ·exact hn (.inr e)
 ·rcases k.from' b hb with h1 | h1
  ·exact h.from' b h1
  ·exact .inr (Nat.le_trans h.turn.size h1)
theorem PG.below (h : PG w ro db fb fg D F w1 ro1) (hb : Below w1.heap.size w1 w2) : PG w ro db fb fg D F w2 ro1 := by
 obtain ⟨sa, scap, ra, rcap, L, hd⟩ := h.doc
 have h1 := h.fr.lt
 exact ⟨h.turn.then hb h.turn.size, ⟨sa, scap, ra, rcap, L, hd.below hb⟩, h.from', h.fr.of_blocks (hb.block fb h1.1) (hb.block fg h1.2) hb.size, h.fbl, h.fz⟩
theorem PG.next {e : Ending} {i : Nat} (h : PDoc w ro db D) (hz : ro fb = 0 /\ ro fg = 0) (hl : fb < w.heap.size /\ fg < w.heap.size) (k : NextP w fb fg i F e w1) : PG w ro db fb fg D F w1 ro := by
 obtain ⟨_, h1, h2⟩ := k
 exact ⟨h2.mono (fun b _ hb => .inr hb), h.turn h2 (fun b hb e => hb (e ▸ hz.1)), fun b hb => .inl hb, h1, hl, hz⟩
theorem PG.step (hz : ro fb = 0 /\ ro fg = 0) (hf : FrAt w fb fg F) (ht : Turn (fun b => ro b ≠ 0) w w1) (hd : PDoc w1 ro1 db E) (hfr : ∀ b, ro1 b ≠ 0 -> ro b ≠ 0 \/ w.heap.size <= b) : PG w ro db fb fg E F w1 ro1 :=
 ⟨ht.mono (fun b _ hb => .inl hb), hd, hfr, hf.of_blocks (ht.block fb hf.lt.1 (fun e => e hz.1)) (ht.block fg hf.lt.2 (fun e => e hz.2)) ht.size, hf.lt, hz⟩
def roA (ro : Nat -> Nat) (k : Nat) (v : Value) (b : Nat) : Nat := if v.ownBlock = some b then k else ro b
theorem roA_old {k : Nat} {v : Value} (hv : ∀ b, v.ownBlock = some b -> ro b = 0) (b : Nat) (h : ro b ≠ 0) : roA ro k v b = ro b := by
 unfold roA
 rw [if_neg (fun e => h (hv b e))]
theorem roA_new {k : Nat} {v : Value} {b : Nat} (h : v.ownBlock = some b) : roA ro k v b = k := by unfold roA; rw [if_pos h]
theorem roA_from {k : Nat} {v : Value} {b : Nat} (h : roA ro k v b ≠ 0) : ro b ≠ 0 \/ v.ownBlock = some b := by
 unfold roA at h
 split at h
 ·exact .inr (by assumption)
 ·exact .inl h
variable {sa : Option Addr} {g : Nat} {scap : Nat} {ra : Option Addr} {rcap : Nat} {L : List (Value × Value)}
theorem PdS.adopt (h : PdS w ro db D (some ⟨g, 0, none⟩) scap ra rcap L) {i : Nat} {s : Sl} (hs : D.S[i]? = some s) {v : Value} {l' : List Nat} {base : Nat} (hown : w.ownsRow base 32 1 v l'.length (hvals l')) (hv : ∀ b, v.ownBlock = some b -> ro b = 0) :
  PDoc (w.setCell ⟨g, i * 8 + 7, none⟩ v) (roA ro (2 * i + 5) v) db { D with S := D.S.set i { s with kids := l' } } /\ Turn (fun b => ro b ≠ 0) w (w.setCell ⟨g, i * 8 + 7, none⟩ v) := by
 have hi := (List.getElem?_eq_some_iff.1 hs).1
 obtain ⟨p, hp⟩ : ∃ p, L[i]? = some p := ⟨_, List.getElem?_eq_getElem (by rw [h.len]; exact hi)⟩
 have hg : ro g = 2 := h.rs g rfl
 have v0 := h.vals i s p hs hp
 have hown0 : w.ownsRow 0 32 1 v l'.length (hvals l') := own_base hown (fun _ _ => Nat.zero_le _)
 have hm : PdT w (roA ro (2 * i + 5) v) db D _ _ _ _ _ L := h.toT.more (fun b hb => roA_old hv b hb) (fun b hb => by
  rcases roA_from hb with h1 | h1
  ·exact h.lt b h1
  ·exact (own_block_lt hown b h1).2)
 have hc := hm.cell (j := 7) (s' := { s with kids := l' }) (p' := (p.1, v)) (u := v) hs hp (by omega) rfl ⟨v0.1, hown0⟩ (fun b hb => hm.rat i p b hp hb) (fun b hb => roA_new hb)
 refine ⟨⟨_, _, _, _, _, hc.toS ?_⟩, (Turn.refl _ _).setCell (A := fun b => ro b ≠ 0) (p := ⟨g, _, none⟩) (by show ro g ≠ 0; omega) _⟩
 show _ = ((cnt Sl.live (D.S.set i { s with kids := l' }) : Nat) : Int)
 rw [cnt_set (s' := { s with kids := l' }) hs rfl]
theorem cnt_plant {S : List Sl} {i : Nat} {s0 s : Sl} (hs : S[i]? = some s0) (h0 : s0.live = false) (h1 : s.live = true) : cnt Sl.live (S.set i s) = cnt Sl.live S + 1 := by
 unfold cnt
 have hi := (List.getElem?_eq_some_iff.1 hs).1
 have hsp : S = S.take i ++ s0 :: S.drop (i + 1) := by
  rw [<- (List.getElem?_eq_some_iff.1 hs).2, <- List.drop_eq_getElem_cons hi, List.take_append_drop]
 rw [List.set_eq_take_append_cons_drop, if_pos hi]
 conv => rhs; rw [hsp]
 rw [List.filter_append, List.filter_append, List.filter_cons, List.filter_cons, if_pos h1, if_neg (by simp [h0])]
 simp
 omega
theorem PdS.plant (h : PdS w ro db D (some ⟨g, 0, none⟩) scap ra rcap L) {i : Nat} {s0 : Sl} (hs : D.S[i]? = some s0) (h0 : s0.live = false) (s : Sl) (hk : s.kids = []) (h1 : s.live = true) {av : Value} {base : Nat} (hb : Below w.heap.size w w1) (hown : w1.ownsRow base 52 2 av s.attrs.length (attrCells s.attrs)) (hbase : w.heap.size <= base) :
  PDoc ((plantW w1 g i s av).setCell ⟨db, 2, none⟩ (.int .i64 ((cnt Sl.live D.S : Int) + 1))) (roA ro (2 * i + 4) av) db { D with S := D.S.set i s } /\ Turn (fun b => ro b ≠ 0) w ((plantW w1 g i s av).setCell ⟨db, 2, none⟩ (.int .i64 ((cnt Sl.live D.S : Int) + 1))) /\ ∀ b, roA ro (2 * i + 4) av b ≠ 0 -> ro b ≠ 0 \/ w.heap.size <= b := by
 have hg : ro g = 2 := h.rs g rfl
 have hv : ∀ b, av.ownBlock = some b -> ro b = 0 := fun b hb' => by
  have h2 := (own_block_lt hown b hb').1
  by_cases e : ro b = 0
  ·exact e
  ·have := h.lt b e
   omega
 have h1' := h.below hb
 have hown0 : w1.ownsRow 0 52 2 av s.attrs.length (attrCells s.attrs) := own_base hown (fun _ _ => Nat.zero_le _)
 have hm : PdT w1 (roA ro (2 * i + 4) av) db D _ _ _ _ _ L := h1'.toT.more (fun b hb => roA_old hv b hb) (fun b hb => by
  rcases roA_from hb with h1 | h1
  ·exact h1'.lt b h1
  ·exact (own_block_lt hown b h1).2)
 have hc := (hm.plant hs s hk hown0 (fun b hb => roA_new hb)).count ((cnt Sl.live D.S : Int) + 1)
 refine ⟨⟨_, _, _, _, _, hc.toS ?_⟩, ?_, fun b hb' => ?_⟩
 ·show _ = ((cnt Sl.live (D.S.set i s) : Nat) : Int)
  rw [cnt_plant hs h0 h1]
  omega
 ·exact (((Turn.refl _ _).then hb (Nat.le_refl _)).plant (.inl (by show ro g ≠ 0; omega)) i s av).setCell (A := fun b => ro b ≠ 0) (p := ⟨db, 2, none⟩) (by show ro db ≠ 0; rw [h.rdb]; omega) _
 ·rcases roA_from hb' with h1 | h1
  ·exact .inl h1
  ·exact .inr (Nat.le_trans hbase (own_block_lt hown b h1).1)
end
theorem growK_snoc {α : Type} (f : α -> Nat -> Dc -> Dc × Nat) (h : Nat) (k : α) : ∀ (l : List α) (D : Dc), growK f h (l ++ [k]) D = ((f k h (growK f h l D).1).1, (growK f h l D).2 ++ [(f k h (growK f h l D).1).2])
 | [], D => rfl
 | a :: r, D => by
  simp only [List.cons_append, growK]
  rw [growK_snoc f h k r]
theorem growK_spec (n : Nat) : ∀ (l : List (T n)) (h : Nat) (D : Dc), Sane D -> cnt takenB D.S + (l.map (ndT n)).sum <= 4096 -> (h = 0 \/ ∃ q, sl D h = some q) -> (∀ k ∈ l, okT n k) ->
  ∃ N, Grown D (growK (growD n) h l D).1 h N (growK (growD n) h l D).2 (l.map (ndT n)).sum ((l.map (htT n)).foldl max 0) := by
 intro l
 induction l with
 | nil =>
  intro h D hs _ _ _
  exact ⟨[], Grown.none hs h⟩
 | cons k r ihl =>
  intro h D hs hc hh hk
  simp only [List.map_cons, List.sum_cons] at hc
  obtain ⟨N1, g1⟩ := grow_spec n k h D hs (by omega) hh (hk k (by simp))
  have hh1 : h = 0 \/ ∃ q, sl (growD n k h D).1 h = some q := hh.imp id (fun ⟨q, hq⟩ => ⟨q, by rw [g1.old h (g1.notin (.inr ⟨q, hq⟩))]; exact hq⟩)
  obtain ⟨N2, g2⟩ := ihl h (growD n k h D).1 g1.sane (by rw [g1.tk]; omega) hh1 (fun x hx => hk x (by simp [hx]))
  refine ⟨N1 ++ N2, ?_⟩
  have := g1.cons g2
  rw [List.map_cons, List.sum_cons, List.map_cons, foldl_max_cons]
  exact this
def GrowP (w : World) (ro : Nat -> Nat) (db fb fg : Nat) (E : Dc) (h : Nat) (F : List Nat) (e : Ending) (w' : World) : Prop :=
 e = .returned (.int .u64 (h : Int)) /\ ∃ ro', PG w ro db fb fg E F w' ro'
def GrowAll (n : Nat) : Prop := ∀ (w : World) (v : Array Value) (t : T n) (lo hi p : Nat) (ro : Nat -> Nat) (db fb fg m : Nat) (D : Dc), TreeAt w lo hi n v t -> hi <= w.heap.size -> (∀ b, ro b ≠ 0 -> ¬ (lo <= b /\ b < hi)) -> hi <= fb -> PDoc w ro db D -> FrAt w fb fg ((frL D).take m) -> ndT n t <= m -> (ro fb = 0 /\ ro fg = 0) ->
  Sane D -> cnt takenB D.S + ndT n t <= 4096 -> (p = 0 \/ ∃ q, sl D p = some q) -> p < 18446744073709551616 -> okT n t ->
  Calls Tryz.prog 46 #[.pointer (some ⟨db, 0, none⟩), .agg v, .int .u64 (p : Int), .func (.func 47) #[] #[.pointer (some ⟨fb, 0, none⟩)]] w (GrowP w ro db fb fg (growD n t p D).1 (growD n t p D).2 (((frL D).take m).drop (ndT n t)))
theorem PG.grown {w w1 w2 : World} {ro ro1 : Nat -> Nat} {db fb fg : Nat} {E : Dc} {F : List Nat} {vb : Option Nat} (h : PG w ro db fb fg E F w1 ro1) (hg : w1.grownBy w2 vb) (hv : ∀ b, vb = some b -> ro1 b = 0 /\ w.heap.size <= b) : PG w ro db fb fg E F w2 ro1 := by
 obtain ⟨sa, scap, ra, rcap, L, hd⟩ := h.doc
 have hfb := h.fr.lt
 have hlt := h.fbl
 refine ⟨⟨hg.os.trans h.turn.os, hg.tape.trans h.turn.tape, hg.output.trans h.turn.output, Nat.le_trans h.turn.size hg.size, fun b hb hn => ?_⟩, ⟨sa, scap, ra, rcap, L, hd.of_blocks (fun b hb => hg.block b (hd.lt b hb) (fun e => hb (hv b e.symm).1)) hg.size⟩, h.from', h.fr.of_blocks (hg.block fb hfb.1 (fun e => by have := (hv fb e.symm).2; omega)) (hg.block fg hfb.2 (fun e => by have := (hv fg e.symm).2; omega)) hg.size, h.fbl, h.fz⟩
 rw [hg.block b (Nat.lt_of_lt_of_le hb h.turn.size) (fun e => by have := (hv b e.symm).2; omega), h.turn.block b hb hn]
theorem PG.adopt {w w1 w2 : World} {ro ro1 ro2 : Nat -> Nat} {db fb fg : Nat} {E E' : Dc} {F : List Nat} (h : PG w ro db fb fg E F w1 ro1) (ht : Turn (fun b => ro1 b ≠ 0) w1 w2) (hd : PDoc w2 ro2 db E') (hf : ∀ b, ro2 b ≠ 0 -> ro1 b ≠ 0 \/ w.heap.size <= b) : PG w ro db fb fg E' F w2 ro2 := by
 have hz := h.fz1
 have hfl := h.fr.lt
 refine ⟨⟨ht.os.trans h.turn.os, ht.tape.trans h.turn.tape, ht.output.trans h.turn.output, Nat.le_trans h.turn.size ht.size, fun b hb hn => ?_⟩, hd, fun b hb => ?_, h.fr.of_blocks (ht.block fb hfl.1 (fun e => e hz.1)) (ht.block fg hfl.2 (fun e => e hz.2)) ht.size, h.fbl, h.fz⟩
 ·rw [ht.block b (Nat.lt_of_lt_of_le hb h.turn.size) (fun e => ?_), h.turn.block b hb hn]
  rcases h.from' b e with h1 | h1
  ·exact hn (.inl h1)
  ·omega
 ·rcases hf b hb with h1 | h1
  ·exact h.from' b h1
  ·exact .inr h1
theorem growK_len {α : Type} (f : α -> Nat -> Dc -> Dc × Nat) (h : Nat) : ∀ (l : List α) (D : Dc), (growK f h l D).2.length = l.length
 | [], _ => rfl
 | a :: r, D => by simp [growK, growK_len f h r]
theorem setCell_drew (w : World) (p : Addr) (v : Value) : w.drew.setCell p v = (w.setCell p v).drew := rfl
theorem PdS.app {w w1 wa : World} {ro : Nat -> Nat} {db fb fg : Nat} {D : Dc} {sa : Option Addr} {scap : Nat} {ra : Option Addr} {rcap : Nat} {L : List (Value × Value)} {F : List Nat} {cs : Array Value} {o : Obj} {a' : Option Addr} {c' : Nat} (h : PdS w1 ro db D sa scap ra rcap L) (hlt : ∀ b, ro b ≠ 0 -> b < w.heap.size) (hp : PG w ro db fb fg D F w1 ro) (hw1 : w.heap.size < w1.heap.size) (hbx : IsCells w1 w.heap.size cs)
  (hg : (w1.alloc o).grownBy wa (Value.slice sa D.S.length scap).ownBlock) (hown : wa.ownsRow 0 90 8 (.slice a' (D.S.length + 1) c') (D.S.length + 1) (rowOf D.S L ++ slotCells (zeroSl 0) (.slice none 0 0, .slice none 0 0))) (hat : (Value.slice a' (D.S.length + 1) c').ownBlock = (Value.slice sa D.S.length scap).ownBlock \/ (Value.slice a' (D.S.length + 1) c').ownBlock = some (w1.alloc o).heap.size) :
  PdS (wa.setCell ⟨db, 0, none⟩ (.slice a' (D.S.length + 1) c')) (roN ro 2 (.slice a' (D.S.length + 1) c')) db { D with S := D.S ++ [zeroSl 0] } a' c' ra rcap (L ++ [(.slice none 0 0, .slice none 0 0)]) /\
  PG w ro db fb fg { D with S := D.S ++ [zeroSl 0] } F (wa.setCell ⟨db, 0, none⟩ (.slice a' (D.S.length + 1) c')) (roN ro 2 (.slice a' (D.S.length + 1) c')) /\ (∀ b, (Value.slice a' (D.S.length + 1) c').ownBlock = some b -> ¬ w.heap.size = b) /\
  IsCells (wa.setCell ⟨db, 0, none⟩ (.slice a' (D.S.length + 1) c')) w.heap.size cs /\ w.heap.size < (wa.setCell ⟨db, 0, none⟩ (.slice a' (D.S.length + 1) c')).heap.size /\ wa.heap[db]? = w1.heap[db]? := by
 have hb0 := below_new' w1 o
 have hs0 : (w1.alloc o).heap.size = w1.heap.size + 1 := by simp
 have hs1 := hg.size
 have hb : ∀ b, (Value.slice a' (D.S.length + 1) c').ownBlock = some b -> (Value.slice sa D.S.length scap).ownBlock = some b \/ (w1.alloc o).heap.size <= b := fun b hb' => by
  rcases hat with e | e
  ·exact .inl (e ▸ hb')
  ·rw [e] at hb'
   cases hb'
   exact .inr (Nat.le_refl _)
 have hk := (h.below hb0).more1 hg hown hb
 have hdw : ¬ w.heap.size = db := fun e => by have := hlt db (by rw [h.rdb]; omega); omega
 have hnw : ∀ b, (Value.slice sa D.S.length scap).ownBlock = some b -> ¬ w.heap.size = b := fun b hb' e => by
  have := hlt b (by rw [h.rs b hb']; omega)
  omega
 have ht : Turn (fun b => ro b ≠ 0) w1 (wa.setCell ⟨db, 0, none⟩ (.slice a' (D.S.length + 1) c')) := by
  refine Turn.setCell (A := fun b => ro b ≠ 0) (p := ⟨db, 0, none⟩) ?_ (by show ro db ≠ 0; rw [h.rdb]; omega) _
  exact ⟨hg.os.trans hb0.os, hg.tape.trans hb0.tape, hg.output.trans hb0.output, by omega, fun b hb' hn => by
   rw [hg.block b (by omega) (fun e => by
    have := h.rs b e.symm
    exact hn (by omega)), hb0.block b hb']⟩
 refine ⟨hk, hp.adopt ht ⟨_, _, _, _, _, hk⟩ (fun b hb' => ?_), fun b hb' => ?_, ?_, ?_, ?_⟩
 ·rcases roN_from (N := (w1.alloc o).heap.size) (by omega) (h.below hb0).rs hb hb' with h1 | h1
  ·exact .inl h1
  ·exact .inr (by omega)
 ·rcases hb b hb' with h1 | h1
  ·exact hnw b h1
  ·omega
 ·have e1 : wa.heap[w.heap.size]? = w1.heap[w.heap.size]? := by
   rw [hg.block w.heap.size (by omega) (fun e => hnw _ e.symm rfl), hb0.block w.heap.size hw1]
  exact (hbx.of_block e1).other hdw _
 ·have e2 : (wa.setCell ⟨db, 0, none⟩ (.slice a' (D.S.length + 1) c')).heap.size = wa.heap.size := by simp [World.setCell]
  omega
 ·have hdl := h.lt db (by rw [h.rdb]; omega)
  rw [hg.block db (by omega) (fun e => by have := h.rs db e.symm; rw [h.rdb] at this; omega), hb0.block db hdl]
theorem fr_drop {A B : List Nat} {k m : Nat} (h : A = A.take k ++ B) (hk : k <= A.length) (hm : k <= m) : (A.take m).drop k = B.take (m - k) := by
 have hl : (A.take k).length = k := by rw [List.length_take]; omega
 conv => lhs; rw [h]
 rw [List.take_append, hl, List.drop_append, List.length_take, hl, Nat.min_eq_right hm, Nat.sub_self, List.drop_zero, List.take_take, Nat.min_eq_right hm, List.drop_of_length_le (by rw [hl]; exact Nat.le_refl _), List.nil_append]
structure GC (w : World) (ro : Nat -> Nat) (db fb fg : Nat) (n H : Nat) (E0 : Dc) (m lo hi : Nat) (ka : Option Addr) (LL : List (T n)) : Prop where
 ih : GrowAll n
 sane : Sane E0
 cn : cnt takenB E0.S + (LL.map (ndT n)).sum <= 4096
 hm : (LL.map (ndT n)).sum <= m
 hh : ∃ q, sl E0 H = some q
 hl : H < 18446744073709551616
 ok : ∀ k ∈ LL, okT n k
 kids : KidsAt w lo hi n ka LL
 hsz : hi <= w.heap.size
 hro : ∀ b, ro b ≠ 0 -> ¬ (lo <= b /\ b < hi)
 hfb : hi <= fb
structure GS (w : World) (ro : Nat -> Nat) (db fb fg : Nat) (n H : Nat) (E0 : Dc) (m : Nat) (LL : List (T n)) (base : Nat) (j : Nat) (q : Value) (kn : Nat) (wr : World) : Prop where
 len : (growK (growD n) H (LL.take j) E0).2.length = kn
 st : ∃ ro', PG w ro db fb fg (growK (growD n) H (LL.take j) E0).1 (((frL E0).take m).drop ((LL.take j).map (ndT n)).sum) wr ro' /\ ∀ b, q.ownBlock = some b -> ro' b = 0
 row : wr.ownsRow base 32 1 q kn (hvals (growK (growD n) H (LL.take j) E0).2)
section
variable {w wr : World} {ro : Nat -> Nat} {db fb fg n H : Nat} {E0 : Dc} {m lo hi base j kn : Nat} {ka : Option Addr} {LL : List (T n)} {q : Value}
theorem take_sum (l : List (T n)) (j : Nat) {k : T n} (hk : l[j]? = some k) : ((l.take j).map (ndT n)).sum + ndT n k <= (l.map (ndT n)).sum /\ ((l.take (j + 1)).map (ndT n)).sum = ((l.take j).map (ndT n)).sum + ndT n k := by
 have h1 := sum_part (l.map (ndT n)) (j + 1)
 have e : ((l.take (j + 1)).map (ndT n)).sum = ((l.take j).map (ndT n)).sum + ndT n k := by rw [take_more hk, List.map_append, List.sum_append]; simp
 rw [<- List.map_take, e] at h1
 exact ⟨h1, e⟩
theorem GC.mid (c : GC w ro db fb fg n H E0 m lo hi ka LL) {k : T n} (hk : LL[j]? = some k) :
  Sane (growK (growD n) H (LL.take j) E0).1 /\ cnt takenB (growK (growD n) H (LL.take j) E0).1.S + ndT n k <= 4096 /\ (∃ q, sl (growK (growD n) H (LL.take j) E0).1 H = some q) /\ ((frL E0).take m).drop ((LL.take j).map (ndT n)).sum = (frL (growK (growD n) H (LL.take j) E0).1).take (m - ((LL.take j).map (ndT n)).sum) /\ ndT n k <= m - ((LL.take j).map (ndT n)).sum := by
 have hs := (take_sum LL j hk).1
 have hcn := c.cn
 have hm := c.hm
 have hok : ∀ x ∈ LL.take j, okT n x := fun x hx => c.ok x (List.mem_of_mem_take hx)
 obtain ⟨N, g⟩ := growK_spec n (LL.take j) H E0 c.sane (by omega) (.inr c.hh) hok
 have hf := growK_frL n (grow_frL n) (LL.take j) H E0 c.sane (by omega) (.inr c.hh) hok
 have hlen := frL_len c.sane.fits
 refine ⟨g.sane, by rw [g.tk]; omega, ?_, fr_drop hf (by omega) (by omega), by omega⟩
 obtain ⟨q, hq⟩ := c.hh
 exact ⟨q, by rw [g.old H (g.notin (.inr ⟨q, hq⟩))]; exact hq⟩
theorem GS.call (c : GC w ro db fb fg n H E0 m lo hi ka LL) (s : GS w ro db fb fg n H E0 m LL base j q kn wr) {k : T n} (hk : LL[j]? = some k) {v : Array Value} (ht : TreeAt wr lo hi n v k) (o : Obj) :
  ∃ ro1, (∀ b, q.ownBlock = some b -> ro1 b = 0) /\ PG w ro db fb fg (growK (growD n) H (LL.take j) E0).1 (((frL E0).take m).drop ((LL.take j).map (ndT n)).sum) (wr.alloc o) ro1 /\
  Calls Tryz.prog 46 #[.pointer (some ⟨db, 0, none⟩), .agg v, .int .u64 (H : Int), .func (.func 47) #[] #[.pointer (some ⟨fb, 0, none⟩)]] (wr.alloc o) (GrowP (wr.alloc o) ro1 db fb fg (growK (growD n) H (LL.take (j + 1)) E0).1 (growD n k H (growK (growD n) H (LL.take j) E0).1).2 (((frL E0).take m).drop ((LL.take (j + 1)).map (ndT n)).sum)) := by
 obtain ⟨ro1, hp, hq⟩ := s.st
 obtain ⟨m1, m2, m3, m4, m5⟩ := c.mid hk
 have hp' := hp.below (below_new' wr o)
 refine ⟨ro1, hq, hp', ?_⟩
 have hsz : hi <= wr.heap.size := Nat.le_trans c.hsz hp.turn.size
 have hfr := hp'.fr
 rw [m4] at hfr
 have := c.ih (wr.alloc o) v k lo hi H ro1 db fb fg _ _ (ht.below (below_new' wr o) (by omega)) (by simp; omega) (fun b hb => by
  rcases hp.from' b hb with h1 | h1
  ·exact c.hro b h1
  ·have := c.hsz; omega) c.hfb hp'.doc hfr m5 hp.fz1 m1 m2 (.inr m3) c.hl (c.ok k (List.mem_of_getElem? hk))
 rw [<- m4, List.drop_drop, <- (take_sum LL j hk).2] at this
 have e : growK (growD n) H (LL.take (j + 1)) E0 = ((growD n k H (growK (growD n) H (LL.take j) E0).1).1, (growK (growD n) H (LL.take j) E0).2 ++ [(growD n k H (growK (growD n) H (LL.take j) E0).1).2]) := by rw [take_more hk, growK_snoc]
 rw [e]
 exact this
theorem GS.kept (s : GS w ro db fb fg n H E0 m LL base j q kn wr) {ro1 : Nat -> Nat} {o : Obj} {w9 : World} {E : Dc} {F : List Nat} {ro2 : Nat -> Nat} (hb : w.heap.size <= base) (hq : ∀ b, q.ownBlock = some b -> ro1 b = 0) (hfl : fb < w.heap.size) (hg : PG (wr.alloc o) ro1 db fb fg E F w9 ro2) :
  w9.ownsRow base 32 1 q kn (hvals (growK (growD n) H (LL.take j) E0).2) /\ ∀ b, q.ownBlock = some b -> ro2 b = 0 := by
 have h0 := own_after s.row (below_new' wr o)
 refine ⟨own_of_block h0 (fun b hb' => hg.turn.block b (own_block_lt h0 b hb').2 (fun e => ?_)), fun b hb' => ?_⟩
 ·rcases e with e | e
  ·exact e (hq b hb')
  ·have := (own_block_lt h0 b hb').1
   omega
 ·by_cases e : ro2 b = 0
  ·exact e
  ·rcases hg.from' b e with h1 | h1
   ·exact absurd (hq b hb') h1
   ·have := (own_block_lt h0 b hb').2
    omega
theorem GS.more (c : GC w ro db fb fg n H E0 m lo hi ka LL) (hb : w.heap.size <= base) {k : T n} (hk : LL[j]? = some k) {ro1 ro2 : Nat -> Nat} {w8 w9 w10 w11 : World} {q' : Value} {hh : Nat} (hln : (growK (growD n) H (LL.take j) E0).2.length = kn) (h8 : PG w ro db fb fg (growK (growD n) H (LL.take j) E0).1 (((frL E0).take m).drop ((LL.take j).map (ndT n)).sum) w8 ro1)
  (h9 : PG w8 ro1 db fb fg (growK (growD n) H (LL.take (j + 1)) E0).1 (((frL E0).take m).drop ((LL.take (j + 1)).map (ndT n)).sum) w9 ro2) (hhh : hh = (growD n k H (growK (growD n) H (LL.take j) E0).1).2) (hq : ∀ b, q.ownBlock = some b -> ro2 b = 0 /\ base <= b) (h10 : Below w9.heap.size w9 w10) (hg : w10.grownBy w11 q.ownBlock) (hrow : w11.ownsRow base 32 1 q' (kn + 1) (hvals (growK (growD n) H (LL.take j) E0).2 ++ [.int .u64 (hh : Int)])) (hat : q'.ownBlock = q.ownBlock \/ q'.ownBlock = some w10.heap.size) :
  GS w ro db fb fg n H E0 m LL base (j + 1) q' (kn + 1) w11 := by
 have e : growK (growD n) H (LL.take (j + 1)) E0 = ((growD n k H (growK (growD n) H (LL.take j) E0).1).1, (growK (growD n) H (LL.take j) E0).2 ++ [(growD n k H (growK (growD n) H (LL.take j) E0).1).2]) := by rw [take_more hk, growK_snoc]
 have hp := ((h8.trans h9).below h10).grown hg (fun b hb' => ⟨(hq b hb').1, by have := (hq b hb').2; omega⟩)
 refine ⟨by rw [e]; simp [hln], ⟨ro2, hp, fun b hb' => ?_⟩, ?_⟩
 ·rcases hat with h1 | h1
  ·exact (hq b (h1 ▸ hb')).1
  ·rw [h1] at hb'
   cases hb'
   by_cases e : ro2 w10.heap.size = 0
   ·exact e
   ·obtain ⟨sa, scap, ra, rcap, L, hd⟩ := ((h8.trans h9).below h10).doc
    have := hd.lt _ e
    omega
 ·rw [e]
  show w11.ownsRow base 32 1 q' (kn + 1) (hvals ((growK (growD n) H (LL.take j) E0).2 ++ [(growD n k H (growK (growD n) H (LL.take j) E0).1).2]))
  rw [hvals_append, <- hhh]
  exact hrow
end
theorem grow_oe (n : Nat) (ih : GrowAll n) (w : World) (v : Array Value) (t : Nd (T n)) (lo hi p : Nat) (ro : Nat -> Nat) (db fb fg m : Nat) (D : Dc) (h : TreeAt w lo hi (n + 1) v t) (hsz : hi <= w.heap.size) (hro : ∀ b, ro b ≠ 0 -> ¬ (lo <= b /\ b < hi)) (hfb : hi <= fb) (hd : PDoc w ro db D) (hfr : FrAt w fb fg ((frL D).take m)) (hm : ndT (n + 1) t <= m) (hz : ro fb = 0 /\ ro fg = 0)
  (hs : Sane D) (hc : cnt takenB D.S + ndT (n + 1) t <= 4096) (hp : p = 0 \/ ∃ q, sl D p = some q) (hpl : p < 18446744073709551616) (hok : okT (n + 1) t) (hnew : (freeD D).1 < D.S.length) (hkd : t.kind ≠ 2) :
  Calls Tryz.prog 46 #[.pointer (some ⟨db, 0, none⟩), .agg v, .int .u64 (p : Int), .func (.func 47) #[] #[.pointer (some ⟨fb, 0, none⟩)]] w (GrowP w ro db fb fg (growD (n + 1) t p D).1 (growD (n + 1) t p D).2 (((frL D).take m).drop (ndT (n + 1) t))) := by
 obtain ⟨a, ac, ka, kc, rfl, hal, hkl, hac, hkc, hat, hkt⟩ := id h
 unfold tv at h ⊢
 obtain ⟨ho, hkk⟩ := hok
 obtain ⟨ka', kc', hk1, -, hkat, hkm⟩ := h.kids ho
 have hko := fun W => kidsOf_any W t.kind t.name a t.attrs.length ac t.text ka t.kids.length kc
 rw [hk1] at hko
 unfold maxK at hkm
 have hndt : ndT (n + 1) t = ((kidsT t).map (ndT n)).sum + 1 := rfl
 have hc1 : cnt takenB D.S + 1 <= 4096 := by omega
 have hfs := frL_seed hs hc1 t p
 obtain ⟨f1, f2, f3, f4, f5, f6, ⟨s0, f7, f8, f9, f10⟩, f11, f12⟩ := free_facts hs hc1
 obtain ⟨q1, q2, q3, q4, q5, q6, q7, q8, q9, q10⟩ := seed_facts hs hc1 t p ho
 have hEI := (show (growK (growD n) (seedH D) (kidsT t) (seed D t p)).1.S[(freeD D).1]? = some (mkS (genAt (freeD D).2 (freeD D).1 + 1) t p []) by
  obtain ⟨N, gg⟩ := growK_spec n (kidsT t) (seedH D) (seed D t p) q1 (by rw [q3]; omega) (.inr ⟨_, by unfold sl; rw [q6]; exact q7⟩) hkk
  exact (Grown.node hs hc1 t p hp ho gg (fun h2 => by have e0 : kidsT t = [] := (by unfold kidsT; rw [if_neg (by omega)]); rw [e0]; rfl)).2.2.2)
 obtain ⟨m', rfl⟩ : ∃ m', m = m' + 1 := ⟨m - 1, by omega⟩
 rw [hfs, List.take_succ_cons] at hfr
 have HG : Hid (growD (n + 1) t p D = (setKI (growK (growD n) (seedH D) (kidsT t) (seed D t p)).1 (freeD D).1 (growK (growD n) (seedH D) (kidsT t) (seed D t p)).2, seedH D)) := rfl
 have HDR : Hid (((frL D).take (m' + 1)).drop (ndT (n + 1) t) = ((frL (seed D t p)).take m').drop ((kidsT t).map (ndT n)).sum) := by show _ = _; rw [hfs, List.take_succ_cons, hndt, List.drop_succ_cons]
 rw [HG.out, HDR.out]
 have hD2 : (freeD D).2 = D := by
  unfold freeD at hnew ⊢
  cases hi : D.S.findIdx? freeB with
  | some i => rfl
  | none => rw [hi] at hnew; simp at hnew
 have hseed : seed D t p = { (freeD D).2 with S := (freeD D).2.S.set (freeD D).1 (mkS (genAt (freeD D).2 (freeD D).1 + 1) t p []) } := rfl
 have hH : seedH D = hnd (freeD D).1 (genAt (freeD D).2 (freeD D).1 + 1) := rfl
 rw [hD2] at hseed hH f3 f4 f5 f6 f7 f10 hEI
 generalize hi0 : (freeD D).1 = i at *
 have hil : i < 4096 := by omega
 have HSEED : Hid (seed D t p = { D with S := D.S.set i (mkS (genAt D i + 1) t p []) }) := hseed
 have HH : Hid (seedH D = hnd i (genAt D i + 1)) := hH
 have HGEN : Hid (s0.gen = genAt D i) := f10
 have Hq1 : Hid (Sane (seed D t p)) := q1
 have Hq3 : Hid (cnt takenB (seed D t p).S = cnt takenB D.S + 1) := q3
 have Hq6 : Hid (atI (seed D t p).S (seedH D) = some i) := q6
 have Hq7 : Hid ((seed D t p).S[i]? = some (mkS (genAt D i + 1) t p [])) := by rw [hD2] at q7; exact q7
 have Hf7 : Hid (D.S[i]? = some s0) := f7
 have HEI : Hid ((growK (growD n) (seedH D) (kidsT t) (seed D t p)).1.S[i]? = some (mkS (genAt D i + 1) t p [])) := hEI
 have Hf8 : Hid (s0.live = false) := f8
 have Hfs : Hid (frL D = i :: frL (seed D t p)) := hfs
 have hgl : s0.gen + 1 < 4294967296 := by omega
 have hHl : seedH D < 18446744073709551616 := q10
 have HOK : Hid (∀ k ∈ kidsT t, okT n k) := hkk
 have HKT : Hid (KidsAt w lo hi n ka' (kidsT t)) := hkat
 have HAT : Hid (AttrsAt w lo hi a t.attrs) := hat
 have HC : Hid (cnt takenB D.S + ((kidsT t).map (ndT n)).sum + 1 <= 4096) := by show _ <= _; omega
 have HM : Hid (((kidsT t).map (ndT n)).sum <= m') := by show _ <= _; omega
 have HIH : Hid (GrowAll n) := ih
 have HRO : Hid (∀ b, ro b ≠ 0 -> ¬ (lo <= b /\ b < hi)) := hro
 have HZ : Hid (ro fb = 0 /\ ro fg = 0) := hz
 have HOWN : Hid (ownE t = 0) := ho
 have heg : ∀ args w, (callFunc 47 args).run Tryz.prog w = .ok (.enter 47 args) w := enters_of Tryz.func47 (by kernel_rfl) rfl
 have heg2 : ∀ args w, (callFunc 46 args).run Tryz.prog w = .ok (.enter 46 args) w := enters_of Tryz.func46 (by kernel_rfl) rfl
 have hnx := next_any (w.alloc (.cells #[.int .i64 t.kind, .string t.name, .slice a t.attrs.length ac, .string t.text, .slice ka t.kids.length kc] 35)) fb fg i _ (hfr.of_blocks (Below.heap_alloc _ _ _ hfr.lt.1) (Below.heap_alloc _ _ _ hfr.lt.2) (by simp))
 have HD : Hid (PDoc w ro db D) := hd
 have HLT : Hid (∀ b, ro b ≠ 0 -> b < w.heap.size) := hd.view.lt
 have hdbw : db < w.heap.size := hd.view.lt db hd.view.docs
 have hclv : cnt Sl.live D.S <= 4096 := Nat.le_trans (List.length_filter_le _ _) f4
 have HFR : Hid (FrAt w fb fg (i :: (frL (seed D t p)).take m')) := hfr
 have HS : Hid (Sane D) := hs
 have HBX : Hid (Below w.heap.size w (w.alloc (.cells #[.int .i64 t.kind, .string t.name, .slice a t.attrs.length ac, .string t.text, .slice ka t.kids.length kc] 35))) := below_new' w _
 have HBC : Hid (IsCells (w.alloc (.cells #[.int .i64 t.kind, .string t.name, .slice a t.attrs.length ac, .string t.text, .slice ka t.kids.length kc] 35)) w.heap.size #[.int .i64 t.kind, .string t.name, .slice a t.attrs.length ac, .string t.text, .slice ka t.kids.length kc]) := isCells_new w _ _
 clear hd hfr hs hseed hH f2 f3 f4 f5 f6 f7 f8 f9 f10 f11 f12 q1 q2 q3 q4 q5 q6 q7 q8 q9 q10 hfs hD2 hkk hkat hat hkt hk1 h ih hro hz hc hc1 hm HG HDR hndt ho hp hi0 hEI
 generalize hE0 : seed D t p = E0 at *
 generalize hH0 : seedH D = H at *
 clear hE0 hH0
 go_enter Tryz.func46, Tryz.ntmps46
 go_wp2_with fail
 refine hnx.mono ?_
 rintro e w1 hn1
 obtain ⟨rfl, hfr1, htn⟩ := id hn1
 have HP1 : Hid (PG w ro db fb fg D ((frL E0).take m') w1 ro) := ((PG.start HD.out HFR.out HZ.out).below HBX.out).trans (PG.next (HD.out.turn (A := fun _ => False) ((Turn.refl _ _).then HBX.out (Nat.le_refl _)) (fun _ _ => not_false)) HZ.out ⟨by have := HFR.out.lt; simp; omega, by have := HFR.out.lt; simp; omega⟩ hn1)
 have hbx : Hid (IsCells w1 w.heap.size #[.int .i64 t.kind, .string t.name, .slice a t.attrs.length ac, .string t.text, .slice ka t.kids.length kc]) := HBC.out.of_block (htn.block _ (by simp) (by have := HFR.out.lt; omega))
 have hw1 : w.heap.size < w1.heap.size := by have := htn.size; simp at this; omega
 clear hfr1 htn hnx hn1 HD HFR HBX HBC
 obtain ⟨sa, scap, ra, rcap, L, hpd⟩ := HP1.out.doc
 obtain ⟨g, q, rfl, hg2, hLq, hlc, hdc, hcells⟩ := hpd.slot Hf7.out
 have hc0 : w1.cell? ⟨g, i * 8, none⟩ = some (.int .u32 (s0.gen : Int)) := (hcells 0 _ rfl).1
 have hgl1 : g < w1.heap.size := hpd.lt g (by omega)
 have hdbl : db < w1.heap.size := hpd.lt db (by rw [hpd.rdb]; omega)
 have HPD : Hid (PdS w1 ro db D (some ⟨g, 0, none⟩) scap ra rcap L) := hpd
 have hne : ((i : Int) == (D.S.length : Int)) = false := by simp; omega
 have hix : (i : Int) < (D.S.length : Int) := by omega
 clear hcells hpd hLq
 go_wp2_with fail
 have hha : Calls Tryz.prog 82 #[.int .i64 (i : Int), .int .u32 ((s0.gen : Int) + 1)] w1 (fun e w' => e = .returned (.int .u64 (H : Int)) /\ w' = w1) := by
  have := handle_any w1 i (s0.gen + 1) (by omega) hgl
  rw [HH.out, <- HGEN.out]
  exact this
 refine hha.mono ?_
 rintro e w2 ⟨rfl, rfl⟩
 clear hha
 have hb0 := hbx.out.cell 0
 have hb1 := hbx.out.cell 1
 have hb2 := hbx.out.cell 2
 have hb3 := hbx.out.cell 3
 have hb4 := hbx.out.cell 4
 simp at hb0 hb1 hb2 hb3 hb4
 have hkb : (t.kind == 2) = false := beq_eq_false_iff_ne.2 hkd
 have hk32 : t.attrs.length <= 32 := by
  have := HOWN.out
  unfold ownE at this
  rw [if_neg hkd] at this
  by_cases e : t.kind = 1
  ·rw [if_pos e] at this
   split at this
   ·unfold attrsE at this
    split at this
    ·cases this
    ·omega
   ·cases this
  ·rw [if_neg e] at this
   cases this
 obtain ⟨W0, hW0⟩ : ∃ W0, W0 = w2.alloc (.cells #[.int .u32 ((s0.gen : Int) + 1), .bool true, .int .i64 t.kind, .string ⟨#[]⟩, .slice none 0 0, .string ⟨#[]⟩, .int .u64 (p : Int), .slice none 0 0] 90) := ⟨_, rfl⟩
 have HB0 : Hid (Below w2.heap.size w2 W0) := by rw [hW0]; exact below_new' w2 _
 have hs0 : W0.heap.size = w2.heap.size + 1 := by rw [hW0]; simp
 have HX2 : Hid (IsCells W0 w2.heap.size #[.int .u32 ((s0.gen : Int) + 1), .bool true, .int .i64 t.kind, .string ⟨#[]⟩, .slice none 0 0, .string ⟨#[]⟩, .int .u64 (p : Int), .slice none 0 0]) := by rw [hW0]; exact isCells_new w2 _ 90
 have HW0 : Hid (W0 = w2.alloc (.cells #[.int .u32 ((s0.gen : Int) + 1), .bool true, .int .i64 t.kind, .string ⟨#[]⟩, .slice none 0 0, .string ⟨#[]⟩, .int .u64 (p : Int), .slice none 0 0] 90)) := hW0
 have hfr9 := freshA_any W0.drew (fun b => lo <= b /\ b < hi) a t.attrs ac (HAT.out.toR.to (fun _ h => h) (fun b o hb => by
  have e1 : w2.cell? ⟨b, o, none⟩ = w.cell? ⟨b, o, none⟩ := World.cell?_of_block (w := w) (a := ⟨b, o, none⟩) (HP1.out.turn.block b (by omega) (fun e => by
   rcases e with e | e
   ·have := HRO.out b e; omega
   ·omega))
  exact ((HB0.out.drew.cell (p := ⟨b, o, none⟩) (show b < w2.heap.size by omega))).trans e1)) (by omega)
 clear hW0
 go_wp2_with fail
 rw [<- HW0.out]
 have hc2 := HX2.out.cell
 have hf2 := HX2.out.frozen
 have hwl : w.heap.size < W0.heap.size := by omega
 have hwn1 : ¬ w.heap.size = w2.heap.size := by omega
 have hwn2 : ¬ w2.heap.size = w.heap.size := by omega
 have q1 : W0.drew.cell? ⟨w.heap.size, 1, none⟩ = some (.string t.name) := (HB0.out.cell (p := ⟨w.heap.size, 1, none⟩) hw1).trans hb1
 have q2 : W0.drew.cell? ⟨w.heap.size, 2, none⟩ = some (.slice a t.attrs.length ac) := (HB0.out.cell (p := ⟨w.heap.size, 2, none⟩) hw1).trans hb2
 go_region_held3 (fun W => W.cell? ⟨w.heap.size, 1, none⟩ = some (.string t.name) /\ W.cell? ⟨w.heap.size, 2, none⟩ = some (.slice a t.attrs.length ac)) (go_keep)
  (first | (go_at_call 83; refine hfr9.mono ?_; rintro e w3 ⟨va, vc, rfl, hown, hb⟩; have r1 := (hb.cell (p := ⟨w.heap.size, 1, none⟩) (by show w.heap.size < W0.heap.size; omega)).trans q1; have r2 := (hb.cell (p := ⟨w.heap.size, 2, none⟩) (by show w.heap.size < W0.heap.size; omega)).trans q2; have HIC : Hid (IsCells w3 w2.heap.size #[.int .u32 ((s0.gen : Int) + 1), .bool true, .int .i64 t.kind, .string ⟨#[]⟩, .slice none 0 0, .string ⟨#[]⟩, .int .u64 (p : Int), .slice none 0 0]) := HX2.out.of_block (hb.block w2.heap.size (by show w2.heap.size < W0.heap.size; omega)); have y3 : w3.cell? ⟨w2.heap.size, 3, none⟩ = some (.string ⟨#[]⟩) := HIC.out.cell 3; have y4 : w3.cell? ⟨w2.heap.size, 4, none⟩ = some (.slice none 0 0) := HIC.out.cell 4; have z3 := HIC.out.frozen 3; have z4 := HIC.out.frozen 4; have HO : Hid (w3.ownsRow W0.heap.size 52 2 (.slice va t.attrs.length vc) t.attrs.length (attrCells t.attrs)) := hown; have HB3 : Hid (Below w2.heap.size w2 w3) := HB0.out.drew.trans (hb.mono (by show w2.heap.size <= W0.heap.size; omega)); have hs1 : W0.heap.size <= w3.heap.size := hb.size; clear hown hb q1 q2 hc2 hf2 hfr9))
 obtain ⟨al, hav⟩ : ∃ al, al = t.attrs.length := ⟨_, rfl⟩
 rw [<- hav] at HO
 rw [<- hav]
 obtain ⟨w4, hw4⟩ : ∃ w4, w4 = (w3.setCell ⟨w2.heap.size, 3, none⟩ (.string t.name)).setCell ⟨w2.heap.size, 4, none⟩ (.slice va al vc) := ⟨_, rfl⟩
 rw [<- hw4]
 have HI4 : Hid (IsCells w4 w2.heap.size #[.int .u32 ((s0.gen : Int) + 1), .bool true, .int .i64 t.kind, .string t.name, .slice va al vc, .string ⟨#[]⟩, .int .u64 (p : Int), .slice none 0 0]) := by
  show IsCells _ _ _
  rw [hw4]
  have := (HIC.out.set 3 (.string t.name)).set 4 (.slice va al vc)
  simpa using this
 have HT4 : Turn (fun b => b = w2.heap.size) w3 w4 := by
  rw [hw4]
  exact ((Turn.refl _ _).setCell (A := fun b => b = w2.heap.size) (p := ⟨w2.heap.size, 3, none⟩) rfl _).setCell (A := fun b => b = w2.heap.size) (p := ⟨w2.heap.size, 4, none⟩) rfl _
 have HB4 : Hid (Below w2.heap.size w2 w4) := HB3.out.trans (HT4.below (by omega) (fun k hk => by omega))
 have HO4 : Hid (w4.ownsRow w2.heap.size 52 2 (.slice va al vc) (mkS (genAt D i + 1) t p []).attrs.length (attrCells (mkS (genAt D i + 1) t p []).attrs)) := by
  have e : (mkS (genAt D i + 1) t p []).attrs = t.attrs := by show (if t.kind = 2 then [] else t.attrs) = _; rw [if_neg hkd]
  rw [e, <- hav]
  have h1 := own_of_block HO.out (fun k hk => HT4.block k (own_block_lt HO.out k hk).2 (by have := (own_block_lt HO.out k hk).1; omega))
  exact own_base h1 (fun k hk => by have := (own_block_lt HO.out k hk).1; omega)
 have HNM : Hid ((mkS (genAt D i + 1) t p []).name = t.name) := by show (if t.kind = 2 then _ else t.name) = _; rw [if_neg hkd]
 have HTX : Hid ((mkS (genAt D i + 1) t p []).text = ⟨#[]⟩) := by show (if t.kind = 2 then _ else _) = _; rw [if_neg hkd]
 clear hav hw4 HT4 HO HIC HB3 r1 r2 y3 y4 z3 z4 hs1 HB0 HX2 HW0 hs0 hwl
 obtain ⟨tn, htn⟩ : ∃ tn, tn = t.name := ⟨_, rfl⟩
 obtain ⟨tx, htx⟩ : ∃ tx, tx = (⟨#[]⟩ : ByteArray) := ⟨_, rfl⟩
 rw [<- htn] at HI4 HNM
 rw [<- htx] at HI4 HTX
 clear htn htx
 obtain ⟨g', q, hgg, hg2, hLq, hlc, hdc, hcells⟩ := HPD.out.slot Hf7.out
 obtain rfl : g = g' := by cases hgg; rfl
 have hi0 := HI4.out.cell 0
 have hi1 := HI4.out.cell 1
 have hi2 := HI4.out.cell 2
 have hi3 := HI4.out.cell 3
 have hi4 := HI4.out.cell 4
 have hi5 := HI4.out.cell 5
 have hi6 := HI4.out.cell 6
 have hi7 := HI4.out.cell 7
 simp at hi0 hi1 hi2 hi3 hi4 hi5 hi6 hi7
 have hdc4 := (HB4.out.cell (p := ⟨db, 0, none⟩) hdbl).trans hdc
 have hx0 := (HB4.out.cell (p := ⟨g, i * 8, none⟩) hgl1).trans (hcells 0 _ rfl).1
 have hx1 := (HB4.out.cell (p := ⟨g, i * 8 + 1, none⟩) hgl1).trans (hcells 1 _ rfl).1
 have hx2 := (HB4.out.cell (p := ⟨g, i * 8 + 2, none⟩) hgl1).trans (hcells 2 _ rfl).1
 have hx3 := (HB4.out.cell (p := ⟨g, i * 8 + 3, none⟩) hgl1).trans (hcells 3 _ rfl).1
 have hx4 := (HB4.out.cell (p := ⟨g, i * 8 + 4, none⟩) hgl1).trans (hcells 4 _ rfl).1
 have hx5 := (HB4.out.cell (p := ⟨g, i * 8 + 5, none⟩) hgl1).trans (hcells 5 _ rfl).1
 have hx6 := (HB4.out.cell (p := ⟨g, i * 8 + 6, none⟩) hgl1).trans (hcells 6 _ rfl).1
 have hx7 := (HB4.out.cell (p := ⟨g, i * 8 + 7, none⟩) hgl1).trans (hcells 7 _ rfl).1
 have hy0 := (HB4.out.frozen (p := ⟨g, i * 8, none⟩) hgl1).trans (hcells 0 _ rfl).2
 have hy1 := (HB4.out.frozen (p := ⟨g, i * 8 + 1, none⟩) hgl1).trans (hcells 1 _ rfl).2
 have hy2 := (HB4.out.frozen (p := ⟨g, i * 8 + 2, none⟩) hgl1).trans (hcells 2 _ rfl).2
 have hy3 := (HB4.out.frozen (p := ⟨g, i * 8 + 3, none⟩) hgl1).trans (hcells 3 _ rfl).2
 have hy4 := (HB4.out.frozen (p := ⟨g, i * 8 + 4, none⟩) hgl1).trans (hcells 4 _ rfl).2
 have hy5 := (HB4.out.frozen (p := ⟨g, i * 8 + 5, none⟩) hgl1).trans (hcells 5 _ rfl).2
 have hy6 := (HB4.out.frozen (p := ⟨g, i * 8 + 6, none⟩) hgl1).trans (hcells 6 _ rfl).2
 have hy7 := (HB4.out.frozen (p := ⟨g, i * 8 + 7, none⟩) hgl1).trans (hcells 7 _ rfl).2
 have hdg : ¬ db = g := fun e => by rw [<- e, HPD.out.rdb] at hg2; cases hg2
 have hgd : ¬ g = db := fun e => hdg e.symm
 have hlv : w2.cell? ⟨db, 2, none⟩ = some (.int .i64 (cnt Sl.live D.S : Int)) := HPD.out.head.cell 2
 have hlv4 := (HB4.out.cell (p := ⟨db, 2, none⟩) hdbl).trans hlv
 have hlf4 := (HB4.out.frozen (p := ⟨db, 2, none⟩) hdbl).trans (HPD.out.head.frozen 2)
 clear hcells hLq hgg hdc hlv hc0
 go_wp2_with fail
 go_region
 obtain ⟨w5, hw5⟩ : ∃ w5, w5 = ((((((((w4.setCell ⟨g, i * 8, none⟩ (.int .u32 ((s0.gen : Int) + 1))).setCell ⟨g, i * 8 + 1, none⟩ (.bool true)).setCell ⟨g, i * 8 + 2, none⟩ (.int .i64 t.kind)).setCell ⟨g, i * 8 + 3, none⟩ (.string tn)).setCell ⟨g, i * 8 + 4, none⟩ (.slice va al vc)).setCell ⟨g, i * 8 + 5, none⟩ (.string tx)).setCell ⟨g, i * 8 + 6, none⟩ (.int .u64 (p : Int))).setCell ⟨g, i * 8 + 7, none⟩ (.slice none 0 0)).drew := ⟨_, rfl⟩
 rw [<- hw5]
 have hw5' : w5 = (plantW w4 g i (mkS (genAt D i + 1) t p []) (.slice va al vc)).drew := by
  rw [hw5]
  unfold plantW
  rw [HNM.out, HTX.out]
  show _ = ((((((((w4.setCell ⟨g, i * 8, none⟩ (.int .u32 ((genAt D i : Int) + 1))).setCell ⟨g, i * 8 + 1, none⟩ (.bool true)).setCell ⟨g, i * 8 + 2, none⟩ (.int .i64 t.kind)).setCell ⟨g, i * 8 + 3, none⟩ (.string tn)).setCell ⟨g, i * 8 + 4, none⟩ (.slice va al vc)).setCell ⟨g, i * 8 + 5, none⟩ (.string tx)).setCell ⟨g, i * 8 + 6, none⟩ (.int .u64 (p : Int))).setCell ⟨g, i * 8 + 7, none⟩ (.slice none 0 0)).drew
  rw [<- HGEN.out]
 obtain ⟨k1, k2, k3⟩ := HPD.out.plant Hf7.out Hf8.out (mkS (genAt D i + 1) t p []) rfl rfl HB4.out HO4.out (Nat.le_refl _)
 rw [<- HSEED.out] at k1
 have hT5 : Turn (fun b => b = g) w4 w5 := by
  rw [hw5']
  exact (Turn.plant (A := fun b => b = g) (g := g) (Turn.refl _ _) (.inl rfl) _ _ _).drew
 have HP6 : Hid (∃ ro6, PG w ro db fb fg E0 ((frL E0).take m') (w5.setCell ⟨db, 2, none⟩ (.int .i64 ((cnt Sl.live D.S : Int) + 1))) ro6) := by
  have h0 := HP1.out.trans (PG.step HP1.out.fz1 HP1.out.fr k2 k1 k3)
  refine ⟨roA ro (2 * i + 4) (.slice va al vc), ?_⟩
  rw [hw5', setCell_drew]
  exact h0.below ((Below.refl _ _).drew)
 have hlv5 := (World.cell?_of_block (w := w4) (w' := w5) (a := ⟨db, 2, none⟩) (hT5.block db (by have := HB4.out.size; omega) hdg)).trans hlv4
 have hlf5 := (World.frozen?_of_block (w := w4) (w' := w5) (a := ⟨db, 2, none⟩) (hT5.block db (by have := HB4.out.size; omega) hdg)).trans hlf4
 have hgw : ¬ w.heap.size = g := fun e => by have := HLT.out g (by omega); omega
 have hdw : ¬ w.heap.size = db := by omega
 have hdw2 : ¬ db = w.heap.size := by omega
 have hbx5 : IsCells w5 w.heap.size #[.int .i64 t.kind, .string t.name, .slice a t.attrs.length ac, .string t.text, .slice ka t.kids.length kc] := (hbx.out.of_block (HB4.out.block _ hw1)).of_block (hT5.block _ (by have := HB4.out.size; omega) hgw)
 have hs5 : w.heap.size < w5.heap.size := by have := hT5.size; have := HB4.out.size; omega
 have hb50 := hbx5.cell 0
 have hb51 := hbx5.cell 1
 have hb52 := hbx5.cell 2
 have hb53 := hbx5.cell 3
 have hb54 := hbx5.cell 4
 simp at hb50 hb51 hb52 hb53 hb54
 have hdb5 : db < w5.heap.size := by omega
 clear hw5 hw5' k1 k2 k3 hT5 hi0 hi1 hi2 hi3 hi4 hi5 hi6 hi7 hx0 hx1 hx2 hx3 hx4 hx5 hx6 hx7 hy0 hy1 hy2 hy3 hy4 hy5 hy6 hy7 hdc4 hlv4 hlf4 HI4 HB4 HO4 HNM HTX HPD hb0 hb1 hb2 hb3 hb4 hbx hbx5 hdbl hgl1 hlc hg2
 go_wp2_with fail
 refine (hko _).mono ?_
 rintro e w7 ⟨rfl, hb7⟩
 obtain ⟨ro6, hp6⟩ := HP6.out
 have HP7 : Hid (PG w ro db fb fg E0 ((frL E0).take m') w7 ro6) := hp6.below hb7
 clear hb7 hp6 HP6 hko hlv5 hlf5 hb50 hb51 hb52 hb53 hb54
 have HGC : Hid (GC w ro db fb fg n H E0 m' lo hi ka' (kidsT t)) := ⟨HIH.out, Hq1.out, by have := Hq3.out; have := HC.out; omega, HM.out, ⟨mkS (genAt D i + 1) t p [], by unfold sl; rw [Hq6.out]; exact Hq7.out⟩, hHl, HOK.out, HKT.out, hsz, HRO.out, hfb⟩
 have hw7 : w.heap.size <= w7.heap.size := HP7.out.turn.size
 have HFL : Hid (fb < w.heap.size) := HP7.out.fbl.1
 have HFB : Hid (∀ k, lo <= k -> k < hi -> ¬ (ro k ≠ 0 \/ k = fb)) := fun k h1 h2 e => by
  rcases e with e | e
  ·have := HRO.out k e; omega
  ·omega
 have HST : Hid (GS w ro db fb fg n H E0 m' (kidsT t) w7.heap.size 0 (.slice none 0 0) 0 w7) := ⟨rfl, ⟨ro6, by rw [List.take_zero, List.map_nil, List.sum_nil, List.drop_zero]; exact HP7.out, fun b hb => by cases hb⟩, own_nil _ _ _ _⟩
 generalize kidsT t = LL at *
 clear HP7 HIH Hq1 Hq3 Hq6 Hq7 HOK HC HM HRO HOWN HS Hfs HAT HSEED HGEN Hf7 Hf8 HP1 HZ
 go_wp2
 go_loopw [13, 82] (fun q iv wr => ∃ (j : Nat) (qa : Option Addr) (qc : Nat), j <= LL.length /\ iv = .int .i64 (j : Int) /\ q = .slice qa j qc /\ w7.heap.size <= wr.heap.size /\ Hid (GS w ro db fb fg n H E0 m' LL w7.heap.size j (.slice qa j qc) j wr)) (fun _ iv _ => LL.length - (intOf iv).toNat)
 case atStart => exact ⟨0, none, 0, by omega, rfl, rfl, Nat.le_refl _, HST⟩
 case round =>
  obtain ⟨j, qa, qc, hj, rfl, rfl, hw7r, hgs⟩ := hrel
  clear HST
  obtain ⟨rob, hpb, hqb⟩ := hgs.out.st
  have hwr : w.heap.size <= wr.heap.size := hpb.turn.size
  by_cases hlt : j < LL.length
  ·obtain ⟨k, hk⟩ : ∃ k, LL[j]? = some k := ⟨_, List.getElem?_eq_getElem hlt⟩
   have hkt' := HKT.out.turn hpb.turn hsz HFB.out
   obtain ⟨b, o, kk, nm, a', al', ac', tx', ka2, kl2, kc2, rfl, hb1, hb2, c0, c1, c2, c3, c4, htr⟩ := hkt'.get hk
   have hbr : b < wr.heap.size := by omega
   obtain ⟨ro1, hq1, hpg, hcall⟩ := hgs.out.call HGC.out hk htr (.cells #[.int .i64 kk, .string nm, .slice a' al' ac', .string tx', .slice ka2 kl2 kc2] 35)
   obtain ⟨hh, hhh⟩ : ∃ hh, hh = (growD n k H (growK (growD n) H (LL.take j) E0).1).2 := ⟨_, rfl⟩
   rw [<- hhh] at hcall
   have HHH : Hid (hh = (growD n k H (growK (growD n) H (LL.take j) E0).1).2) := hhh
   have HK : Hid (LL[j]? = some k) := hk
   have HQ1 : Hid (∀ b, (Value.slice qa j qc).ownBlock = some b -> ro1 b = 0) := hq1
   have HPG : Hid (PG w ro db fb fg (growK (growD n) H (LL.take j) E0).1 (((frL E0).take m').drop ((LL.take j).map (ndT n)).sum) (wr.alloc (.cells #[.int .i64 kk, .string nm, .slice a' al' ac', .string tx', .slice ka2 kl2 kc2] 35)) ro1) := hpg
   clear hkt' htr hk hhh hq1 hpg hpb hqb
   go_wp2_with fail
   refine hcall.mono ?_
   rintro e w9 ⟨rfl, ro2, hp9⟩
   obtain ⟨hrow9, hq9⟩ := hgs.out.kept hw7 HQ1.out HFL.out hp9
   have HP9 := hp9
   replace HP9 : Hid _ := HP9
   have HOW : Hid (w9.ownsRow w7.heap.size 32 1 (.slice qa j qc) j (hvals (growK (growD n) H (LL.take j) E0).2)) := hrow9
   have HQ9 : Hid (∀ b, (Value.slice qa j qc).ownBlock = some b -> ro2 b = 0) := hq9
   have hw9 : w7.heap.size <= w9.heap.size := by have := HP9.out.turn.size; simp at this; omega
   have HLN : Hid ((growK (growD n) H (LL.take j) E0).2.length = j) := hgs.out.len
   clear hcall hp9 hrow9 hq9 hgs c0 c1 c2 c3 c4
   have tok : True := trivial
   go_wp2_with (at_builtin; have _t := tok; refine wpList_app rfl _ _ rfl Tryz.underlying56 info42 rfl (by decide) w7.heap.size (.slice qa j qc) j (hvals (growK (growD n) H (LL.take j) E0).2) rfl (own_of_block HOW.out (fun k hk => Below.heap_alloc _ _ _ (own_block_lt HOW.out k hk).2)) (some ⟨w9.heap.size, 0, none⟩) 1 1 [.int .u64 (hh : Int)] rfl rfl (news_new w9 #[.int .u64 (hh : Int)] 32) (by simp [Value.oneCell']) (by unfold maxLen; omega) (by omega) (by simp; omega) ?_; intro v1 w11 hown1 hg1 _ hat1; clear tok _t; obtain ⟨va1, vc1, hv1⟩ := own_slice hown1; subst hv1; have hw11 : w7.heap.size <= w11.heap.size := (by have := hg1.size; simp at this; omega); have HGS : Hid (GS w ro db fb fg n H E0 m' LL w7.heap.size (j + 1) (.slice va1 (j + 1) vc1) (j + 1) w11) := (GS.more HGC.out hw7 HK.out HLN.out HPG.out HP9.out HHH.out (fun b hb => ⟨HQ9.out b hb, (own_block_lt HOW.out b hb).1⟩) (below_new' w9 _) hg1 hown1 hat1); clear hown1 hg1 hat1)
   go_roundw
   case rel => exact ⟨j + 1, va1, vc1, by omega, by go_num, rfl, hw11, HGS⟩
   case measure => simp [intOf]; omega
  ·have hje : j = LL.length := by omega
   subst hje
   have hrow := hgs.out.row
   rw [List.take_length] at hpb hrow
   obtain ⟨sa', scap', ra', rcap', L', hpd'⟩ := hpb.doc
   obtain ⟨g', q', rfl, hg2', hLq', hlc', hdc', hcells'⟩ := hpd'.slot HEI.out
   have hgl' : g' < wr.heap.size := hpd'.lt g' (by omega)
   have hx7 := (hcells' 7 _ rfl).1
   have hy7 := (hcells' 7 _ rfl).2
   have hdr : db < wr.heap.size := hpd'.lt db (by rw [hpd'.rdb]; omega)
   have hix' : (i : Int) < ((growK (growD n) H LL E0).1.S.length : Int) := by have := (List.getElem?_eq_some_iff.1 HEI.out).1; omega
   have hel : (growK (growD n) H LL E0).1.S.length <= 4096 := (by
    obtain ⟨N, gg⟩ := growK_spec n LL H E0 HGC.out.sane (by have := HGC.out.cn; omega) (.inr HGC.out.hh) HGC.out.ok
    exact gg.sane.fits.len)
   obtain ⟨kd, kt⟩ := hpd'.adopt HEI.out (l' := (growK (growD n) H LL E0).2) (v := .slice qa LL.length qc) (base := w7.heap.size) (by rw [growK_len]; exact hrow) hqb
   have HFIN : Hid (∃ ro', PG w ro db fb fg (setKI (growK (growD n) H LL E0).1 i (growK (growD n) H LL E0).2) (((frL E0).take m').drop (LL.map (ndT n)).sum) (wr.setCell ⟨g', i * 8 + 7, none⟩ (.slice qa LL.length qc)) ro') := ⟨_, by
    rw [setKI_some HEI.out]
    exact hpb.adopt kt kd (fun b hb => by
     rcases roA_from hb with h1 | h1
     ·exact .inl h1
     ·exact .inr (Nat.le_trans hw7 (own_block_lt hrow b h1).1))⟩
   generalize (growK (growD n) H LL E0).1.S.length = EL at *
   clear kd kt hpd' hpb hrow hqb hcells' hLq' hgs HEI HGC HKT
   go_wp2
   go_ret
   exact ⟨rfl, HFIN.out⟩
end Go.Proofs.YtmapmkogjhinmaaGreat
