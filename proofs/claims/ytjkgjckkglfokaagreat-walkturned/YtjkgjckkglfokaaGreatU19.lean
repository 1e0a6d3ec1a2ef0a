/- Insert, in plain. -/
import Derived.Test.YtjkgjckkglfokaaGreatU18
import Derived.Test.YtjkgjckkglfokaaGreatU01
namespace Go.Proofs.YtjkgjckkglfokaaGreat.Gr
open Go.RowKit
set_option linter.unusedVariables false
set_option linter.unusedSimpArgs false
def insE (D : Dc) (wh : Int) (a n : Nat) (t : T n) : Int :=
 if isPlaceB wh a = false then 1 else if (chk n t 1 0).2 ≠ 0 then (chk n t 1 0).2 else if (placeE D wh a).2 ≠ 0 then (placeE D wh a).2
 else if 64 < (ups D (placeE D wh a).1).length + htT n t then 32 else if 4096 < cnt takenB D.S + ndT n t then 33 else 0
def insD (D : Dc) (wh : Int) (a n : Nat) (t : T n) : Dc × Nat :=
 if insE D wh a n t = 0 then (putD (growD n t (placeE D wh a).1 D).1 (growD n t (placeE D wh a).1 D).2 (placeE D wh a).1 wh a, (growD n t (placeE D wh a).1 D).2) else (D, 0)
theorem live_of {D : Dc} {a : Nat} (hla : liveB D a = true) : a = 0 \/ ∃ t, sl D a = some t := by
 unfold liveB at hla
 by_cases h0 : a = 0
 ·exact .inl h0
 ·right
  simp [h0] at hla
  obtain ⟨i, hi⟩ := Option.isSome_iff_exists.1 hla
  obtain ⟨t, h1, _⟩ := sl_of_at hi
  exact ⟨t, h1⟩
theorem insE_eq {D : Dc} (hw : WF D) {wh : Int} {a n : Nat} {t : T n} (hpl : isPlaceB wh a = true) (hck : (chk n t 1 0).2 = 0) :
  insE D wh a n t = if liveB D a = false then 8 else if fitsE D (arD D wh a) (htT n t) ≠ 0 then fitsE D (arD D wh a) (htT n t) else if 4096 < cnt takenB D.S + ndT n t then 33 else 0 := by
 unfold insE
 rw [if_neg (by simp [hpl]), if_neg (by simp [hck])]
 cases hla : liveB D a with
 | false =>
  have h0 : a ≠ 0 := fun e => by simp [liveB, e] at hla
  have hn : sl D a = none := by
   cases h : sl D a with
   | none => rfl
   | some t =>
    obtain ⟨j, hj, _⟩ := sl_live h
    simp [liveB, hj] at hla
  have : (placeE D wh a).2 = 8 := by simp [placeE, h0, hn]
  rw [if_pos (by simp [this]), this, if_pos rfl]
 | true =>
  rw [if_neg (show ¬ (true = false) by simp)]
  have hlive := live_of hla
  rcases placeE_err D wh a with he | he | he
  ·obtain ⟨f1, f2, f3, f4⟩ := place_facts hw he hpl
   rw [if_neg (by simp [he]), f3]
   have hno : ¬ ∃ q, sl D (arD D wh a) = some q /\ q.kind = 2 := fun ⟨q, h1, h2⟩ => f1 q (by rw [f3]; exact h1) h2
   unfold fitsE
   rw [if_neg hno]
   by_cases hd : 64 < (ups D (arD D wh a)).length + htT n t
   ·simp [hd]
   ·simp [hd]
  ·exfalso
   unfold placeE at he
   split at he
   ·simp at he
   ·rename_i h0
    obtain ⟨q, hq⟩ := hlive.resolve_left h0
    rw [hq] at he
    simp only at he
    split at he
    ·split at he <;> simp at he
    ·simp at he
  ·rw [if_pos (by simp [he]), he]
   have h0 : a ≠ 0 := fun e => by
    subst e
    simp [placeE] at he
   obtain ⟨q, hq⟩ := hlive.resolve_left h0
   have hk : wh <= 2 /\ q.kind = 2 := by
    unfold placeE at he
    rw [if_neg h0, hq] at he
    simp only at he
    by_cases h1 : wh <= 2
    ·by_cases h2 : q.kind = 2
     ·exact ⟨h1, h2⟩
     ·simp [h1, h2] at he
    ·simp [h1] at he
   have har : arD D wh a = a := by unfold arD; rw [if_neg (by omega)]
   have hf : fitsE D (arD D wh a) (htT n t) = 31 := by
    unfold fitsE
    rw [har, if_pos ⟨q, hq, hk.2⟩]
   rw [if_pos (by rw [hf]; decide), hf]
theorem insE_ok {D : Dc} {wh : Int} {a n : Nat} {t : T n} (h : insE D wh a n t = 0) : isPlaceB wh a = true /\ (chk n t 1 0).2 = 0 /\ (placeE D wh a).2 = 0 /\ (ups D (placeE D wh a).1).length + htT n t <= 64 /\ cnt takenB D.S + ndT n t <= 4096 := by
 unfold insE at h
 split at h
 ·cases h
 ·rename_i h1
  split at h
  ·rename_i h2
   exact absurd h h2
  ·rename_i h2
   split at h
   ·rename_i h3
    exact absurd h h3
   ·rename_i h3
    split at h
    ·cases h
    ·rename_i h4
     split at h
     ·cases h
     ·rename_i h5
      exact ⟨by simpa using h1, by simpa using h2, by simpa using h3, by omega, by omega⟩
theorem ins_grown {D : Dc} (hw : WF D) {wh : Int} {a n : Nat} {t : T n} (h : insE D wh a n t = 0) : ∃ N, Grown D (growD n t (placeE D wh a).1 D).1 (placeE D wh a).1 N [(growD n t (placeE D wh a).1 D).2] (ndT n t) (htT n t) /\
  (∃ s, sl (growD n t (placeE D wh a).1 D).1 (growD n t (placeE D wh a).1 D).2 = some s /\ s.parent = (placeE D wh a).1) := by
 obtain ⟨h1, h2, h3, h4, h5⟩ := insE_ok h
 obtain ⟨o1, o2, o3⟩ := chk_ok n t 1 0 (by omega) (by omega) (by omega) h2
 obtain ⟨N, g⟩ := grow_spec n t (placeE D wh a).1 D hw.sane h5 (placeE_live hw h3).1 o1
 refine ⟨N, g, ?_⟩
 obtain ⟨s, k1, k2⟩ := g.par (growD n t (placeE D wh a).1 D).2 (g.sub _ (by simp))
 refine ⟨s, k1, ?_⟩
 rcases k2 with ⟨_, k3⟩ | ⟨k3, _⟩
 ·exact k3
 ·exact (k3 (by simp)).elim
theorem putD_same {E : Dc} {h p : Nat} {wh : Int} {a : Nat} {s : Sl} (hs : sl E h = some s) (hp : s.parent = p) : putD E h p wh a = setL E p (ins (lst E p) (whereN (lst E p) wh a) h) := by
 unfold putD
 obtain ⟨t, h1, h2⟩ := sl_setL_into (p := p) (l' := ins (lst E p) (whereN (lst E p) wh a) h) hs
 exact setPar_same h1 (h2.trans hp)
theorem WF.insD {D : Dc} (hw : WF D) (wh : Int) (a n : Nat) (t : T n) : WF (insD D wh a n t).1 := by
 unfold Go.Proofs.YtjkgjckkglfokaaGreat.Gr.insD
 split
 ·rename_i h
  obtain ⟨h1, h2, h3, h4, h5⟩ := insE_ok h
  obtain ⟨N, g, s, k1, k2⟩ := ins_grown hw h
  obtain ⟨f1, f2, f3, f4⟩ := place_facts hw h3 h1
  show WF (putD _ _ _ _ _)
  rw [putD_same k1 k2]
  exact hw.ins g (placeE_live hw h3).1 f1 h4
 ·exact hw
end Go.Proofs.YtjkgjckkglfokaaGreat.Gr
/- A tree made, and the children of a node that stands already set: in either order. -/
namespace Go.Proofs.YtjkgjckkglfokaaGreat.Gr
open Go.RowKit
set_option linter.unusedVariables false
set_option linter.unusedSimpArgs false
theorem setKI_get {D : Dc} {i : Nat} {s : Sl} (h : D.S[i]? = some s) (l : List Nat) (j : Nat) : (setKI D i l).S[j]? = if j = i then some { s with kids := l } else D.S[j]? := by
 rw [setKI_some h]
 unfold setS
 simp only
 by_cases e : j = i
 ·rw [if_pos e, e, List.getElem?_set_self ((List.getElem?_eq_some_iff.1 h).1)]
 ·rw [if_neg e, List.getElem?_set_ne (Ne.symm e)]
theorem free_ne {D : Dc} {i : Nat} {s : Sl} (h : D.S[i]? = some s) (hl : s.live = true) : i ≠ (freeD D).1 /\ (freeD D).2.S[i]? = some s := by
 have hi := (List.getElem?_eq_some_iff.1 h).1
 unfold freeD
 cases hf : D.S.findIdx? freeB with
 | some k =>
  simp only
  refine ⟨fun e => ?_, h⟩
  subst e
  obtain ⟨h1, h2, _⟩ := List.findIdx?_eq_some_iff_getElem.1 hf
  rw [List.getElem?_eq_getElem h1] at h
  cases h
  unfold freeB at h2
  rw [hl] at h2
  cases h2
 | none =>
  simp only
  exact ⟨by omega, by rw [List.getElem?_append_left hi]; exact h⟩
theorem findIdx_set {S : List Sl} {i : Nat} {s s' : Sl} (h : S[i]? = some s) (hf : freeB s' = freeB s) : (S.set i s').findIdx? freeB = S.findIdx? freeB := by
 induction S generalizing i with
 | nil => rfl
 | cons a r ih =>
  cases i with
  | zero =>
   simp only [List.getElem?_cons_zero, Option.some.injEq] at h
   subst h
   simp only [List.set_cons_zero, List.findIdx?_cons, hf]
  | succ i =>
   simp only [List.getElem?_cons_succ] at h
   simp only [List.set_cons_succ, List.findIdx?_cons, ih h]
theorem free_setKI {D : Dc} {i : Nat} {s : Sl} (h : D.S[i]? = some s) (hl : s.live = true) (l : List Nat) : freeD (setKI D i l) = ((freeD D).1, setKI (freeD D).2 i l) := by
 have hi := (List.getElem?_eq_some_iff.1 h).1
 have hfi : (setKI D i l).S.findIdx? freeB = D.S.findIdx? freeB := by
  rw [setKI_some h]
  exact findIdx_set h rfl
 have hlen : (setKI D i l).S.length = D.S.length := by rw [setKI_some h]; simp [setS]
 unfold freeD
 rw [hfi]
 cases hf : D.S.findIdx? freeB with
 | some k => rfl
 | none =>
  simp only [hlen]
  have h2 : ({ D with S := D.S ++ [zeroSl 0] } : Dc).S[i]? = some s := by
   show (D.S ++ [zeroSl 0])[i]? = _
   rw [List.getElem?_append_left hi]
   exact h
  rw [setKI_some h2, setKI_some h]
  unfold setS
  simp only
  rw [List.set_append_left _ _ hi]
theorem genAt_setKI {D : Dc} {i : Nat} {s : Sl} (h : D.S[i]? = some s) (l : List Nat) (j : Nat) : genAt (setKI D i l) j = genAt D j := by
 unfold genAt
 rw [setKI_get h]
 by_cases e : j = i
 ·rw [if_pos e, e, h]
 ·rw [if_neg e]
theorem seed_setKI {α : Type} {D : Dc} {i : Nat} {s : Sl} (h : D.S[i]? = some s) (hl : s.live = true) (l : List Nat) (t : Nd α) (p : Nat) : seed (setKI D i l) t p = setKI (seed D t p) i l /\ seedH (setKI D i l) = seedH D /\ (seed D t p).S[i]? = some s := by
 obtain ⟨h1, h2⟩ := free_ne h hl
 have hsi : (seed D t p).S[i]? = some s := by
  show ((freeD D).2.S.set (freeD D).1 _)[i]? = _
  rw [List.getElem?_set_ne (Ne.symm h1)]
  exact h2
 refine ⟨?_, ?_, hsi⟩
 ·unfold seed
  rw [free_setKI h hl]
  simp only
  rw [genAt_setKI h2, setKI_some h2, setKI_some (by exact hsi)]
  unfold setS
  simp only
  rw [List.set_comm _ _ h1]
 ·unfold seedH
  rw [free_setKI h hl]
  simp only
  rw [genAt_setKI h2]
theorem setKI_comm {D : Dc} {i j : Nat} {s : Sl} (h : D.S[i]? = some s) (hne : i ≠ j) (l m : List Nat) : setKI (setKI D i l) j m = setKI (setKI D j m) i l := by
 cases hj : D.S[j]? with
 | none =>
  have h1 : (setKI D i l).S[j]? = none := by rw [setKI_get h, if_neg (Ne.symm hne)]; exact hj
  have e0 : ∀ (E : Dc), E.S[j]? = none -> setKI E j m = E := fun E hE => by unfold setKI; rw [hE]
  rw [e0 _ h1, e0 _ hj]
 | some t =>
  have h1 : (setKI D i l).S[j]? = some t := by rw [setKI_get h, if_neg (Ne.symm hne)]; exact hj
  have h2 : (setKI D j m).S[i]? = some s := by rw [setKI_get hj, if_neg hne]; exact h
  rw [setKI_some h1, setKI_some h2, setKI_some h, setKI_some hj]
  unfold setS
  simp only
  rw [List.set_comm _ _ hne]
theorem setKI_twice {D : Dc} (i : Nat) (l m : List Nat) : setKI (setKI D i l) i m = setKI D i m := by
 cases h : D.S[i]? with
 | none =>
  have e2 : ∀ x, setKI D i x = D := fun x => by unfold setKI; rw [h]
  rw [e2, e2]
 | some s =>
  have h1 : (setKI D i l).S[i]? = some { s with kids := l } := by rw [setKI_get h, if_pos rfl]
  rw [setKI_some h1, setKI_some h, setKI_some h]
  unfold setS
  simp only [List.set_set]
theorem grow_comm : ∀ (n : Nat) (t : T n) (p : Nat) (D : Dc) (i : Nat) (s : Sl) (l : List Nat), D.S[i]? = some s -> s.live = true ->
  (growD n t p D).1.S[i]? = some s /\ growD n t p (setKI D i l) = (setKI (growD n t p D).1 i l, (growD n t p D).2) := by
 intro n
 induction n with
 | zero => intro t; cases t
 | succ n ih =>
  intro t p D i s l h hl
  have hk : ∀ (L : List (T n)) (H : Nat) (D : Dc), D.S[i]? = some s -> (growK (growD n) H L D).1.S[i]? = some s /\ growK (growD n) H L (setKI D i l) = (setKI (growK (growD n) H L D).1 i l, (growK (growD n) H L D).2) := by
   intro L
   induction L with
   | nil => intro H D h; exact ⟨h, rfl⟩
   | cons k r ihl =>
    intro H D h
    obtain ⟨a1, a2⟩ := ih k H D i s l h hl
    obtain ⟨b1, b2⟩ := ihl H (growD n k H D).1 a1
    refine ⟨b1, ?_⟩
    show ((growK (growD n) H r (growD n k H (setKI D i l)).1).1, (growD n k H (setKI D i l)).2 :: (growK (growD n) H r (growD n k H (setKI D i l)).1).2) = _
    rw [a2]
    simp only
    rw [b2]
    rfl
  obtain ⟨s1, s2, s3⟩ := seed_setKI h hl l (show Nd (T n) from t) p
  obtain ⟨c1, c2⟩ := hk (kidsT (show Nd (T n) from t)) (seedH D) (seed D (show Nd (T n) from t) p) s3
  have hne := (free_ne h hl).1
  constructor
  ·show (setKI (growK (growD n) (seedH D) (kidsT t) (seed D t p)).1 (freeD D).1 _).S[i]? = some s
   cases hx : (growK (growD n) (seedH D) (kidsT t) (seed D t p)).1.S[(freeD D).1]? with
   | none =>
    unfold setKI
    rw [hx]
    exact c1
   | some x =>
    rw [setKI_get hx, if_neg hne]
    exact c1
  ·have hf : (freeD (setKI D i l)).1 = (freeD D).1 := by rw [free_setKI h hl]
   show (setKI (growK (growD n) (seedH (setKI D i l)) (kidsT t) (seed (setKI D i l) t p)).1 (freeD (setKI D i l)).1 (growK (growD n) (seedH (setKI D i l)) (kidsT t) (seed (setKI D i l) t p)).2, seedH (setKI D i l)) = (setKI (setKI (growK (growD n) (seedH D) (kidsT t) (seed D t p)).1 (freeD D).1 (growK (growD n) (seedH D) (kidsT t) (seed D t p)).2) i l, seedH D)
   rw [s1, s2, hf, c2]
   simp only
   rw [setKI_comm c1 hne]
end Go.Proofs.YtjkgjckkglfokaaGreat.Gr
/- The document's documents while a tree is made: each slot with blocks of its own. -/
namespace Go.Proofs.YtjkgjckkglfokaaGreat.Gr
open Go.RowKit
set_option linter.unusedVariables false
set_option linter.unusedSimpArgs false
structure RdM (w : World) (base : Nat) (Q : Nat -> Nat -> Prop) (rb : Nat) (D : Dc) (g cap : Nat) (ra : Option Addr) (rcap : Nat) (L : List (Value × Value)) : Prop where
 head : IsCells w rb #[.slice (some ⟨g, 0, none⟩) D.S.length cap, .slice ra D.roots.length rcap]
 own : w.ownsRow base 100 8 (.slice (some ⟨g, 0, none⟩) D.S.length cap) D.S.length (rowOf D.S L)
 len : L.length = D.S.length
 vals : ∀ (i : Nat) (s : Sl) (p : Value × Value), D.S[i]? = some s -> L[i]? = some p -> SlotVals w (Q (i + 1)) s p
 roots : HandsAt w (Q 0) ra D.roots
 rlen : D.roots.length <= rcap
 qne : ∀ k b, Q k b -> b ≠ g /\ b < w.heap.size
 nrb : ∀ k, ¬ Q k rb
 rbl : rb < base
def setQ (Q : Nat -> Nat -> Prop) (k : Nat) (R : Nat -> Prop) (j : Nat) (b : Nat) : Prop := (j = k /\ R b) \/ (j ≠ k /\ Q j b)
theorem setQ_same {Q : Nat -> Nat -> Prop} {k : Nat} {R : Nat -> Prop} {b : Nat} : setQ Q k R k b ↔ R b := by simp [setQ]
theorem setQ_other {Q : Nat -> Nat -> Prop} {k j : Nat} {R : Nat -> Prop} {b : Nat} (h : j ≠ k) : setQ Q k R j b ↔ Q j b := by simp [setQ, h]
section
variable {w w' : World} {base : Nat} {Q : Nat -> Nat -> Prop} {rb : Nat} {D : Dc} {g cap : Nat} {ra : Option Addr} {rcap : Nat} {L : List (Value × Value)}
theorem RdS.toM {Q : Nat -> Prop} (h : RdS w base Q rb D g cap ra rcap L) : RdM w base (fun _ => Q) rb D g cap ra rcap L :=
 ⟨h.head, h.own, h.len, h.vals, h.roots, h.rlen, fun _ b hb => h.qne b hb, fun _ => h.nrb, h.rbl⟩
theorem RdM.toS (h : RdM w base Q rb D g cap ra rcap L) : RdS w base (fun b => ∃ k, Q k b) rb D g cap ra rcap L :=
 ⟨h.head, h.own, h.len, fun i s p hs hp => (h.vals i s p hs hp).to (fun b hb => ⟨_, hb⟩) (fun _ _ _ => rfl), h.roots.to (fun b hb => ⟨_, hb⟩) (fun _ _ _ => rfl), h.rlen, fun b ⟨k, hb⟩ => h.qne k b hb, fun ⟨k, hb⟩ => h.nrb k hb, h.rbl⟩
theorem RdM.turn {A : Nat -> Prop} (h : RdM w base Q rb D g cap ra rcap L) (ht : Turn A w w') (hA : ∀ k b, Q k b -> ¬ A b) (hr : ¬ A rb) (hg : ¬ A g) : RdM w' base Q rb D g cap ra rcap L := by
 have hgb := h.toS.gb
 have hc : ∀ k b o, Q k b -> w'.cell? ⟨b, o, none⟩ = w.cell? ⟨b, o, none⟩ := fun k b o hb => World.cell?_of_block (w := w) (a := ⟨b, o, none⟩) (ht.block b (h.qne k b hb).2 (hA k b hb))
 exact ⟨h.head.of_block (ht.block rb h.head.lt hr), own_of_block h.own (fun k hk => by cases hk; exact ht.block g hgb.2 hg), h.len, fun i s p hs hp => (h.vals i s p hs hp).to (fun _ h => h) (fun b o hb => hc _ b o hb), h.roots.to (fun _ h => h) (fun b o hb => hc _ b o hb), h.rlen, fun k b hb => ⟨(h.qne k b hb).1, Nat.lt_of_lt_of_le (h.qne k b hb).2 ht.size⟩, h.nrb, h.rbl⟩
theorem RdM.below (h : RdM w base Q rb D g cap ra rcap L) (hb : Below w.heap.size w w') : RdM w' base Q rb D g cap ra rcap L := h.turn (below_turn hb) (fun _ _ _ h => h) (fun h => h) (fun h => h)
theorem RdM.cell (h : RdM w base Q rb D g cap ra rcap L) {i j : Nat} {s s' : Sl} {p p' : Value × Value} {u : Value} {R : Nat -> Prop} (hs : D.S[i]? = some s) (hp : L[i]? = some p) (hj : j < 8) (hc : slotCells s' p' = (slotCells s p).set j u) (hv : SlotVals w R s' p') (hR : ∀ b, R b -> b ≠ g /\ b < w.heap.size /\ b ≠ rb) :
  RdM (w.setCell ⟨g, i * 8 + j, none⟩ u) base (setQ Q (i + 1) R) rb { D with S := D.S.set i s' } g cap ra rcap (L.set i p') := by
 have hgb := h.toS.gb
 have hrb := h.rbl
 have hcell : ∀ b o, b ≠ g -> (w.setCell ⟨g, i * 8 + j, none⟩ u).cell? ⟨b, o, none⟩ = w.cell? ⟨b, o, none⟩ := fun b o hb => World.cell?_of_block (w := w) (a := ⟨b, o, none⟩) (Below.heap_setCell _ _ _ _ hb)
 have hi := (List.getElem?_eq_some_iff.1 hs).1
 have hsz : (w.setCell ⟨g, i * 8 + j, none⟩ u).heap.size = w.heap.size := by simp [World.setCell]
 refine ⟨?_, ?_, by simp [h.len], fun k x y hx hy => ?_, h.roots.to (fun b hb => (setQ_other (by omega)).2 hb) (fun b o hb => hcell b o (h.qne _ b hb).1), h.rlen, fun k b hb => ?_, fun k hb => ?_, h.rbl⟩
 ·have := h.head.other (a := ⟨g, i * 8 + j, none⟩) (by show rb ≠ g; omega) u
  simpa using this
 ·have := own_set h.own (i * 8 + j) u
  rw [<- rowOf_set h.len hs hp hj hc] at this
  simpa using this
 ·by_cases hk : k = i
  ·subst hk
   rw [List.getElem?_set_self hi] at hx
   rw [List.getElem?_set_self (by rw [h.len]; exact hi)] at hy
   cases hx
   cases hy
   exact hv.to (fun b hb => setQ_same.2 hb) (fun b o hb => hcell b o (hR b hb).1)
  ·rw [List.getElem?_set_ne (by omega)] at hx hy
   exact (h.vals k x y hx hy).to (fun b hb => (setQ_other (by omega)).2 hb) (fun b o hb => hcell b o (h.qne _ b hb).1)
 ·rw [hsz]
  rcases hb with ⟨_, hb⟩ | ⟨_, hb⟩
  ·exact ⟨(hR b hb).1, (hR b hb).2.1⟩
  ·exact h.qne k b hb
 ·rcases hb with ⟨_, hb⟩ | ⟨_, hb⟩
  ·exact (hR rb hb).2.2 rfl
  ·exact h.nrb k hb
theorem RdM.mono {Q' : Nat -> Nat -> Prop} (h : RdM w base Q rb D g cap ra rcap L) (he : ∀ k b, Q k b ↔ Q' k b) : RdM w base Q' rb D g cap ra rcap L :=
 ⟨h.head, h.own, h.len, fun i s p hs hp => (h.vals i s p hs hp).to (fun b hb => (he _ b).1 hb) (fun _ _ _ => rfl), h.roots.to (fun b hb => (he _ b).1 hb) (fun _ _ _ => rfl), h.rlen, fun k b hb => h.qne k b ((he k b).2 hb), fun k hb => h.nrb k ((he k rb).2 hb), h.rbl⟩
theorem RdM.cell' {i : Nat} {s : Sl} {p : Value × Value} {R0 : Nat -> Prop} (h : RdM w base (setQ Q (i + 1) R0) rb { D with S := D.S.set i s } g cap ra rcap (L.set i p)) {j : Nat} {s' : Sl} {p' : Value × Value} {u : Value} {R : Nat -> Prop} (hi : i < D.S.length) (hl : L.length = D.S.length) (hj : j < 8) (hc : slotCells s' p' = (slotCells s p).set j u) (hv : SlotVals w R s' p') (hR : ∀ b, R b -> b ≠ g /\ b < w.heap.size /\ b ≠ rb) :
  RdM (w.setCell ⟨g, i * 8 + j, none⟩ u) base (setQ Q (i + 1) R) rb { D with S := D.S.set i s' } g cap ra rcap (L.set i p') := by
 have h1 := h.cell (i := i) (s := s) (p := p) (List.getElem?_set_self hi) (List.getElem?_set_self (by omega)) hj hc hv hR
 have h2 : RdM (w.setCell ⟨g, i * 8 + j, none⟩ u) base (setQ Q (i + 1) R) rb { D with S := (D.S.set i s).set i s' } g cap ra rcap ((L.set i p).set i p') := h1.mono (fun k b => by
  by_cases e : k = i + 1
  ·subst e
   rw [setQ_same, setQ_same]
  ·rw [setQ_other e, setQ_other e, setQ_other e])
 simpa only [List.set_set] using h2
theorem RdM.plant (h : RdM w base Q rb D g cap ra rcap L) {i : Nat} {s0 : Sl} (hs : D.S[i]? = some s0) (s : Sl) (hk : s.kids = []) {aa : Option Addr} {ac : Nat} {R : Nat -> Prop} (hac : s.attrs.length <= ac) (hv : AttrsR w R aa s.attrs) (hR : ∀ b, R b -> b ≠ g /\ b < w.heap.size /\ b ≠ rb) :
  RdM (plantW w g i s (.slice aa s.attrs.length ac)) base (setQ Q (i + 1) R) rb { D with S := D.S.set i s } g cap ra rcap (L.set i (.slice aa s.attrs.length ac, .slice none 0 0)) := by
 have hi := (List.getElem?_eq_some_iff.1 hs).1
 have hl := h.len
 obtain ⟨p, hp⟩ : ∃ p, L[i]? = some p := ⟨_, List.getElem?_eq_getElem (by rw [h.len]; exact hi)⟩
 have v0 := h.vals i s0 p hs hp
 have hQ : ∀ b, Q (i + 1) b -> b ≠ g /\ b < w.heap.size /\ b ≠ rb := fun b hb => ⟨(h.qne _ b hb).1, (h.qne _ b hb).2, fun e => h.nrb _ (e ▸ hb)⟩
 have hU : ∀ b, (R b \/ Q (i + 1) b) -> b ≠ g /\ b < w.heap.size /\ b ≠ rb := fun b hb => hb.elim (hR b) (hQ b)
 have sz : ∀ (w : World) (k : Nat) (u : Value), (w.setCell ⟨g, k, none⟩ u).heap.size = w.heap.size := fun w k u => by simp [World.setCell]
 have cl : ∀ (w : World) (k : Nat) (u : Value) b o, b ≠ g -> (w.setCell ⟨g, k, none⟩ u).cell? ⟨b, o, none⟩ = w.cell? ⟨b, o, none⟩ := fun w k u b o hb => World.cell?_of_block (w := w) (a := ⟨b, o, none⟩) (Below.heap_setCell _ _ _ _ hb)
 have keep : ∀ (W : World) (k : Nat) (u : Value) (s1 : Sl) (q : Value × Value) (X : Nat -> Prop), (∀ b, X b -> b ≠ g) -> SlotVals W X s1 q -> SlotVals (W.setCell ⟨g, k, none⟩ u) X s1 q := fun W k u s1 q X hX hv => hv.to (fun _ h => h) (fun b o hb => cl W k u b o (hX b hb))
 have keepA : ∀ (W : World) (k : Nat) (u : Value), AttrsR W R aa s.attrs -> AttrsR (W.setCell ⟨g, k, none⟩ u) R aa s.attrs := fun W k u hv => hv.to (fun _ h => h) (fun b o hb => cl W k u b o (hR b hb).1)
 have gQ : ∀ b, Q (i + 1) b -> b ≠ g := fun b hb => (hQ b hb).1
 have gU : ∀ b, (R b \/ Q (i + 1) b) -> b ≠ g := fun b hb => (hU b hb).1
 have like : ∀ (W : World) (X : Nat -> Prop) (s1 s2 : Sl) (q : Value × Value), s2.attrs = s1.attrs -> s2.kids = s1.kids -> SlotVals W X s1 q -> SlotVals W X s2 q := fun W X s1 s2 q e1 e2 hv => by
  obtain ⟨x1, x2, x3, x4, x5, x6, x7, x8, x9⟩ := hv
  exact ⟨x1, x2, x3, x4, by rw [e1, e2]; exact x5, by rw [e1]; exact x6, by rw [e2]; exact x7, by rw [e1]; exact x8, by rw [e2]; exact x9⟩
 have h0 := h.cell (j := 0) (s' := { s0 with gen := s.gen }) (p' := p) (u := .int .u32 (s.gen : Int)) hs hp (by omega) rfl (like _ _ s0 _ _ rfl rfl v0) hQ
 have v1 := keep _ (i * 8 + 0) (.int .u32 (s.gen : Int)) _ _ _ gQ v0
 have a1 := keepA _ (i * 8 + 0) (.int .u32 (s.gen : Int)) hv
 have h1 := h0.cell' (j := 1) (s' := { s0 with gen := s.gen, live := s.live }) (p' := p) (u := .bool s.live) hi hl (by omega) rfl (like _ _ s0 _ _ rfl rfl v1) (by simpa only [sz] using hQ)
 have v2 := keep _ (i * 8 + 1) (.bool s.live) _ _ _ gQ v1
 have a2 := keepA _ (i * 8 + 1) (.bool s.live) a1
 have h2 := h1.cell' (j := 2) (s' := { s0 with gen := s.gen, live := s.live, kind := s.kind }) (p' := p) (u := .int .i64 s.kind) hi hl (by omega) rfl (like _ _ s0 _ _ rfl rfl v2) (by simpa only [sz] using hQ)
 have v3 := keep _ (i * 8 + 2) (.int .i64 s.kind) _ _ _ gQ v2
 have a3 := keepA _ (i * 8 + 2) (.int .i64 s.kind) a2
 have h3 := h2.cell' (j := 3) (s' := { s0 with gen := s.gen, live := s.live, kind := s.kind, name := s.name }) (p' := p) (u := .string s.name) hi hl (by omega) rfl (like _ _ s0 _ _ rfl rfl v3) (by simpa only [sz] using hQ)
 have v4 := keep _ (i * 8 + 3) (.string s.name) _ _ _ gQ v3
 have a4 := keepA _ (i * 8 + 3) (.string s.name) a3
 have mk4 : ∀ W : World, SlotVals W (Q (i + 1)) s0 p -> AttrsR W R aa s.attrs -> SlotVals W (fun b => R b \/ Q (i + 1) b) { s0 with gen := s.gen, live := s.live, kind := s.kind, name := s.name, attrs := s.attrs } (.slice aa s.attrs.length ac, p.2) := fun W v a => by
  obtain ⟨x1, x2, x3, x4, x5, x6, x7, x8, x9⟩ := v
  exact ⟨aa, ac, x3, x4, by rw [x5], hac, x7, a.to (fun _ h => .inl h) (fun _ _ _ => rfl), x9.to (fun _ h => .inr h) (fun _ _ _ => rfl)⟩
 have v4' := mk4 _ v4 a4
 have h4 := h3.cell' (j := 4) (s' := { s0 with gen := s.gen, live := s.live, kind := s.kind, name := s.name, attrs := s.attrs }) (p' := (.slice aa s.attrs.length ac, p.2)) (u := .slice aa s.attrs.length ac) hi hl (by omega) rfl v4' (by simpa only [sz] using hU)
 have v5 := keep _ (i * 8 + 4) (.slice aa s.attrs.length ac) _ _ _ gU v4'
 have a5 := keepA _ (i * 8 + 4) (.slice aa s.attrs.length ac) a4
 have h5 := h4.cell' (j := 5) (s' := { s0 with gen := s.gen, live := s.live, kind := s.kind, name := s.name, attrs := s.attrs, text := s.text }) (p' := (.slice aa s.attrs.length ac, p.2)) (u := .string s.text) hi hl (by omega) rfl (like _ _ { s0 with gen := s.gen, live := s.live, kind := s.kind, name := s.name, attrs := s.attrs } _ _ rfl rfl v5) (by simpa only [sz] using hU)
 have v6 := keep _ (i * 8 + 5) (.string s.text) _ _ _ gU v5
 have a6 := keepA _ (i * 8 + 5) (.string s.text) a5
 have h6 := h5.cell' (j := 6) (s' := { s with kids := s0.kids }) (p' := (.slice aa s.attrs.length ac, p.2)) (u := .int .u64 (s.parent : Int)) hi hl (by omega) rfl (like _ _ { s0 with gen := s.gen, live := s.live, kind := s.kind, name := s.name, attrs := s.attrs } _ _ rfl rfl v6) (by simpa only [sz] using hU)
 have a7 := keepA _ (i * 8 + 6) (.int .u64 (s.parent : Int)) a6
 have h7 := h6.cell' (j := 7) (s' := s) (p' := (.slice aa s.attrs.length ac, .slice none 0 0)) (u := .slice none 0 0) (R := R) hi hl (by omega) rfl ⟨aa, ac, none, 0, by rw [hk]; rfl, hac, by rw [hk]; exact Nat.le_refl _, a7, (by rw [hk]; intro i x hx; simp at hx)⟩ (by simpa only [sz] using hR)
 exact h7
end
end Go.Proofs.YtjkgjckkglfokaaGreat.Gr
/- A new index, by the document, each slot with blocks of its own; a child taken into its row. -/
namespace Go.Proofs.YtjkgjckkglfokaaGreat.Gr
open Go.RowKit
set_option linter.unusedVariables false
set_option linter.unusedSimpArgs false
set_option maxRecDepth 100000
set_option maxHeartbeats 1000000
theorem RdM.grew {w w2 : World} {base : Nat} {Q : Nat -> Nat -> Prop} {rb : Nat} {D : Dc} {g cap : Nat} {ra : Option Addr} {rcap : Nat} {L : List (Value × Value)} (h : RdM w base Q rb D g cap ra rcap L) (hb : Below w.heap.size w w2) {v : Value} (hown : w2.ownsRow w.heap.size 100 8 v (D.S.length + 1) (rowOf D.S L ++ slotCells (zeroSl 0) (.slice none 0 0, .slice none 0 0))) :
  ∃ g' cap', v = .slice (some ⟨g', 0, none⟩) (D.S.length + 1) cap' /\ w.heap.size <= g' /\ RdM (w2.setCell ⟨rb, 0, none⟩ (.slice (some ⟨g', 0, none⟩) (D.S.length + 1) cap')) base Q rb { D with S := D.S ++ [zeroSl 0] } g' cap' ra rcap (L ++ [(.slice none 0 0, .slice none 0 0)]) /\ Turn (fun b => b = rb) w (w2.setCell ⟨rb, 0, none⟩ (.slice (some ⟨g', 0, none⟩) (D.S.length + 1) cap')) := by
 have hrb := h.rbl
 have hgs := h.toS.gb
 have hbs := h.toS.bs
 have hsz := hb.size
 rcases hown.2 with ⟨e1, e2⟩ | ⟨g', cap', cur, rfl, hb', hcells⟩
 ·simp at e2
 ·have hne : ∀ k b, Q k b -> b ≠ rb := fun k b hb e => h.nrb k (e ▸ hb)
  have hcell : ∀ k b o, Q k b -> (w2.setCell ⟨rb, 0, none⟩ (.slice (some ⟨g', 0, none⟩) (D.S.length + 1) cap')).cell? ⟨b, o, none⟩ = w.cell? ⟨b, o, none⟩ := fun k b o hq => World.cell?_of_block (w := w) (a := ⟨b, o, none⟩) ((Below.heap_setCell _ _ _ _ (hne k b hq)).trans (hb.block b (h.qne k b hq).2))
  refine ⟨g', cap', rfl, hb', ⟨?_, ?_, by simp [h.len], fun k x y hx hy => ?_, h.roots.to (fun _ h => h) (hcell _), h.rlen, fun k b hq => ⟨by have := (h.qne k b hq).2; omega, by have := (h.qne k b hq).2; simp [World.setCell]; omega⟩, h.nrb, hrb⟩, ?_⟩
  ·have := (h.head.of_block (hb.block rb (by omega))).set 0 (.slice (some ⟨g', 0, none⟩) (D.S.length + 1) cap')
   simpa using this
  ·have h2 : (w2.setCell ⟨rb, 0, none⟩ (.slice (some ⟨g', 0, none⟩) (D.S.length + 1) cap')).ownsRow w.heap.size 100 8 (.slice (some ⟨g', 0, none⟩) (D.S.length + 1) cap') (D.S.length + 1) (rowOf D.S L ++ slotCells (zeroSl 0) (.slice none 0 0, .slice none 0 0)) := own_of_block hown (fun k hk => by
    cases hk
    exact Below.heap_setCell _ _ _ _ (by show g' ≠ rb; omega))
   rw [<- rowOf_snoc h.len] at h2
   have h3 := own_base (base' := base) h2 (fun k hk => by
    simp only [Value.ownBlock, Option.some.injEq] at hk
    omega)
   simpa using h3
  ·rcases Nat.lt_or_ge k D.S.length with hk | hk
   ·have hx' : (D.S ++ [zeroSl 0])[k]? = some x := hx
    rw [List.getElem?_append_left hk] at hx'
    rw [List.getElem?_append_left (by rw [h.len]; exact hk)] at hy
    exact (h.vals k x y hx' hy).to (fun _ h => h) (hcell _)
   ·have hx' : (D.S ++ [zeroSl 0])[k]? = some x := hx
    have hkl : k = D.S.length := by have := (List.getElem?_eq_some_iff.1 hx').1; simp at this; omega
    subst hkl
    rw [List.getElem?_append_right (Nat.le_refl _)] at hx'
    rw [List.getElem?_append_right (by rw [h.len]; exact Nat.le_refl _), h.len] at hy
    simp at hx' hy
    subst hx'
    subst hy
    exact ⟨none, 0, none, 0, rfl, Nat.le_refl _, Nat.le_refl _, (fun i a ha => by simp [zeroSl] at ha), (fun i a ha => by simp [zeroSl] at ha)⟩
  ·exact Turn.setCell (A := fun b => b = rb) ((below_turn hb).mono (fun _ _ h => h.elim)) (p := ⟨rb, 0, none⟩) rfl _
def FreeM (w : World) (base : Nat) (Q : Nat -> Nat -> Prop) (rb : Nat) (D : Dc) (g : Nat) (ra : Option Addr) (rcap : Nat) (L : List (Value × Value)) (i : Nat) (e : Ending) (w' : World) : Prop :=
 e = .returned (.int .i64 (i : Int)) /\ (∃ g' cap' L', RdM w' base Q rb D g' cap' ra rcap L' /\ (g' = g \/ w.heap.size <= g') /\ ∀ k, k < L.length -> L'[k]? = L[k]?) /\ Turn (fun b => b = rb) w w'
theorem rfreeM_none (w : World) (base : Nat) (Q : Nat -> Nat -> Prop) (rb : Nat) (D : Dc) (g cap : Nat) (ra : Option Addr) (rcap : Nat) (L : List (Value × Value)) (h : RdM w base Q rb D g cap ra rcap L) (hf : Fits D) (hi : D.S.findIdx? freeB = none) :
  Calls Tryz.prog 107 #[.pointer (some ⟨rb, 0, none⟩)] w (FreeM w base Q rb { D with S := D.S ++ [zeroSl 0] } g ra rcap L D.S.length) := by
 have hl := hf.len
 have hno := List.findIdx?_eq_none_iff.1 hi
 have HNO : Hid (∀ (j : Nat) (s : Sl), D.S[j]? = some s -> freeB s = false) := fun j s hs => by
  simpa using hno s (List.mem_of_getElem? hs)
 have HD := hid h
 have hh1 := h.head.cell
 have hhf := h.head.frozen
 have hgs := h.toS.gb
 have hrbl := h.rbl
 have hrs := h.head.lt
 have hcp := (row_cell h.own).1
 have HN : Hid (∀ j u, (rowOf D.S L)[j]? = some u -> ∃ ad, some (⟨g, 0, none⟩ : Addr) = some ad /\ (w.alloc (.cells #[] 100)).cell? (ad.add j) = some u) := fun j u hu => by
  obtain ⟨g', e1, _, e3, e2⟩ := (row_cell h.own).2.2 j u hu
  cases e1
  refine ⟨_, rfl, ?_⟩
  rw [addr_plus, Nat.zero_add, World.cell?_of_block (w := w) (Below.heap_alloc _ _ _ e3)]
  exact e2
 have HRV := hid (rows_vals h.toS.vals)
 have HRL := hid (rowOf_len h.len)
 clear h hf hi hno
 go_enter Tryz.func107, Tryz.ntmps107
 go_wp2
 go_loop [3] (fun iv => ∃ (i : Nat), i <= D.S.length /\ iv = .int .i64 (i : Int)) (fun iv => D.S.length - (intOf iv).toNat)
 case atStart => exact ⟨0, by omega, rfl⟩
 case round =>
  obtain ⟨i, hi, rfl⟩ := hrel
  by_cases hlt : i < D.S.length
  ·obtain ⟨s, hs⟩ : ∃ s, D.S[i]? = some s := ⟨_, List.getElem?_eq_getElem hlt⟩
   obtain ⟨q, hq, hvq, hcap, hhd, hcl⟩ := HD.out.toS.slot hs
   have c0 : w.cell? ⟨g, i * 8, none⟩ = _ := (hcl 0 _ rfl).1
   have c1 := (hcl 1 _ rfl).1
   have hfb := HNO.out i s hs
   cases hlv : s.live
   ·have hb := freeB_bool hfb hlv
    rw [hlv] at c1
    clear hfb hlv hs hq hvq hcl hhd hcap
    go_wp2
    go_round
    case rel => exact ⟨i + 1, by omega, by go_num⟩
    case measure => simp [intOf]; omega
   ·rw [hlv] at c1
    clear hfb hlv hs hq hvq hcl hhd hcap
    go_wp2
    go_round
    case rel => exact ⟨i + 1, by omega, by go_num⟩
    case measure => simp [intOf]; omega
  ·have hie : i = D.S.length := by omega
   subst hie
   have tok1 : True := trivial
   go_wp2_with (at_builtin; first
    | (have _t := tok1; refine wpList_app rfl _ _ rfl Tryz.underlying22 info75 rfl (by decide) w.heap.size (.slice (some ⟨w.heap.size, 0, none⟩) 0 0) 0 [] rfl (own_new w 100 8) (some ⟨g, 0, none⟩) D.S.length cap (rowOf D.S L) rfl HRL.out HN.out HRV.out (by unfold maxLen; omega) (by omega) (by simp) ?_; intro v1 w1 hown1 hg1 _ hat1; clear tok1 _t; rw [Nat.zero_add, List.nil_append] at hown1; obtain ⟨a1, c1', hv1⟩ := own_slice hown1; subst hv1; have HO1 := hid hown1; have HB1 := hid ((below_new' w _).grown hg1 (by simp) (fun k hk => by simp only [Value.ownBlock, Option.some.injEq] at hk; omega)); have hs1 := HB1.out.size; clear hown1 hg1 hat1)
    | (refine wpList_app rfl _ _ rfl Tryz.underlying22 info75 rfl (by decide) w.heap.size (.slice a1 D.S.length c1') D.S.length (rowOf D.S L) rfl (own_of_block HO1.out (fun k hk => Below.heap_alloc _ _ _ (own_block_lt HO1.out k hk).2)) (some ⟨w1.heap.size, 0, none⟩) 1 1 (slotCells (zeroSl 0) (.slice none 0 0, .slice none 0 0)) rfl rfl (news_new w1 #[.int .u32 0, .bool false, .int .i64 0, .string ⟨#[]⟩, .slice none 0 0, .string ⟨#[]⟩, .int .u64 0, .slice none 0 0] 100) (by intro u hu; simp only [slotCells, List.mem_cons, List.not_mem_nil, or_false] at hu; rcases hu with rfl | rfl | rfl | rfl | rfl | rfl | rfl | rfl <;> rfl) (by unfold maxLen; omega) (by omega) (by simp; omega) ?_; intro v2 w2 hown2 hg2 _ hat2; have hb2 : Below w.heap.size w w2 := (HB1.out.alloc hs1 _).grown hg2 (by simp; omega) (fun k hk => (own_block_lt HO1.out k hk).1); obtain ⟨g', cap', hv2, hg', hrds, htn⟩ := HD.out.grew hb2 hown2; subst hv2; have hgn : w.heap.size <= g' := hg'; have hc2 : w2.cell? ⟨rb, 0, none⟩ = some (.slice (some ⟨g, 0, none⟩) D.S.length cap) := (hb2.cell (p := ⟨rb, 0, none⟩) hrs).trans (by rw [hh1]; rfl); have hf2 : w2.frozen? ⟨rb, 0, none⟩ = false := (hb2.frozen (p := ⟨rb, 0, none⟩) hrs).trans (hhf 0); have hrs2 : rb < w2.heap.size := (Nat.lt_of_lt_of_le hrs hb2.size); have HRS := hrds; have HRS2 := hid hrds; have HT2 := hid htn; clear HRS hrds htn hown2 hg2 hat2 hb2))
   go_ret
   exact ⟨congrArg _ (v_int (by push_cast; omega)), ⟨_, _, _, HRS2.out, .inr hgn, fun k hk => List.getElem?_append_left hk⟩, HT2.out⟩
theorem rfreeM_any (w : World) (base : Nat) (Q : Nat -> Nat -> Prop) (rb : Nat) (D : Dc) (g cap : Nat) (ra : Option Addr) (rcap : Nat) (L : List (Value × Value)) (h : RdM w base Q rb D g cap ra rcap L) (hf : Fits D) :
  Calls Tryz.prog 107 #[.pointer (some ⟨rb, 0, none⟩)] w (FreeM w base Q rb (freeD D).2 g ra rcap L (freeD D).1) := by
 cases hi : D.S.findIdx? freeB with
 | none =>
  have e : freeD D = (D.S.length, { D with S := D.S ++ [zeroSl 0] }) := by simp only [freeD, hi]
  rw [e]
  exact rfreeM_none w base Q rb D g cap ra rcap L h hf hi
 | some n =>
  have e : freeD D = (n, D) := by simp only [freeD, hi]
  rw [e]
  refine (rfree_some w _ rb D n h.toS.done.view hf hi).mono ?_
  rintro e w' ⟨rfl, rfl⟩
  exact ⟨rfl, ⟨_, _, _, h, .inl rfl, fun _ _ => rfl⟩, Turn.refl _ _⟩
theorem RdM.push {w w1 w2 : World} {base : Nat} {Q : Nat -> Nat -> Prop} {rb : Nat} {D : Dc} {g cap : Nat} {ra : Option Addr} {rcap : Nat} {L : List (Value × Value)} (h : RdM w base Q rb D g cap ra rcap L) {i : Nat} {s : Sl} {aa : Option Addr} {ac : Nat} {kv kv' : Value} {K : List Nat} {R : Nat -> Prop} {b1 : Nat} (hs : D.S[i]? = some s) (hp : L[i]? = some (.slice aa s.attrs.length ac, kv)) (hac : s.attrs.length <= ac) (hat : AttrsR w R aa s.attrs) (hRQ : ∀ b, R b -> b ≠ g /\ b < w.heap.size /\ b ≠ rb)
  (hkv : ∀ b, kv.ownBlock = some b -> base <= b /\ b ≠ g /\ ¬ R b /\ ∀ k, k ≠ i + 1 -> ¬ Q k b) (hb : Below w.heap.size w w1) (hg : w1.grownBy w2 kv.ownBlock) (hown : w2.ownsRow b1 27 1 kv' K.length (hvals K)) (hat' : kv'.ownBlock = kv.ownBlock \/ kv'.ownBlock = some w1.heap.size) :
  RdM (w2.setCell ⟨g, i * 8 + 7, none⟩ kv') base (setQ Q (i + 1) (fun b => R b \/ kv'.ownBlock = some b)) rb { D with S := D.S.set i { s with kids := K } } g cap ra rcap (L.set i (.slice aa s.attrs.length ac, kv')) := by
 have hgb := h.toS.gb
 have hbs := h.toS.bs
 have hrb := h.rbl
 have hsz := hb.size
 have hs2 := hg.size
 have keep : ∀ b, b < w.heap.size -> kv.ownBlock ≠ some b -> w2.heap[b]? = w.heap[b]? := fun b h1 h2 => (hg.block b (by omega) (fun e => h2 e.symm)).trans (hb.block b h1)
 have kR : ∀ b, R b -> w2.heap[b]? = w.heap[b]? := fun b hb' => keep b (hRQ b hb').2.1 (fun e => (hkv b e).2.2.1 hb')
 have kQ : ∀ k b, k ≠ i + 1 -> Q k b -> w2.heap[b]? = w.heap[b]? := fun k b hk hb' => keep b (h.qne k b hb').2 (fun e => (hkv b e).2.2.2 k hk hb')
 have hi := (List.getElem?_eq_some_iff.1 hs).1
 have hgw : w2.heap[g]? = w.heap[g]? := keep g hgb.2 (fun e => (hkv g e).2.1 rfl)
 have hrw : w2.heap[rb]? = w.heap[rb]? := keep rb (by omega) (fun e => by have := (hkv rb e).1; omega)
 have hkl : ∀ b, kv'.ownBlock = some b -> b ≠ g /\ b < w2.heap.size /\ b ≠ rb := fun b hb' => by
  have hlt := (own_block_lt hown b hb').2
  rcases hat' with e | e
  ·rw [e] at hb'
   obtain ⟨x1, x2, _⟩ := hkv b hb'
   exact ⟨x2, hlt, by omega⟩
  ·rw [e] at hb'
   cases hb'
   exact ⟨by omega, hlt, by omega⟩
 obtain ⟨ka, kc, hke, hkc, hha⟩ := hands_row (R := fun b => kv'.ownBlock = some b) hown (fun b hb => hb)
 have cR : ∀ b o, R b -> w2.cell? ⟨b, o, none⟩ = w.cell? ⟨b, o, none⟩ := fun b o hb' => World.cell?_of_block (w := w) (a := ⟨b, o, none⟩) (kR b hb')
 have cg : ∀ b o, b ≠ g -> (w2.setCell ⟨g, i * 8 + 7, none⟩ kv').cell? ⟨b, o, none⟩ = w2.cell? ⟨b, o, none⟩ := fun b o hb' => World.cell?_of_block (w := w2) (a := ⟨b, o, none⟩) (Below.heap_setCell _ _ _ _ hb')
 have hsz3 : (w2.setCell ⟨g, i * 8 + 7, none⟩ kv').heap.size = w2.heap.size := by simp [World.setCell]
 refine ⟨?_, ?_, by simp [h.len], fun k x y hx hy => ?_, ?_, h.rlen, fun k b hb' => ?_, fun k hb' => ?_, h.rbl⟩
 ·have := (h.head.of_block hrw).other (a := ⟨g, i * 8 + 7, none⟩) (by show rb ≠ g; omega) kv'
  simpa using this
 ·have h0 := own_of_block h.own (w' := w2) (fun k hk => by cases hk; exact hgw)
  have := own_set h0 (i * 8 + 7) kv'
  rw [<- rowOf_set h.len hs hp (j := 7) (by omega) (s' := { s with kids := K }) (p' := (.slice aa s.attrs.length ac, kv')) rfl] at this
  simpa using this
 ·by_cases hk : k = i
  ·subst hk
   rw [List.getElem?_set_self hi] at hx
   rw [List.getElem?_set_self (by rw [h.len]; exact hi)] at hy
   cases hx
   cases hy
   refine ⟨aa, ac, ka, kc, by rw [hke], hac, hkc, hat.to (fun b hb' => setQ_same.2 (.inl hb')) (fun b o hb' => (cg b o (hRQ b hb').1).trans (cR b o hb')), hha.to (fun b hb' => setQ_same.2 (.inr hb')) (fun b o hb' => cg b o (hkl b hb').1)⟩
  ·rw [List.getElem?_set_ne (by omega)] at hx hy
   exact (h.vals k x y hx hy).to (fun b hb' => (setQ_other (by omega)).2 hb') (fun b o hb' => (cg b o (h.qne _ b hb').1).trans (World.cell?_of_block (w := w) (a := ⟨b, o, none⟩) (kQ _ b (by omega) hb')))
 ·exact h.roots.to (fun b hb' => (setQ_other (by omega)).2 hb') (fun b o hb' => (cg b o (h.qne _ b hb').1).trans (World.cell?_of_block (w := w) (a := ⟨b, o, none⟩) (kQ _ b (by omega) hb')))
 ·rw [hsz3]
  rcases hb' with ⟨_, hb' | hb'⟩ | ⟨_, hb'⟩
  ·exact ⟨(hRQ b hb').1, by have := (hRQ b hb').2.1; omega⟩
  ·exact ⟨(hkl b hb').1, (hkl b hb').2.1⟩
  ·exact ⟨(h.qne k b hb').1, by have := (h.qne k b hb').2; omega⟩
 ·rcases hb' with ⟨_, hb' | hb'⟩ | ⟨_, hb'⟩
  ·exact (hRQ rb hb').2.2 rfl
  ·exact (hkl rb hb').2.2 rfl
  ·exact h.nrb k hb'
end Go.Proofs.YtjkgjckkglfokaaGreat.Gr
/- The document's making of a tree: what each step keeps. -/
namespace Go.Proofs.YtjkgjckkglfokaaGreat.Gr
open Go.RowKit
set_option linter.unusedVariables false
set_option linter.unusedSimpArgs false
structure MG (w : World) (base : Nat) (Q : Nat -> Nat -> Prop) (rb g : Nat) (ra : Option Addr) (rcap : Nat) (D0 : Dc) (L0 : List (Value × Value)) (E : Dc) (w' : World) (Q' : Nat -> Nat -> Prop) (g' : Nat) (L' : List (Value × Value)) : Prop where
 turn : Turn (fun b => b = rb \/ b = g) w w'
 doc : ∃ cap', RdM w' base Q' rb E g' cap' ra rcap L'
 gn : g' = g \/ w.heap.size <= g'
 from' : ∀ k b, Q' k b -> Q k b \/ w.heap.size <= b
 keep : ∀ (k : Nat) (s : Sl), D0.S[k]? = some s -> s.live = true -> (∃ s', E.S[k]? = some s' /\ s'.live = true) /\ L'[k]? = L0[k]? /\ ∀ b, Q' (k + 1) b ↔ Q (k + 1) b
section
variable {w w1 w2 : World} {base : Nat} {Q Q1 Q2 : Nat -> Nat -> Prop} {rb g g1 g2 : Nat} {ra : Option Addr} {rcap : Nat} {D0 D E : Dc} {cap : Nat} {L0 L L1 L2 : List (Value × Value)}
theorem MG.start (h : RdM w base Q rb D g cap ra rcap L) : MG w base Q rb g ra rcap D L D w Q g L := ⟨Turn.refl _ _, ⟨_, h⟩, .inl rfl, fun _ _ h => .inl h, fun k s h1 h2 => ⟨⟨s, h1, h2⟩, rfl, fun _ => Iff.rfl⟩⟩
theorem MG.trans (h : MG w base Q rb g ra rcap D0 L0 D w1 Q1 g1 L1) (k : MG w1 base Q1 rb g1 ra rcap D L1 E w2 Q2 g2 L2) : MG w base Q rb g ra rcap D0 L0 E w2 Q2 g2 L2 := by
 have hs := h.turn.size
 refine ⟨⟨k.turn.os.trans h.turn.os, k.turn.tape.trans h.turn.tape, k.turn.output.trans h.turn.output, Nat.le_trans hs k.turn.size, fun b hb hn => ?_⟩, k.doc, ?_, fun j b hb => ?_, fun j s h1 h2 => ?_⟩
 ·rw [k.turn.block b (by omega) (fun e => ?_), h.turn.block b hb hn]
  rcases e with e | e
  ·exact hn (.inl e)
  ·rcases h.gn with e2 | e2
   ·exact hn (.inr (e.trans e2))
   ·omega
 ·rcases k.gn with e | e
  ·rw [e]; exact h.gn
  ·exact .inr (by omega)
 ·rcases k.from' j b hb with e | e
  ·exact h.from' j b e
  ·exact .inr (by omega)
 ·obtain ⟨⟨s1, a1, a2⟩, a3, a4⟩ := h.keep j s h1 h2
  obtain ⟨b1, b3, b4⟩ := k.keep j s1 a1 a2
  exact ⟨b1, b3.trans a3, fun b => (b4 b).trans (a4 b)⟩
theorem MG.below (h : MG w base Q rb g ra rcap D0 L0 D w1 Q1 g1 L1) (hb : Below w1.heap.size w1 w2) : MG w base Q rb g ra rcap D0 L0 D w2 Q1 g1 L1 := by
 obtain ⟨cap', hd⟩ := h.doc
 exact ⟨h.turn.then hb h.turn.size, ⟨cap', hd.below hb⟩, h.gn, h.from', h.keep⟩
theorem MG.step {R : Nat -> Prop} {i : Nat} {s' : Sl} {p' : Value × Value} (ht : Turn (fun b => b = rb \/ b = g) w w1) (hd : RdM w1 base (setQ Q (i + 1) R) rb E g cap ra rcap (L.set i p')) (hE : E = { D with S := D.S.set i s' }) (hi : ∀ s, D.S[i]? = some s -> s.live = false) (hf : ∀ b, R b -> w.heap.size <= b) : MG w base Q rb g ra rcap D L E w1 (setQ Q (i + 1) R) g (L.set i p') := by
 refine ⟨ht, ⟨_, hd⟩, .inl rfl, fun k b hb => ?_, fun k s h1 h2 => ?_⟩
 ·rcases hb with ⟨_, hb⟩ | ⟨_, hb⟩
  ·exact .inr (hf b hb)
  ·exact .inl hb
 ·have hne : k ≠ i := fun e => by
   subst e
   rw [hi s h1] at h2
   cases h2
  refine ⟨⟨s, ?_, h2⟩, List.getElem?_set_ne (Ne.symm hne), fun b => setQ_other (by omega)⟩
  rw [hE]
  show (D.S.set i s')[k]? = _
  rw [List.getElem?_set_ne (Ne.symm hne)]
  exact h1
theorem MG.free {e : Ending} (h : RdM w base Q rb D g cap ra rcap L) {i : Nat} (k : FreeM w base Q rb (freeD D).2 g ra rcap L i e w1) : ∃ g1 cap1 L1, RdM w1 base Q rb (freeD D).2 g1 cap1 ra rcap L1 /\ (g1 = g \/ w.heap.size <= g1) /\ MG w base Q rb g ra rcap D L (freeD D).2 w1 Q g1 L1 := by
 obtain ⟨_, ⟨g1, cap1, L1, h1, h2, h3⟩, ht⟩ := k
 refine ⟨g1, cap1, L1, h1, h2, ht.mono (fun b _ hb => .inl hb), ⟨_, h1⟩, h2, fun k b hb => .inl hb, fun k s a1 a2 => ⟨⟨s, (free_ne a1 a2).2, a2⟩, h3 k ?_, fun _ => Iff.rfl⟩⟩
 rw [h.len]
 exact (List.getElem?_eq_some_iff.1 a1).1
end
theorem Turn.trans' {rb g : Nat} {a b c : World} (h : Turn (fun x => x = rb \/ x = g) a b) (k : Turn (fun x => x = g) b c) : Turn (fun x => x = rb \/ x = g) a c := h.trans (k.mono (fun _ _ h => .inr h))
def MakeP (w : World) (base : Nat) (Q : Nat -> Nat -> Prop) (rb g : Nat) (ra : Option Addr) (rcap : Nat) (D : Dc) (L : List (Value × Value)) (E : Dc) (h : Nat) (e : Ending) (w' : World) : Prop :=
 e = .returned (.int .u64 (h : Int)) /\ ∃ Q' g' L', MG w base Q rb g ra rcap D L E w' Q' g' L'
def MakeAll (n : Nat) : Prop := ∀ (w : World) (v : Array Value) (t : T n) (lo hi p base : Nat) (Q : Nat -> Nat -> Prop) (rb : Nat) (D : Dc) (g cap : Nat) (ra : Option Addr) (rcap : Nat) (L : List (Value × Value)), TreeAt w lo hi n v t -> hi <= w.heap.size -> hi <= rb -> RdM w base Q rb D g cap ra rcap L ->
  Sane D -> cnt takenB D.S + ndT n t <= 4096 -> (p = 0 \/ ∃ q, sl D p = some q) -> p < 18446744073709551616 -> okT n t ->
  Calls Tryz.prog 75 #[.pointer (some ⟨rb, 0, none⟩), .agg v, .int .u64 (p : Int)] w (MakeP w base Q rb g ra rcap D L (growD n t p D).1 (growD n t p D).2)
end Go.Proofs.YtjkgjckkglfokaaGreat.Gr
/- The document's making of a tree, child by child. -/
namespace Go.Proofs.YtjkgjckkglfokaaGreat.Gr
open Go.RowKit
set_option linter.unusedVariables false
set_option linter.unusedSimpArgs false
theorem growK_comm (n : Nat) {i : Nat} {s : Sl} (hl : s.live = true) (l : List Nat) : ∀ (LL : List (T n)) (H : Nat) (D : Dc), D.S[i]? = some s -> (growK (growD n) H LL D).1.S[i]? = some s := by
 intro LL
 induction LL with
 | nil => intro H D h; exact h
 | cons k r ih =>
  intro H D h
  exact ih H _ (grow_comm n k H D i s l h hl).1
structure MC (w : World) (base rb : Nat) (n H : Nat) (E0 : Dc) (i : Nat) (S0 : Sl) (lo hi : Nat) (ka : Option Addr) (LL : List (T n)) (B : Nat) : Prop where
 ih : MakeAll n
 sane : Sane E0
 cn : cnt takenB E0.S + (LL.map (ndT n)).sum <= 4096
 hh : ∃ q, sl E0 H = some q
 hl : H < 18446744073709551616
 ok : ∀ k ∈ LL, okT n k
 kids : KidsAt w lo hi n ka LL
 hsz : hi <= w.heap.size
 hrb : hi <= rb
 rbB : rb < B
 bB : base <= B
 ei : E0.S[i]? = some S0
 el : S0.live = true
 ek : S0.kind = 2 -> LL = []
structure MS (w : World) (base : Nat) (Q : Nat -> Nat -> Prop) (rb g : Nat) (ra : Option Addr) (rcap : Nat) (D : Dc) (L : List (Value × Value)) (n H : Nat) (E0 : Dc) (i : Nat) (S0 : Sl) (LL : List (T n)) (B : Nat) (aa : Option Addr) (ac : Nat) (R : Nat -> Prop)
  (j : Nat) (wr : World) (Q' : Nat -> Nat -> Prop) (g' : Nat) (L' : List (Value × Value)) (kv : Value) : Prop where
 mg : MG w base Q rb g ra rcap D L (setKI (growK (growD n) H (LL.take j) E0).1 i (growK (growD n) H (LL.take j) E0).2) wr Q' g' L'
 row : L'[i]? = some (.slice aa S0.attrs.length ac, kv)
 own : wr.ownsRow B 27 1 kv j (hvals (growK (growD n) H (LL.take j) E0).2)
 hac : S0.attrs.length <= ac
 att : AttrsR wr R aa S0.attrs
 hR : ∀ b, R b -> b ≠ g' /\ b < wr.heap.size /\ b ≠ rb /\ w.heap.size <= b
 hkv : ∀ b, kv.ownBlock = some b -> b ≠ g' /\ ¬ R b /\ ∀ k, k ≠ i + 1 -> ¬ Q' k b
 bw : w.heap.size <= B
section
variable {w wr : World} {base : Nat} {Q Q' : Nat -> Nat -> Prop} {rb g g' : Nat} {ra : Option Addr} {rcap : Nat} {D : Dc} {L L' : List (Value × Value)} {n H : Nat} {E0 : Dc} {i : Nat} {S0 : Sl} {LL : List (T n)} {B : Nat} {aa : Option Addr} {ac : Nat} {R : Nat -> Prop} {j lo hi : Nat} {kv : Value} {ka : Option Addr}
theorem MC.mid (c : MC w base rb n H E0 i S0 lo hi ka LL B) {k : T n} (hk : LL[j]? = some k) :
  (growK (growD n) H (LL.take j) E0).1.S[i]? = some S0 /\ Sane (setKI (growK (growD n) H (LL.take j) E0).1 i (growK (growD n) H (LL.take j) E0).2) /\ cnt takenB (setKI (growK (growD n) H (LL.take j) E0).1 i (growK (growD n) H (LL.take j) E0).2).S + ndT n k <= 4096 /\
  (∃ q, sl (setKI (growK (growD n) H (LL.take j) E0).1 i (growK (growD n) H (LL.take j) E0).2) H = some q) /\
  growD n k H (setKI (growK (growD n) H (LL.take j) E0).1 i (growK (growD n) H (LL.take j) E0).2) = (setKI (growK (growD n) H (LL.take (j + 1)) E0).1 i (growK (growD n) H (LL.take j) E0).2, (growD n k H (growK (growD n) H (LL.take j) E0).1).2) /\
  (growK (growD n) H (LL.take (j + 1)) E0).2 = (growK (growD n) H (LL.take j) E0).2 ++ [(growD n k H (growK (growD n) H (LL.take j) E0).1).2] /\ (growK (growD n) H (LL.take (j + 1)) E0).1.S[i]? = some S0 := by
 have hs := (take_sum LL j hk).1
 have hcn := c.cn
 have hok : ∀ x ∈ LL.take j, okT n x := fun x hx => c.ok x (List.mem_of_mem_take hx)
 obtain ⟨N, gg⟩ := growK_spec n (LL.take j) H E0 c.sane (by omega) (.inr c.hh) hok
 have h1 := growK_comm n c.el [] (LL.take j) H E0 c.ei
 have h2 := growK_comm n c.el [] (LL.take (j + 1)) H E0 c.ei
 have e : growK (growD n) H (LL.take (j + 1)) E0 = ((growD n k H (growK (growD n) H (LL.take j) E0).1).1, (growK (growD n) H (LL.take j) E0).2 ++ [(growD n k H (growK (growD n) H (LL.take j) E0).1).2]) := by rw [take_more hk, growK_snoc]
 obtain ⟨q, hq⟩ := c.hh
 have hq2 : sl (growK (growD n) H (LL.take j) E0).1 H = some q := by rw [gg.old H (gg.notin (.inr ⟨q, hq⟩))]; exact hq
 refine ⟨h1, sane_setKI gg.sane h1 c.el (fun e2 => ?_), ?_, ?_, ?_, by rw [e], h2⟩
 ·have := c.ek e2
  rw [this] at hk
  simp at hk
 ·rw [setKI_some h1]
  show cnt takenB ((growK (growD n) H (LL.take j) E0).1.S.set i _) + _ <= _
  rw [cnt_set (s' := { S0 with kids := (growK (growD n) H (LL.take j) E0).2 }) h1 rfl, gg.tk]
  omega
 ·rw [setKI_some h1, sl_setS (s' := { S0 with kids := (growK (growD n) H (LL.take j) E0).2 }) h1 rfl rfl]
  split
  ·exact ⟨_, rfl⟩
  ·exact ⟨q, hq2⟩
 ·rw [(grow_comm n k H _ i S0 (growK (growD n) H (LL.take j) E0).2 h1 c.el).2, e]
theorem MS.call (c : MC w base rb n H E0 i S0 lo hi ka LL B) (s : MS w base Q rb g ra rcap D L n H E0 i S0 LL B aa ac R j wr Q' g' L' kv) {k : T n} (hk : LL[j]? = some k) {v : Array Value} (ht : TreeAt wr lo hi n v k) :
  Calls Tryz.prog 75 #[.pointer (some ⟨rb, 0, none⟩), .agg v, .int .u64 (H : Int)] wr (MakeP wr base Q' rb g' ra rcap (setKI (growK (growD n) H (LL.take j) E0).1 i (growK (growD n) H (LL.take j) E0).2) L' (setKI (growK (growD n) H (LL.take (j + 1)) E0).1 i (growK (growD n) H (LL.take j) E0).2) (growD n k H (growK (growD n) H (LL.take j) E0).1).2) := by
 obtain ⟨m1, m2, m3, m4, m5, m6, m7⟩ := c.mid hk
 obtain ⟨cap', hd⟩ := s.mg.doc
 have := c.ih wr v k lo hi H base Q' rb _ g' cap' ra rcap L' ht (Nat.le_trans c.hsz s.mg.turn.size) c.hrb hd m2 m3 (.inr m4) c.hl (c.ok k (List.mem_of_getElem? hk))
 rw [m5] at this
 exact this
theorem MS.kept (c : MC w base rb n H E0 i S0 lo hi ka LL B) (s : MS w base Q rb g ra rcap D L n H E0 i S0 LL B aa ac R j wr Q' g' L' kv) {k : T n} (hk : LL[j]? = some k) {E : Dc} {w9 : World} {Q2 : Nat -> Nat -> Prop} {g2 : Nat} {L2 : List (Value × Value)} (hg : MG wr base Q' rb g' ra rcap (setKI (growK (growD n) H (LL.take j) E0).1 i (growK (growD n) H (LL.take j) E0).2) L' E w9 Q2 g2 L2) :
  L2[i]? = some (.slice aa S0.attrs.length ac, kv) /\ w9.ownsRow B 27 1 kv j (hvals (growK (growD n) H (LL.take j) E0).2) /\ AttrsR w9 R aa S0.attrs /\ (∀ b, R b -> b ≠ g2 /\ b < w9.heap.size /\ b ≠ rb /\ w.heap.size <= b) /\ ∀ b, kv.ownBlock = some b -> b ≠ g2 /\ ¬ R b /\ ∀ k, k ≠ i + 1 -> ¬ Q2 k b := by
 obtain ⟨m1, m2, m3, m4, m5, m6, m7⟩ := c.mid hk
 have hsz := hg.turn.size
 have hrbB := c.rbB
 have hlive : (setKI (growK (growD n) H (LL.take j) E0).1 i (growK (growD n) H (LL.take j) E0).2).S[i]? = some { S0 with kids := (growK (growD n) H (LL.take j) E0).2 } := by rw [setKI_get m1, if_pos rfl]
 obtain ⟨_, k2, k3⟩ := hg.keep i _ hlive c.el
 have hg2 : ∀ b, b < wr.heap.size -> b ≠ g' -> b ≠ g2 := fun b h1 h2 e => by
  rcases hg.gn with e2 | e2
  ·exact h2 (e.trans e2)
  ·omega
 refine ⟨k2.trans s.row, own_of_block s.own (fun b hb => hg.turn.block b (own_block_lt s.own b hb).2 (fun e => ?_)), s.att.to (fun _ h => h) (fun b o hb => World.cell?_of_block (w := wr) (a := ⟨b, o, none⟩) (hg.turn.block b (s.hR b hb).2.1 (fun e => ?_))), fun b hb => ?_, fun b hb => ?_⟩
 ·rcases e with e | e
  ·have := (own_block_lt s.own b hb).1
   omega
  ·exact (s.hkv b hb).1 e
 ·rcases e with e | e
  ·exact (s.hR b hb).2.2.1 e
  ·exact (s.hR b hb).1 e
 ·obtain ⟨x1, x2, x3, x4⟩ := s.hR b hb
  exact ⟨hg2 b x2 x1, by omega, x3, x4⟩
 ·obtain ⟨x1, x2, x3⟩ := s.hkv b hb
  have hlt := (own_block_lt s.own b hb).2
  refine ⟨hg2 b hlt x1, x2, fun k hk hq => ?_⟩
  rcases hg.from' k b hq with h1 | h1
  ·exact x3 k hk h1
  ·omega
theorem MS.push (c : MC w base rb n H E0 i S0 lo hi ka LL B) (s : MS w base Q rb g ra rcap D L n H E0 i S0 LL B aa ac R j wr Q' g' L' kv) {k : T n} (hk : LL[j]? = some k) {w9 w10 w11 : World} {Q2 : Nat -> Nat -> Prop} {g2 : Nat} {L2 : List (Value × Value)} {hh : Nat} {kv' : Value}
  (hg : MG wr base Q' rb g' ra rcap (setKI (growK (growD n) H (LL.take j) E0).1 i (growK (growD n) H (LL.take j) E0).2) L' (setKI (growK (growD n) H (LL.take (j + 1)) E0).1 i (growK (growD n) H (LL.take j) E0).2) w9 Q2 g2 L2) (hhh : hh = (growD n k H (growK (growD n) H (LL.take j) E0).1).2) (hb : Below w9.heap.size w9 w10) (hgr : w10.grownBy w11 kv.ownBlock)
  (hown : w11.ownsRow B 27 1 kv' (j + 1) (hvals (growK (growD n) H (LL.take j) E0).2 ++ [.int .u64 (hh : Int)])) (hat : kv'.ownBlock = kv.ownBlock \/ kv'.ownBlock = some w10.heap.size) (hsi : ∀ s, D.S[i]? = some s -> s.live = false) :
  MS w base Q rb g ra rcap D L n H E0 i S0 LL B aa ac R (j + 1) (w11.setCell ⟨g2, i * 8 + 7, none⟩ kv') (setQ Q2 (i + 1) (fun b => R b \/ kv'.ownBlock = some b)) g2 (L2.set i (.slice aa S0.attrs.length ac, kv')) kv' := by
 obtain ⟨k1, k2, k3, k4, k5⟩ := s.kept c hk hg
 obtain ⟨m1, m2, m3, m4, m5, m6, m7⟩ := c.mid hk
 obtain ⟨cap2, hd⟩ := hg.doc
 have hrbB := c.rbB
 have hbB := c.bB
 have hsz := hb.size
 have hs2 := hgr.size
 have hgb := hd.toS.gb
 have hlen := growK_len (growD n) H (LL.take (j + 1)) E0
 have hkj : j < LL.length := (List.getElem?_eq_some_iff.1 hk).1
 have hl1 : (growK (growD n) H (LL.take (j + 1)) E0).2.length = j + 1 := by rw [hlen, List.length_take]; omega
 have hsl : (setKI (growK (growD n) H (LL.take (j + 1)) E0).1 i (growK (growD n) H (LL.take j) E0).2).S[i]? = some { S0 with kids := (growK (growD n) H (LL.take j) E0).2 } := by rw [setKI_get m7, if_pos rfl]
 have hown' : w11.ownsRow B 27 1 kv' (growK (growD n) H (LL.take (j + 1)) E0).2.length (hvals (growK (growD n) H (LL.take (j + 1)) E0).2) := by
  rw [hl1, m6, hvals_append, <- hhh]
  exact hown
 have hpu := hd.push (s := { S0 with kids := (growK (growD n) H (LL.take j) E0).2 }) (aa := aa) (ac := ac) (kv := kv) (R := R) hsl k1 s.hac k3 (fun b hb => ⟨(k4 b hb).1, (k4 b hb).2.1, (k4 b hb).2.2.1⟩) (fun b hb => ⟨by have := (own_block_lt k2 b hb).1; omega, (k5 b hb).1, (k5 b hb).2.1, (k5 b hb).2.2⟩) hb hgr hown' hat
 have eE : ({ (setKI (growK (growD n) H (LL.take (j + 1)) E0).1 i (growK (growD n) H (LL.take j) E0).2) with S := (setKI (growK (growD n) H (LL.take (j + 1)) E0).1 i (growK (growD n) H (LL.take j) E0).2).S.set i { S0 with kids := (growK (growD n) H (LL.take (j + 1)) E0).2 } } : Dc) = setKI (growK (growD n) H (LL.take (j + 1)) E0).1 i (growK (growD n) H (LL.take (j + 1)) E0).2 := by
  have := setKI_twice (D := (growK (growD n) H (LL.take (j + 1)) E0).1) i (growK (growD n) H (LL.take j) E0).2 (growK (growD n) H (LL.take (j + 1)) E0).2
  rw [setKI_some hsl] at this
  exact this
 have hsz3 : (w11.setCell ⟨g2, i * 8 + 7, none⟩ kv').heap.size = w11.heap.size := by simp [World.setCell]
 have hs9 := hg.turn.size
 have hsw := s.mg.turn.size
 have hbw := s.bw
 have hkb : ∀ b, kv'.ownBlock = some b -> b ≠ g2 /\ ¬ R b /\ ∀ k, k ≠ i + 1 -> ¬ Q2 k b := fun b hb' => by
  rcases hat with e | e
  ·exact k5 b (e ▸ hb')
  ·rw [e] at hb'
   cases hb'
   refine ⟨by omega, fun hr => ?_, fun k hk hq => ?_⟩
   ·have := (k4 _ hr).2.1; omega
   ·have := (hd.qne k _ hq).2; omega
 refine ⟨?_, List.getElem?_set_self (by rw [hd.len]; exact (List.getElem?_eq_some_iff.1 hsl).1), ?_, s.hac, ?_, fun b hb' => ?_, fun b hb' => ?_, s.bw⟩
 ·have hm := s.mg.trans hg
  refine ⟨⟨hgr.os.trans (hb.os.trans hm.turn.os), hgr.tape.trans (hb.tape.trans hm.turn.tape), hgr.output.trans (hb.output.trans hm.turn.output), by rw [hsz3]; have := hm.turn.size; omega, fun b hbl hn => ?_⟩, ⟨cap2, eE ▸ hpu⟩, hm.gn, fun q b hq => ?_, fun q x h1 h2 => ?_⟩
  ·rw [Below.heap_setCell _ _ _ _ (fun e => ?_), hgr.block b (by omega) (fun e => ?_), hb.block b (by omega), hm.turn.block b hbl hn]
   ·have := (own_block_lt s.own b e.symm).1; omega
   ·rcases hm.gn with e2 | e2
    ·exact hn (.inr (e.trans e2))
    ·have e' : b = g2 := e
     omega
  ·rcases hq with ⟨_, hq | hq⟩ | ⟨_, hq⟩
   ·exact .inr (k4 b hq).2.2.2
   ·have := (own_block_lt hown b hq).1
    exact .inr (by omega)
   ·exact hm.from' q b hq
  ·have hne : q ≠ i := fun e => by
    subst e
    rw [hsi x h1] at h2
    cases h2
   obtain ⟨⟨x', y1, y2⟩, y3, y4⟩ := hm.keep q x h1 h2
   rw [setKI_get m7, if_neg hne] at y1
   exact ⟨⟨x', by rw [setKI_get m7, if_neg hne]; exact y1, y2⟩, (List.getElem?_set_ne (Ne.symm hne)).trans y3, fun b => (setQ_other (by omega)).trans (y4 b)⟩
 ·have h0 : (w11.setCell ⟨g2, i * 8 + 7, none⟩ kv').ownsRow B 27 1 kv' (growK (growD n) H (LL.take (j + 1)) E0).2.length (hvals (growK (growD n) H (LL.take (j + 1)) E0).2) := own_of_block hown' (fun b hb' => Below.heap_setCell _ _ _ _ (hkb b hb').1)
  rw [hl1] at h0
  exact h0
 ·exact k3.to (fun _ h => h) (fun b o hb' => World.cell?_of_block (w := w9) (a := ⟨b, o, none⟩) ((Below.heap_setCell _ _ _ _ (k4 b hb').1).trans ((hgr.block b (by have := (k4 b hb').2.1; omega) (fun e => (k5 b e.symm).2.1 hb')).trans (hb.block b (k4 b hb').2.1))))
 ·rw [hsz3]
  obtain ⟨x1, x2, x3, x4⟩ := k4 b hb'
  exact ⟨x1, by omega, x3, x4⟩
 ·obtain ⟨x1, x2, x3⟩ := hkb b hb'
  exact ⟨x1, x2, fun k hk hq => x3 k hk ((setQ_other hk).1 hq)⟩
end
end Go.Proofs.YtjkgjckkglfokaaGreat.Gr
