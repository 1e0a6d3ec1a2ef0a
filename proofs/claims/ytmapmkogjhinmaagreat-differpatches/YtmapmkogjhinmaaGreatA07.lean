/- The program's documents: what they hold, each list in a row of its own. -/
import Derived.Test.YtmapmkogjhinmaaGreatA06
import Derived.Deep.RegionHeld3
namespace Go.Proofs.YtmapmkogjhinmaaGreat
open Go.RowKit
set_option maxRecDepth 100000
set_option maxHeartbeats 1000000
set_option linter.unusedVariables false
set_option linter.unusedSimpArgs false
structure PdS (w : World) (ro : Nat -> Nat) (db : Nat) (D : Dc) (sa : Option Addr) (scap : Nat) (ra : Option Addr) (rcap : Nat) (L : List (Value × Value)) : Prop where
 head : IsCells w db #[.slice sa D.S.length scap, .slice ra D.roots.length rcap, .int .i64 (cnt Sl.live D.S : Int)]
 slots : w.ownsRow 0 90 8 (.slice sa D.S.length scap) D.S.length (rowOf D.S L)
 roots : w.ownsRow 0 32 1 (.slice ra D.roots.length rcap) D.roots.length (hvals D.roots)
 len : L.length = D.S.length
 vals : ∀ (i : Nat) (s : Sl) (p : Value × Value), D.S[i]? = some s -> L[i]? = some p -> w.ownsRow 0 52 2 p.1 s.attrs.length (attrCells s.attrs) /\ w.ownsRow 0 32 1 p.2 s.kids.length (hvals s.kids)
 rdb : ro db = 1
 rs : ∀ b, (Value.slice sa D.S.length scap).ownBlock = some b -> ro b = 2
 rr : ∀ b, (Value.slice ra D.roots.length rcap).ownBlock = some b -> ro b = 3
 rat : ∀ (i : Nat) (p : Value × Value) (b : Nat), L[i]? = some p -> p.1.ownBlock = some b -> ro b = 2 * i + 4
 rk : ∀ (i : Nat) (p : Value × Value) (b : Nat), L[i]? = some p -> p.2.ownBlock = some b -> ro b = 2 * i + 5
 lt : ∀ b, ro b ≠ 0 -> b < w.heap.size
def PDoc (w : World) (ro : Nat -> Nat) (db : Nat) (D : Dc) : Prop := ∃ sa scap ra rcap L, PdS w ro db D sa scap ra rcap L
theorem hands_row {w : World} {R : Nat -> Prop} {base : Nat} {e : TypeId} {v : Value} {l : List Nat} (h : w.ownsRow base e 1 v l.length (hvals l)) (hR : ∀ b, v.ownBlock = some b -> R b) : ∃ a cap, v = .slice a l.length cap /\ l.length <= cap /\ HandsAt w R a l := by
 obtain ⟨a, cap, rfl⟩ := own_slice h
 obtain ⟨h1, _, h3⟩ := row_cell h
 refine ⟨a, cap, rfl, h1, fun i x hx => ?_⟩
 obtain ⟨g, rfl, _, _, hc⟩ := h3 i (.int .u64 (x : Int)) (by simp [hvals, hx])
 exact ⟨g, 0, rfl, hR g rfl, by rw [Nat.zero_add]; exact hc⟩
theorem attrs_row' {w : World} {R : Nat -> Prop} {base : Nat} {e : TypeId} {v : Value} {l : List (ByteArray × ByteArray)} (h : w.ownsRow base e 2 v l.length (attrCells l)) (hR : ∀ b, v.ownBlock = some b -> R b) : ∃ a cap, v = .slice a l.length cap /\ l.length <= cap /\ AttrsR w R a l := by
 obtain ⟨a, cap, rfl⟩ := own_slice h
 obtain ⟨h1, _, h3⟩ := attrs_row h rfl
 exact ⟨a, cap, rfl, h3, h1.to (fun b hb => hR b hb.1) (fun _ _ _ => rfl)⟩
theorem PdS.slotVals {w : World} {ro : Nat -> Nat} {db : Nat} {D : Dc} {sa : Option Addr} {scap : Nat} {ra : Option Addr} {rcap : Nat} {L : List (Value × Value)} (h : PdS w ro db D sa scap ra rcap L) {i : Nat} {s : Sl} {p : Value × Value} (hs : D.S[i]? = some s) (hp : L[i]? = some p) : SlotVals w (fun b => ro b ≠ 0) s p := by
 obtain ⟨h1, h2⟩ := h.vals i s p hs hp
 obtain ⟨aa, ac, e1, l1, v1⟩ := attrs_row' (R := fun b => ro b ≠ 0) h1 (fun b hb => by rw [h.rat i p b hp hb]; omega)
 obtain ⟨ka, kc, e2, l2, v2⟩ := hands_row (R := fun b => ro b ≠ 0) h2 (fun b hb => by rw [h.rk i p b hp hb]; omega)
 exact ⟨aa, ac, ka, kc, by rw [<- e1, <- e2], l1, l2, v1, v2⟩
theorem PdS.view {w : World} {ro : Nat -> Nat} {db : Nat} {D : Dc} {sa : Option Addr} {scap : Nat} {ra : Option Addr} {rcap : Nat} {L : List (Value × Value)} (h : PdS w ro db D sa scap ra rcap L) : View w (fun b => ro b ≠ 0) db D := by
 obtain ⟨h1, _, h3⟩ := slots_row (R := fun b => ro b ≠ 0) h.len h.slots (fun i s p hs hp => h.slotVals hs hp) (fun g e _ _ => by subst e; rw [h.rs g rfl]; omega)
 obtain ⟨a, cap, e, l, hr⟩ := hands_row (R := fun b => ro b ≠ 0) h.roots (fun b hb => by rw [h.rr b hb]; omega)
 simp only [Value.slice.injEq, true_and] at e
 obtain ⟨rfl, rfl⟩ := e
 exact ⟨by show ro db ≠ 0; rw [h.rdb]; omega, h.lt, ⟨sa, scap, by rw [h.head.cell]; rfl, h3, h1⟩, ⟨ra, rcap, by rw [h.head.cell]; rfl, l, hr⟩⟩
theorem PDoc.view {w : World} {ro : Nat -> Nat} {db : Nat} {D : Dc} (h : PDoc w ro db D) : View w (fun b => ro b ≠ 0) db D := by
 obtain ⟨_, _, _, _, _, h⟩ := h
 exact h.view
theorem PdS.of_blocks {w w' : World} {ro : Nat -> Nat} {db : Nat} {D : Dc} {sa : Option Addr} {scap : Nat} {ra : Option Addr} {rcap : Nat} {L : List (Value × Value)} (h : PdS w ro db D sa scap ra rcap L) (hb : ∀ b, ro b ≠ 0 -> w'.heap[b]? = w.heap[b]?) (hs : w.heap.size <= w'.heap.size) : PdS w' ro db D sa scap ra rcap L := by
 refine ⟨h.head.of_block (hb db (by rw [h.rdb]; omega)), own_of_block h.slots (fun k hk => hb k (by rw [h.rs k hk]; omega)), own_of_block h.roots (fun k hk => hb k (by rw [h.rr k hk]; omega)), h.len, fun i s p hs' hp => ?_, h.rdb, h.rs, h.rr, h.rat, h.rk, fun b hb' => Nat.lt_of_lt_of_le (h.lt b hb') hs⟩
 obtain ⟨h1, h2⟩ := h.vals i s p hs' hp
 exact ⟨own_of_block h1 (fun k hk => hb k (by rw [h.rat i p k hp hk]; omega)), own_of_block h2 (fun k hk => hb k (by rw [h.rk i p k hp hk]; omega))⟩
theorem PdS.below {w w' : World} {ro : Nat -> Nat} {db : Nat} {D : Dc} {sa : Option Addr} {scap : Nat} {ra : Option Addr} {rcap : Nat} {L : List (Value × Value)} (h : PdS w ro db D sa scap ra rcap L) (hb : Below w.heap.size w w') : PdS w' ro db D sa scap ra rcap L :=
 h.of_blocks (fun b hb' => hb.block b (h.lt b hb')) hb.size
theorem PDoc.turn {w w' : World} {ro : Nat -> Nat} {A : Nat -> Prop} {db : Nat} {D : Dc} (h : PDoc w ro db D) (ht : Turn A w w') (hA : ∀ b, ro b ≠ 0 -> ¬ A b) : PDoc w' ro db D := by
 obtain ⟨sa, scap, ra, rcap, L, h⟩ := h
 exact ⟨sa, scap, ra, rcap, L, h.of_blocks (fun b hb' => ht.block b (h.lt b hb') (hA b hb')) ht.size⟩
def PPost (w : World) (ro : Nat -> Nat) (db : Nat) (D' : Dc) (z : Int) (e : Ending) (w' : World) : Prop :=
 e = .returned (.int .i64 z) /\ Turn (fun b => ro b ≠ 0) w w' /\ ∃ ro', PDoc w' ro' db D' /\ ∀ b, ro' b ≠ 0 -> ro b ≠ 0 \/ w.heap.size <= b
theorem ppost_same {w w' : World} {ro : Nat -> Nat} {db : Nat} {D : Dc} {z : Int} (h : PDoc w ro db D) (hb : Below w.heap.size w w') : PPost w ro db D z (.returned (.int .i64 z)) w' := by
 obtain ⟨sa, scap, ra, rcap, L, h⟩ := h
 exact ⟨rfl, (below_turn hb).mono (fun _ _ h => h.elim), ro, ⟨sa, scap, ra, rcap, L, h.below hb⟩, fun b hb => .inl hb⟩
theorem PdS.slot {w : World} {ro : Nat -> Nat} {db : Nat} {D : Dc} {sa : Option Addr} {scap : Nat} {ra : Option Addr} {rcap : Nat} {L : List (Value × Value)} (h : PdS w ro db D sa scap ra rcap L) {i : Nat} {s : Sl} (hs : D.S[i]? = some s) :
  ∃ g p, sa = some ⟨g, 0, none⟩ /\ ro g = 2 /\ L[i]? = some p /\ D.S.length <= scap /\ w.cell? ⟨db, 0, none⟩ = some (.slice (some ⟨g, 0, none⟩) D.S.length scap) /\ ∀ j u, (slotCells s p)[j]? = some u -> w.cell? ⟨g, i * 8 + j, none⟩ = some u /\ w.frozen? ⟨g, i * 8 + j, none⟩ = false := by
 have hi := (List.getElem?_eq_some_iff.1 hs).1
 obtain ⟨p, hp⟩ : ∃ p, L[i]? = some p := ⟨_, List.getElem?_eq_getElem (by rw [h.len]; exact hi)⟩
 obtain ⟨h1, h2, h3⟩ := row_cell h.slots
 obtain ⟨g, e, _, _, _⟩ := h3 (i * 8 + 0) _ (by rw [rowOf_get hs hp (by omega)]; rfl)
 subst e
 refine ⟨g, p, rfl, h.rs g rfl, hp, h1, by rw [h.head.cell]; rfl, fun j u hu => ?_⟩
 have hj8 : j < 8 := (List.getElem?_eq_some_iff.1 hu).1
 obtain ⟨g', e1, _, _, e2⟩ := h3 (i * 8 + j) u (by rw [rowOf_get hs hp hj8]; exact hu)
 cases e1
 exact ⟨e2, own_frozen h.slots _⟩
theorem cnt_set {f : Sl -> Bool} {S : List Sl} {i : Nat} {s s' : Sl} (hs : S[i]? = some s) (hf : f s' = f s) : cnt f (S.set i s') = cnt f S := by
 unfold cnt
 have hi := (List.getElem?_eq_some_iff.1 hs).1
 have hsp : S = S.take i ++ s :: S.drop (i + 1) := by
  rw [<- (List.getElem?_eq_some_iff.1 hs).2, <- List.drop_eq_getElem_cons hi, List.take_append_drop]
 have hst : S.set i s' = S.take i ++ s' :: S.drop (i + 1) := by
  rw [List.set_eq_take_append_cons_drop, if_pos hi]
 rw [hst]
 conv => rhs; rw [hsp]
 rw [List.filter_append, List.filter_append, List.filter_cons, List.filter_cons, hf]
 split <;> simp
theorem PdS.store {w : World} {ro : Nat -> Nat} {db : Nat} {D : Dc} {g scap : Nat} {ra : Option Addr} {rcap : Nat} {L : List (Value × Value)} (h : PdS w ro db D (some ⟨g, 0, none⟩) scap ra rcap L) {i j : Nat} {s s' : Sl} {p : Value × Value} {u : Value} (hs : D.S[i]? = some s) (hp : L[i]? = some p) (hj : j < 8) (hc : slotCells s' p = (slotCells s p).set j u)
  (h1 : s'.attrs = s.attrs) (h2 : s'.kids = s.kids) (h3 : s'.live = s.live) : PdS (w.setCell ⟨g, i * 8 + j, none⟩ u) ro db { D with S := D.S.set i s' } (some ⟨g, 0, none⟩) scap ra rcap (L.set i p) := by
 have hg : ro g = 2 := h.rs g rfl
 have hi := (List.getElem?_eq_some_iff.1 hs).1
 have hLs : L.set i p = L := by
  apply List.ext_getElem?
  intro m
  by_cases e : m = i
  ·subst e; rw [List.getElem?_set_self (by rw [h.len]; exact hi), hp]
  ·rw [List.getElem?_set_ne (by omega)]
 have hblk : ∀ b, ro b ≠ 2 -> (w.setCell ⟨g, i * 8 + j, none⟩ u).heap[b]? = w.heap[b]? := fun b hb => Below.heap_setCell _ _ _ _ (by show b ≠ g; rintro rfl; exact hb hg)
 refine ⟨?_, ?_, own_of_block h.roots (fun k hk => hblk k (by rw [h.rr k hk]; omega)), by simp [h.len], fun k x y hx hy => ?_, h.rdb, by simpa using h.rs, h.rr, ?_, ?_, fun b hb => by simpa [World.setCell] using h.lt b hb⟩
 ·have := h.head.of_block (hblk db (by rw [h.rdb]; omega))
  rw [show cnt Sl.live ({ D with S := D.S.set i s' } : Dc).S = cnt Sl.live D.S from cnt_set hs h3]
  simpa using this
 ·have := own_set h.slots (i * 8 + j) u
  rw [<- rowOf_set h.len hs hp hj hc] at this
  simpa using this
 ·rw [hLs] at hy
  by_cases hk : k = i
  ·subst hk
   rw [List.getElem?_set_self hi] at hx
   cases hx
   rw [hp] at hy
   cases hy
   obtain ⟨v1, v2⟩ := h.vals k s p hs hp
   rw [h1, h2]
   exact ⟨own_of_block v1 (fun b hb => hblk b (by rw [h.rat k p b hp hb]; omega)), own_of_block v2 (fun b hb => hblk b (by rw [h.rk k p b hp hb]; omega))⟩
  ·rw [List.getElem?_set_ne (by omega)] at hx
   obtain ⟨v1, v2⟩ := h.vals k x y hx hy
   exact ⟨own_of_block v1 (fun b hb => hblk b (by rw [h.rat k y b hy hb]; omega)), own_of_block v2 (fun b hb => hblk b (by rw [h.rk k y b hy hb]; omega))⟩
 ·rw [hLs]; exact h.rat
 ·rw [hLs]; exact h.rk
theorem psetName_any (w : World) (ro : Nat -> Nat) (db : Nat) (D : Dc) (h : Nat) (x : ByteArray) (hd : PDoc w ro db D) (hf : Fits D) (hh : h < 18446744073709551616) :
  Calls Tryz.prog 24 #[.pointer (some ⟨db, 0, none⟩), .int .u64 (h : Int), .string x] w (PPost w ro db (setNameD D h x).1 (setNameD D h x).2) := by
 have hv := hd.view
 cases ha : atI D.S h with
 | none =>
  have e1 : setNameD D h x = (D, 8) := by simp only [setNameD, ha]
  rw [e1]
  have hc := findKind_none w _ db D h 1 hv hf hh ha
  have HD : Hid (PDoc w ro db D) := hd
  clear hd ha e1 hv
  go_enter Tryz.func24, Tryz.ntmps24
  go_wp2_with fail
  refine hc.mono ?_
  rintro e w1 ⟨rfl, hb1⟩
  have HB1 : Hid (Below w.heap.size w w1) := hb1
  clear hb1 hc
  go_wp2
  go_ret
  exact ppost_same HD.out HB1.out
 | some i =>
  obtain ⟨s, hs, -⟩ := atI_some ha
  have HD : Hid (PDoc w ro db D) := hd
  obtain ⟨sa, scap, ra, rcap, L, hp⟩ := hd
  obtain ⟨g, p, rfl, hg2, hpi, hcap, hhd, hcl⟩ := hp.slot hs
  have hc := findKind_some w _ db D h i s 1 hv hf hh ha hs g 0 scap hhd
  rw [Nat.zero_add] at hc
  have hgl := hp.lt g (by rw [hg2]; omega)
  by_cases hk : s.kind = 1
  ·rw [if_pos hk] at hc
   have hnw := fun W => name_any W x
   have HS : Hid (D.S[i]? = some s) := hs
   have HPI : Hid (L[i]? = some p) := hpi
   have HP : Hid (PdS w ro db D (some ⟨g, 0, none⟩) scap ra rcap L) := hp
   cases hnm : nameL x.data.toList
   ·have e1 : setNameD D h x = (D, 6) := by simp [setNameD, ha, hs, hk, hnm]
    rw [e1]
    rw [hnm] at hnw
    clear hp hcl hv ha e1 hs hk hnm hpi
    go_enter Tryz.func24, Tryz.ntmps24
    go_wp2_with fail
    refine hc.mono ?_
    rintro e w1 ⟨rfl, hb1⟩
    have HB1 : Hid (Below w.heap.size w w1) := hb1
    clear hb1 hc
    go_wp2_with fail
    refine (hnw _).mono ?_
    rintro e w2 ⟨rfl, hb2⟩
    have HB2 : Hid (Below w.heap.size w w2) := HB1.out.trans (hb2.mono HB1.out.size)
    clear hb2 hnw
    go_wp2
    go_ret
    exact ppost_same HD.out HB2.out
   ·have e1 : setNameD D h x = ({ D with S := D.S.set i { s with name := x } }, 0) := by simp [setNameD, ha, hs, hk, hnm]
    rw [e1]
    rw [hnm] at hnw
    clear hp hcl hv ha e1 hs hk hnm hpi
    go_enter Tryz.func24, Tryz.ntmps24
    go_wp2_with fail
    refine hc.mono ?_
    rintro e w1 ⟨rfl, hb1⟩
    have HB1 : Hid (Below w.heap.size w w1) := hb1
    clear hb1 hc
    go_wp2_with fail
    refine (hnw _).mono ?_
    rintro e w2 ⟨rfl, hb2⟩
    have HB2 : Hid (Below w.heap.size w w2) := HB1.out.trans (hb2.mono HB1.out.size)
    clear hb2 hnw
    have hp2 := HP.out.below HB2.out
    obtain ⟨g', p', e2, -, hpi2, -, -, hcl2⟩ := hp2.slot HS.out
    cases e2
    have hc3 := (hcl2 3 _ rfl).1
    have hf3 := (hcl2 3 _ rfl).2
    have HP2 : Hid (PdS (w2.setCell ⟨g, i * 8 + 3, none⟩ (.string x)) ro db { D with S := D.S.set i { s with name := x } } (some ⟨g, 0, none⟩) scap ra rcap (L.set i p')) := hp2.store HS.out hpi2 (by omega) rfl rfl rfl rfl
    have HT : Hid (Turn (fun b => ro b ≠ 0) w (w2.setCell ⟨g, i * 8 + 3, none⟩ (.string x))) := Turn.setCell (A := fun b => ro b ≠ 0) ((below_turn HB2.out).mono (fun _ _ h => h.elim)) (p := ⟨g, i * 8 + 3, none⟩) (by show ro g ≠ 0; rw [hg2]; omega) _
    clear hp2 hpi2 hcl2
    go_wp2
    go_ret
    exact ⟨rfl, HT.out, ro, ⟨_, _, _, _, _, HP2.out⟩, fun b hb => .inl hb⟩
  ·rw [if_neg hk] at hc
   have e1 : setNameD D h x = (D, 30) := by simp [setNameD, ha, hs, hk]
   rw [e1]
   clear hp hcl hv ha e1 hs hk hpi
   go_enter Tryz.func24, Tryz.ntmps24
   go_wp2_with fail
   refine hc.mono ?_
   rintro e w1 ⟨rfl, hb1⟩
   have HB1 : Hid (Below w.heap.size w w1) := hb1
   clear hb1 hc
   go_wp2
   go_ret
   exact ppost_same HD.out HB1.out
theorem psetText_any (w : World) (ro : Nat -> Nat) (db : Nat) (D : Dc) (h : Nat) (x : ByteArray) (hd : PDoc w ro db D) (hf : Fits D) (hh : h < 18446744073709551616) :
  Calls Tryz.prog 25 #[.pointer (some ⟨db, 0, none⟩), .int .u64 (h : Int), .string x] w (PPost w ro db (setTextD D h x).1 (setTextD D h x).2) := by
 have hv := hd.view
 cases ha : atI D.S h with
 | none =>
  have e1 : setTextD D h x = (D, 8) := by simp only [setTextD, ha]
  rw [e1]
  have hc := findKind_none w _ db D h 2 hv hf hh ha
  have HD : Hid (PDoc w ro db D) := hd
  clear hd ha e1 hv
  go_enter Tryz.func25, Tryz.ntmps25
  go_wp2_with fail
  refine hc.mono ?_
  rintro e w1 ⟨rfl, hb1⟩
  have HB1 : Hid (Below w.heap.size w w1) := hb1
  clear hb1 hc
  go_wp2
  go_ret
  exact ppost_same HD.out HB1.out
 | some i =>
  obtain ⟨s, hs, -⟩ := atI_some ha
  have HD : Hid (PDoc w ro db D) := hd
  obtain ⟨sa, scap, ra, rcap, L, hp⟩ := hd
  obtain ⟨g, p, rfl, hg2, hpi, hcap, hhd, hcl⟩ := hp.slot hs
  have hc := findKind_some w _ db D h i s 2 hv hf hh ha hs g 0 scap hhd
  rw [Nat.zero_add] at hc
  have hgl := hp.lt g (by rw [hg2]; omega)
  by_cases hk : s.kind = 2
  ·rw [if_pos hk] at hc
   have hnw := fun W => text_any W x
   have HS : Hid (D.S[i]? = some s) := hs
   have HPI : Hid (L[i]? = some p) := hpi
   have HP : Hid (PdS w ro db D (some ⟨g, 0, none⟩) scap ra rcap L) := hp
   by_cases hnm : (tans x.data.toList).2 = 0
   ·have e1 : setTextD D h x = ({ D with S := D.S.set i { s with text := x } }, 0) := by simp [setTextD, ha, hs, hk, hnm]
    rw [e1]
    rw [hnm] at hnw
    generalize (tans x.data.toList).1 = y1 at *
    clear hp hcl hv ha e1 hs hk hnm hpi
    go_enter Tryz.func25, Tryz.ntmps25
    go_wp2_with fail
    refine hc.mono ?_
    rintro e w1 ⟨rfl, hb1⟩
    have HB1 : Hid (Below w.heap.size w w1) := hb1
    clear hb1 hc
    go_wp2_with fail
    refine (hnw _).mono ?_
    rintro e w2 ⟨rfl, hb2⟩
    have HB2 : Hid (Below w.heap.size w w2) := HB1.out.trans (hb2.mono HB1.out.size)
    clear hb2 hnw
    have hp2 := HP.out.below HB2.out
    obtain ⟨g', p', e2, -, hpi2, -, -, hcl2⟩ := hp2.slot HS.out
    cases e2
    have hc3 := (hcl2 5 _ rfl).1
    have hf3 := (hcl2 5 _ rfl).2
    have HP2 : Hid (PdS (w2.setCell ⟨g, i * 8 + 5, none⟩ (.string x)) ro db { D with S := D.S.set i { s with text := x } } (some ⟨g, 0, none⟩) scap ra rcap (L.set i p')) := hp2.store HS.out hpi2 (by omega) rfl rfl rfl rfl
    have HT : Hid (Turn (fun b => ro b ≠ 0) w (w2.setCell ⟨g, i * 8 + 5, none⟩ (.string x))) := Turn.setCell (A := fun b => ro b ≠ 0) ((below_turn HB2.out).mono (fun _ _ h => h.elim)) (p := ⟨g, i * 8 + 5, none⟩) (by show ro g ≠ 0; rw [hg2]; omega) _
    clear hp2 hpi2 hcl2
    go_wp2
    go_ret
    exact ⟨rfl, HT.out, ro, ⟨_, _, _, _, _, HP2.out⟩, fun b hb => .inl hb⟩
   ·have e1 : setTextD D h x = (D, (tans x.data.toList).2) := by simp [setTextD, ha, hs, hk, hnm]
    rw [e1]
    have hbn : ((tans x.data.toList).2 == 0) = false := beq_eq_false_iff_ne.2 hnm
    generalize (tans x.data.toList).1 = y1 at *
    generalize (tans x.data.toList).2 = y2 at *
    clear hp hcl hv ha e1 hs hk hnm hpi
    go_enter Tryz.func25, Tryz.ntmps25
    go_wp2_with fail
    refine hc.mono ?_
    rintro e w1 ⟨rfl, hb1⟩
    have HB1 : Hid (Below w.heap.size w w1) := hb1
    clear hb1 hc
    go_wp2_with fail
    refine (hnw _).mono ?_
    rintro e w2 ⟨rfl, hb2⟩
    have HB2 : Hid (Below w.heap.size w w2) := HB1.out.trans (hb2.mono HB1.out.size)
    clear hb2 hnw
    go_wp2
    go_ret
    exact ppost_same HD.out HB2.out
  ·rw [if_neg hk] at hc
   have e1 : setTextD D h x = (D, 30) := by simp [setTextD, ha, hs, hk]
   rw [e1]
   clear hp hcl hv ha e1 hs hk hpi
   go_enter Tryz.func25, Tryz.ntmps25
   go_wp2_with fail
   refine hc.mono ?_
   rintro e w1 ⟨rfl, hb1⟩
   have HB1 : Hid (Below w.heap.size w w1) := hb1
   clear hb1 hc
   go_wp2
   go_ret
   exact ppost_same HD.out HB1.out
def idxH (l : List Nat) (h : Nat) : Int := match l.findIdx? (fun y => y == h) with | some k => (k : Int) | none => -1
theorem idxH_of {l : List Nat} {h k : Nat} (hk : l[k]? = some h) (hno : ∀ j x, j < k -> l[j]? = some x -> x ≠ h) : idxH l h = (k : Int) := by
 have hlt := (List.getElem?_eq_some_iff.1 hk).1
 have : l.findIdx? (fun y => y == h) = some k := by
  rw [List.findIdx?_eq_some_iff_getElem]
  refine ⟨hlt, ?_, fun j hj => ?_⟩
  ·have := (List.getElem?_eq_some_iff.1 hk).2
   simp [this]
  ·have := hno j l[j] hj (List.getElem?_eq_getElem (by omega))
   simpa using this
 simp [idxH, this]
theorem idxH_none {l : List Nat} {h : Nat} (hno : ∀ (j : Nat) (x : Nat), l[j]? = some x -> x ≠ h) : idxH l h = -1 := by
 have : l.findIdx? (fun y => y == h) = none := by
  rw [List.findIdx?_eq_none_iff]
  intro x hx
  obtain ⟨j, hj⟩ := List.getElem?_of_mem hx
  have := hno j x hj
  simpa using this
 simp [idxH, this]
theorem idxH_mem {l : List Nat} {h : Nat} (hm : h ∈ l) : ∃ k : Nat, idxH l h = (k : Int) /\ l[k]? = some h /\ k < l.length := by
 cases hf : l.findIdx? (fun y => y == h) with
 | none =>
  rw [List.findIdx?_eq_none_iff] at hf
  have := hf h hm
  simp at this
 | some k =>
  rw [List.findIdx?_eq_some_iff_getElem] at hf
  obtain ⟨h1, h2, _⟩ := hf
  have e : l.findIdx? (fun y => y == h) = some k := by rw [List.findIdx?_eq_some_iff_getElem]; exact ⟨h1, h2, by assumption⟩
  refine ⟨k, by simp [idxH, e], ?_, h1⟩
  rw [List.getElem?_eq_getElem h1]
  simpa using h2
theorem index_any (w : World) (R : Nat -> Prop) (a : Option Addr) (l : List Nat) (cap h : Nat) (hat : HandsAt w R a l) (hl : l.length <= 1000000) (z : Int) (hz : idxH l h = z) :
  Calls Tryz.prog 85 #[.slice a l.length cap, .int .u64 (h : Int)] w fun e w' => e = .returned (.int .i64 z) /\ w' = w := by
 have HC : Hid (HandsAt w R a l) := hat
 have HZ : Hid (idxH l h = z) := hz
 clear hat hz
 go_enter Tryz.func85, Tryz.ntmps85
 go_wp2
 go_loop [5, 8] (fun _ i => ∃ k : Nat, k <= l.length /\ i = .int .i64 (k : Int) /\ Hid (∀ (j x : Nat), j < k -> l[j]? = some x -> x ≠ h)) (fun _ i => l.length - (intOf i).toNat)
 case atStart => exact ⟨0, Nat.zero_le _, rfl, fun j x hj => by omega⟩
 case round =>
  obtain ⟨k, hk, rfl, hno⟩ := hrel
  by_cases hlt : k < l.length
  ·obtain ⟨x, hx⟩ : ∃ x, l[k]? = some x := ⟨_, List.getElem?_eq_getElem hlt⟩
   obtain ⟨b, o, ha, -, hcell⟩ := HC.out k x hx
   subst ha
   by_cases he : x = h
   ·have hans : Hid ((k : Int) = z) := by
     show _ = _
     rw [<- HZ.out]
     exact (idxH_of (by rw [hx, he]) hno.out).symm
    have hb : ((h : Int) == (x : Int)) = true := by simp [he]
    have HE : Hid (x = h) := he
    clear he hx HZ
    go_wp2
    go_ret
    exact ⟨congrArg _ (v_int hans.out), rfl⟩
   ·have hb : ((h : Int) == (x : Int)) = false := by simp; omega
    have HX : Hid (l[k]? = some x) := hx
    have HE : Hid (x ≠ h) := he
    clear hx he
    go_wp2
    go_round
    case rel =>
     refine ⟨k + 1, by omega, by go_num, fun j y hj hy => ?_⟩
     by_cases e : j = k
     ·subst e
      rw [HX.out] at hy
      cases hy
      exact HE.out
     ·exact hno.out j y (by omega) hy
    case measure => simp [intOf]; omega
  ·have hans : Hid (-1 = z) := by
    show _ = _
    rw [<- HZ.out]
    exact (idxH_none (fun j x hj => hno.out j x (by have := (List.getElem?_eq_some_iff.1 hj).1; omega) hj)).symm
   go_wp2
   go_ret
   exact ⟨congrArg _ (v_int hans.out), rfl⟩
theorem rfind_any (w : World) (R : Nat -> Prop) (a : Option Addr) (l : List Nat) (cap h : Nat) (hat : HandsAt w R a l) (hl : l.length <= 1000000) (z : Int) (hz : idxH l h = z) :
  Calls Tryz.prog 102 #[.slice a l.length cap, .int .u64 (h : Int)] w fun e w' => e = .returned (.int .i64 z) /\ w' = w := by
 have HC : Hid (HandsAt w R a l) := hat
 have HZ : Hid (idxH l h = z) := hz
 clear hat hz
 go_enter Tryz.func102, Tryz.ntmps102
 go_wp2
 go_loop [5] (fun i => ∃ k : Nat, k <= l.length /\ i = .int .i64 (k : Int) /\ Hid (∀ (j x : Nat), j < k -> l[j]? = some x -> x ≠ h)) (fun i => l.length - (intOf i).toNat)
 case atStart => exact ⟨0, Nat.zero_le _, rfl, fun j x hj => by omega⟩
 case round =>
  obtain ⟨k, hk, rfl, hno⟩ := hrel
  by_cases hlt : k < l.length
  ·obtain ⟨x, hx⟩ : ∃ x, l[k]? = some x := ⟨_, List.getElem?_eq_getElem hlt⟩
   obtain ⟨b, o, ha, -, hcell⟩ := HC.out k x hx
   subst ha
   by_cases he : x = h
   ·have hans : Hid ((k : Int) = z) := by
     show _ = _
     rw [<- HZ.out]
     exact (idxH_of (by rw [hx, he]) hno.out).symm
    have hb : ((x : Int) == (h : Int)) = true := by simp [he]
    have HE : Hid (x = h) := he
    clear he hx HZ
    go_wp2
    go_ret
    exact ⟨congrArg _ (v_int hans.out), rfl⟩
   ·have hb : ((x : Int) == (h : Int)) = false := by simp; omega
    have HX : Hid (l[k]? = some x) := hx
    have HE : Hid (x ≠ h) := he
    clear hx he
    go_wp2
    go_round
    case rel =>
     refine ⟨k + 1, by omega, by go_num, fun j y hj hy => ?_⟩
     by_cases e : j = k
     ·subst e
      rw [HX.out] at hy
      cases hy
      exact HE.out
     ·exact hno.out j y (by omega) hy
    case measure => simp [intOf]; omega
  ·have hans : Hid (-1 = z) := by
    show _ = _
    rw [<- HZ.out]
    exact (idxH_none (fun j x hj => hno.out j x (by have := (List.getElem?_eq_some_iff.1 hj).1; omega) hj)).symm
   go_wp2
   go_ret
   exact ⟨congrArg _ (v_int hans.out), rfl⟩
theorem RdS.widen {w : World} {base : Nat} {Q Q' : Nat -> Prop} {rb : Nat} {D : Dc} {g cap : Nat} {ra : Option Addr} {rcap : Nat} {L : List (Value × Value)} (h : RdS w base Q rb D g cap ra rcap L) (h1 : ∀ b, Q b -> Q' b) (h2 : ∀ b, Q' b -> b ≠ g /\ b < w.heap.size) (h3 : ¬ Q' rb) : RdS w base Q' rb D g cap ra rcap L :=
 ⟨h.head, h.own, h.len, fun i s p hs hp => (h.vals i s p hs hp).to h1 (fun _ _ _ => rfl), h.roots.to h1 (fun _ _ _ => rfl), h.rlen, h2, h3, h.rbl⟩
theorem RdS.setRoots {w : World} {base : Nat} {Q : Nat -> Prop} {rb : Nat} {D : Dc} {g cap : Nat} {ra : Option Addr} {rcap : Nat} {L : List (Value × Value)} (h : RdS w base Q rb D g cap ra rcap L) {l' : List Nat} {a' : Option Addr} {c' : Nat} (hl : HandsAt w Q a' l') (hc : l'.length <= c') :
  RdS (w.setCell ⟨rb, 1, none⟩ (.slice a' l'.length c')) base Q rb { D with roots := l' } g cap a' c' L := by
 have hgb := h.gb
 have hrb := h.rbl
 have hne : ∀ b, Q b -> b ≠ rb := fun b hb e => h.nrb (e ▸ hb)
 have hcell : ∀ b o, Q b -> (w.setCell ⟨rb, 1, none⟩ (.slice a' l'.length c')).cell? ⟨b, o, none⟩ = w.cell? ⟨b, o, none⟩ := fun b o hb => World.cell?_of_block (w := w) (a := ⟨b, o, none⟩) (Below.heap_setCell _ _ _ _ (hne b hb))
 refine ⟨?_, own_of_block h.own (fun k hk => ?_), h.len, fun i s p hs hp => (h.vals i s p hs hp).to (fun _ h => h) hcell, hl.to (fun _ h => h) hcell, hc, fun b hb => ⟨(h.qne b hb).1, by simpa [World.setCell] using (h.qne b hb).2⟩, h.nrb, hrb⟩
 ·have := h.head.set 1 (.slice a' l'.length c')
  simpa using this
 ·cases hk
  exact Below.heap_setCell _ _ _ _ (by show g ≠ rb; omega)
theorem RdS.setKids {w : World} {base : Nat} {Q : Nat -> Prop} {rb : Nat} {D : Dc} {g cap : Nat} {ra : Option Addr} {rcap : Nat} {L : List (Value × Value)} (h : RdS w base Q rb D g cap ra rcap L) {i : Nat} {s : Sl} {p : Value × Value} (hs : D.S[i]? = some s) (hp : L[i]? = some p) {l' : List Nat} {a' : Option Addr} {c' : Nat} (hl : HandsAt w Q a' l') (hc : l'.length <= c') :
  RdS (w.setCell ⟨g, i * 8 + 7, none⟩ (.slice a' l'.length c')) base Q rb { D with S := D.S.set i { s with kids := l' } } g cap ra rcap (L.set i (p.1, .slice a' l'.length c')) := by
 obtain ⟨aa, ac, ka, kc, e, l1, l2, v1, v2⟩ := h.vals i s p hs hp
 refine h.store hs hp (by omega) rfl ⟨aa, ac, a', c', ?_, l1, hc, v1, hl⟩
 rw [e]
def setL (D : Dc) (p : Nat) (l' : List Nat) : Dc :=
 if p = 0 then { D with roots := l' } else match atI D.S p with
  | none => D
  | some i => match D.S[i]? with
   | none => D
   | some s => { D with S := D.S.set i { s with kids := l' } }
def SetP (w : World) (base : Nat) (Q : Nat -> Prop) (rb : Nat) (D' : Dc) (g cap : Nat) (e : Ending) (w' : World) : Prop :=
 e = .returned (.tuple #[]) /\ (∃ ra rcap L, RdS w' base Q rb D' g cap ra rcap L) /\ Turn (fun b => b = rb \/ b = g) w w'
theorem rset_any (w : World) (base : Nat) (Q : Nat -> Prop) (rb : Nat) (D : Dc) (g cap : Nat) (ra : Option Addr) (rcap : Nat) (L : List (Value × Value)) (p : Nat) (l' : List Nat) (a' : Option Addr) (c' : Nat) (h : RdS w base Q rb D g cap ra rcap L) (hf : Fits D) (hp : p = 0 \/ ∃ s, sl D p = some s) (hpl : p < 18446744073709551616) (hl : HandsAt w Q a' l') (hc : l'.length <= c') :
  Calls Tryz.prog 103 #[.pointer (some ⟨rb, 0, none⟩), .int .u64 (p : Int), .slice a' l'.length c'] w (SetP w base Q rb (setL D p l') g cap) := by
 have hrbs := h.head.lt
 by_cases h0 : p = 0
 ·have e1 : setL D p l' = { D with roots := l' } := by simp [setL, h0]
  rw [e1]
  have hz : ((p : Int) == 0) = true := by simp [h0]
  have hcl := h.head.cell
  have hfz := h.head.frozen
  have HR : Hid (RdS (w.setCell ⟨rb, 1, none⟩ (.slice a' l'.length c')) base Q rb { D with roots := l' } g cap a' c' L) := h.setRoots hl hc
  clear h e1 hp hl h0
  go_enter Tryz.func103, Tryz.ntmps103
  go_wp2
  go_end0
  exact ⟨rfl, ⟨_, _, _, HR.out⟩, Turn.setCell (A := fun b => b = rb \/ b = g) (Turn.refl _ w) (p := ⟨rb, 1, none⟩) (.inl rfl) _⟩
 ·obtain ⟨s, hs⟩ : ∃ s, sl D p = some s := by
   rcases hp with h | h
   ·exact absurd h h0
   ·exact h
  obtain ⟨i, hai, hsi, -⟩ := sl_live hs
  have e1 : setL D p l' = { D with S := D.S.set i { s with kids := l' } } := by simp only [setL, h0, if_false, hai, hsi]
  rw [e1]
  have hz : ((p : Int) == 0) = false := by simp; omega
  obtain ⟨q, hq, hvq, hcap, hhd, hcl⟩ := h.slot hsi
  have hat := rat_any w _ rb D p h.done.view hf hpl
  rw [atR_some hai] at hat
  have hat2 := rat_any w.drew _ rb D p (h.done.view.below ((Below.refl _ _).drew)) hf hpl
  rw [atR_some hai] at hat2
  have hc7 := (hcl 7 _ rfl).1
  have hf7 := (hcl 7 _ rfl).2
  have hil : (i : Int) < ((D.S.length : Nat) : Int) := by have := (List.getElem?_eq_some_iff.1 hsi).1; omega
  have hl4 := hf.len
  have hgs := h.gb
  have hgr : ¬ g = rb := by have := h.rbl; omega
  have hgr2 : ¬ rb = g := by omega
  have HR : Hid (RdS (w.drew.setCell ⟨g, i * 8 + 7, none⟩ (.slice a' l'.length c')) base Q rb { D with S := D.S.set i { s with kids := l' } } g cap ra rcap (L.set i (q.1, .slice a' l'.length c'))) := (h.below ((Below.refl _ _).drew)).setKids hsi hq (hl.to (fun _ h => h) (fun _ _ _ => rfl)) hc
  clear h e1 hp hl h0 hs hai hsi hq hvq hcl
  go_enter Tryz.func103, Tryz.ntmps103
  go_wp2
  go_region_held3 (fun w' => w'.cell? ⟨rb, 0, none⟩ = some (.slice (some ⟨g, 0, none⟩) D.S.length cap)) (go_keep) (first | (go_at_call 72; refine hat2.mono ?_; rintro e w1 ⟨rfl, rfl⟩))
  go_end0
  exact ⟨rfl, ⟨_, _, _, HR.out⟩, (Turn.setCell (A := fun b => b = rb \/ b = g) (Turn.refl _ w) (p := ⟨g, i * 8 + 7, none⟩) (.inr rfl) _).drew⟩
attribute [local go_sem] Bel.cell Bel.fz
def sliceAt (b o c k : Nat) : Option Addr := if c = k then some ⟨b, o, none⟩ else some ⟨b, o + k, none⟩
theorem ite_sliceAt (b o c k : Nat) : (if c = k then some (⟨b, o, none⟩ : Addr) else some ⟨b, o + k, none⟩) = sliceAt b o c k := rfl
attribute [local go_sem] ite_sliceAt
theorem step_app {P : Program} {t e : TypeId} {z : Value} {size bytes : Nat} {w : World} {ops : Array Oper} {o : Oper} {ac : Act} {K : Act -> World -> Prop} {Q : Exit -> Act -> World -> Prop} {E : Prop} (hgd : o.guard = none) (s x : Operand)
  (ho : o.op = .call { callee := .builtin .append, args := #[s, x], argTypes := #[t, t] }) (ht : P.underlying t = some (.slice e)) (hi : InfoOf P e z size bytes) (hzs : z.cells.size = size) (hsz : 0 < size)
  (base : Nat) (v : Value) (n : Nat) (xs : List Value) (hs : ac.eval s = v) (hown : w.ownsRow base e size v n xs) (a : Option Addr) (m c : Nat) (news : List Value) (hx : ac.eval x = .slice a m c) (hl : news.length = m * size)
  (hnews : ∀ j u, news[j]? = some u -> ∃ ad, a = some ad /\ w.cell? (ad.add j) = some u) (h1 : ∀ u ∈ news, u.oneCell' = true) (h63 : n + m <= maxLen) (hbytes : (n + m) * bytes <= 140737488355328) (hbase : base <= w.heap.size)
  (hK : ∀ v' w', w'.ownsRow base e size v' (n + m) (xs ++ news) -> w.grownBy w' v.ownBlock -> (v' = .slice none 0 0 ↔ v = .slice none 0 0 /\ m = 0) -> (v'.ownBlock = v.ownBlock \/ v'.ownBlock = some w.heap.size) -> K (ac.put o.dst v') w') :
  if Region.wanted o (yielded ops ac.tmps) = true then Oper.wp P o ac w K Q else E := by
 have hw : Region.wanted o (yielded ops ac.tmps) = true := by simp [Region.wanted, hgd]
 rw [if_pos hw]
 obtain ⟨v', w', hr, h2, h3, h4, h5⟩ := run_app (ty := o.type) ht hi hzs hsz w base v n xs hown a m c news hl hnews h1 h63 hbytes hbase
 unfold Oper.wp execOp
 simp only [ho, resolve, invoke, builtin, Sem.run_bind, Sem.run_pure, Result.andThen_ok, List.map_toArray, List.map_cons, List.map_nil, hs, hx, hr]
 exact hK v' w' h2 h3 h4 h5
theorem HandsAt.part {w W : World} {R : Nat -> Prop} {b o : Nat} {l : List Nat} (h : HandsAt w R (some ⟨b, o, none⟩) l) (hW : ∀ b o, R b -> W.cell? ⟨b, o, none⟩ = w.cell? ⟨b, o, none⟩) (k : Nat) (m : List Nat) (hm : ∀ j x, m[j]? = some x -> l[k + j]? = some x) : ∀ j u, (hvals m)[j]? = some u -> ∃ ad, some (⟨b, o + k, none⟩ : Addr) = some ad /\ W.cell? (ad.add j) = some u := by
 intro j u hu
 simp only [hvals, List.getElem?_map, Option.map_eq_some_iff] at hu
 obtain ⟨x, hx, rfl⟩ := hu
 obtain ⟨b', o', e, hR, hc⟩ := h (k + j) x (hm j x hx)
 simp only [Option.some.injEq, Addr.mk.injEq, and_true] at e
 obtain ⟨rfl, rfl⟩ := e
 refine ⟨_, rfl, ?_⟩
 rw [addr_plus, Nat.add_assoc, hW _ _ hR]
 exact hc
theorem take_at (l : List Nat) (k : Nat) : ∀ (j x : Nat), (l.take k)[j]? = some x -> l[0 + j]? = some x := by
 intro j x hx
 rw [Nat.zero_add]
 by_cases e : j < k
 ·rw [List.getElem?_take_of_lt e] at hx; exact hx
 ·rw [List.getElem?_eq_none (by simp; omega)] at hx; cases hx
theorem drop_at (l : List Nat) (k : Nat) : ∀ (j x : Nat), (l.drop k)[j]? = some x -> l[k + j]? = some x := by
 intro j x hx
 rw [List.getElem?_drop] at hx; exact hx
def OutP (w : World) (base : Nat) (Q : Nat -> Prop) (rb : Nat) (D' : Dc) (g cap : Nat) (e : Ending) (w' : World) : Prop :=
 e = .returned (.tuple #[]) /\ (∃ Q' ra rcap L, RdS w' base Q' rb D' g cap ra rcap L /\ ∀ b, Q' b -> Q b \/ w.heap.size <= b) /\ Turn (fun b => b = rb \/ b = g) w w'
theorem rset_new (w w3 w5 : World) (base : Nat) (Q : Nat -> Prop) (rb : Nat) (D : Dc) (g cap : Nat) (ra : Option Addr) (rcap : Nat) (L : List (Value × Value)) (p : Nat) (l' : List Nat) (a' : Option Addr) (c' N : Nat) (h : RdS w base Q rb D g cap ra rcap L) (hf : Fits D) (hp : p = 0 \/ ∃ s, sl D p = some s) (hpl : p < 18446744073709551616) (hb3 : Below w.heap.size w w3) (hb5 : Below w3.heap.size w3 w5) (hN : N = l'.length)
  (hown : w5.ownsRow w3.heap.size 32 1 (.slice a' N c') N (hvals l')) : Calls Tryz.prog 103 #[.pointer (some ⟨rb, 0, none⟩), .int .u64 (p : Int), .slice a' N c'] w5 (OutP w base Q rb (setL D p l') g cap) := by
 subst hN
 have hgs := h.gb
 have hrb := h.rbl
 have hs3 := hb3.size
 have hs5 := hb5.size
 have h5 := (h.below hb3).below hb5
 have hlt := own_block_lt hown
 obtain ⟨a2, c2, e, hle, hat⟩ := hands_row (R := fun b => Q b \/ (Value.slice a' l'.length c').ownBlock = some b) hown (fun b hb => .inr hb)
 simp only [Value.slice.injEq, true_and] at e
 obtain ⟨rfl, rfl⟩ := e
 have hw5 : RdS w5 base (fun b => Q b \/ (Value.slice a' l'.length c').ownBlock = some b) rb D g cap ra rcap L := h5.widen (fun _ h => .inl h) (fun b hb => by
  rcases hb with hb | hb
  ·exact h5.qne b hb
  ·have := hlt b hb
   exact ⟨by omega, this.2⟩) (fun hb => by
  rcases hb with hb | hb
  ·exact h.nrb hb
  ·have := hlt rb hb
   omega)
 refine (rset_any w5 base _ rb D g cap ra rcap L p l' a' c' hw5 hf hp hpl hat hle).mono ?_
 rintro e w6 ⟨rfl, ⟨ra', rcap', L', hr⟩, ht⟩
 refine ⟨rfl, ⟨_, ra', rcap', L', hr, fun b hb => ?_⟩, ?_⟩
 ·rcases hb with hb | hb
  ·exact .inl hb
  ·have := hlt b hb
   exact .inr (by omega)
 ·have h1 : Turn (fun b => b = rb \/ b = g) w w5 := ((below_turn (hb3.trans (hb5.mono hs3))).mono (fun _ _ h => h.elim))
  exact h1.trans ht
theorem rout_any (w : World) (base : Nat) (Q : Nat -> Prop) (rb : Nat) (D : Dc) (g cap : Nat) (ra : Option Addr) (rcap : Nat) (L : List (Value × Value)) (n : Nat) (s : Sl) (k : Nat) (h : RdS w base Q rb D g cap ra rcap L) (hw : WF D) (hs : sl D n = some s) (hk : idxH (lst D s.parent) n = (k : Int)) (hkl : k < (lst D s.parent).length) :
  Calls Tryz.prog 70 #[.pointer (some ⟨rb, 0, none⟩), .int .u64 (n : Int)] w (OutP w base Q rb (setL D s.parent ((lst D s.parent).take k ++ (lst D s.parent).drop (k + 1))) g cap) := by
 obtain ⟨lv, hlv⟩ := hw.lev
 obtain ⟨-, hpp⟩ := dep_par hlv hs
 obtain ⟨hnl, -, i, hai, hsi, -⟩ := hw.lt hs
 have hvw := h.done.view
 have hat := fun W (hb : Below w.heap.size w W) => rat_any W _ rb D n (hvw.below hb) hw.fits hnl
 rw [atR_some hai] at hat
 obtain ⟨q, hq, -, hcap, hhd, hcl⟩ := h.slot hsi
 have hc6 := (hcl 6 _ rfl).1
 have hgs := h.gb
 have hrbl := h.rbl
 have hil : (i : Int) < ((D.S.length : Nat) : Int) := by have := (List.getElem?_eq_some_iff.1 hsi).1; omega
 have hl4 := hw.fits.len
 have hpl := hw.ltz hpp
 have hll := lst_len hw hpp
 have HD : Hid (RdS w base Q rb D g cap ra rcap L) := h
 have HVW : Hid (View w (fun b => (Q b \/ (base <= b /\ b < w.heap.size)) \/ b = rb) rb D) := hvw
 have HF : Hid (Fits D) := hw.fits
 have HPP : Hid (s.parent = 0 \/ ∃ p, sl D s.parent = some p) := hpp
 have HLV : Hid (∀ W, Below w.heap.size w W -> ∃ a cap, (lst D s.parent).length <= cap /\ HandsAt W (fun b => (Q b \/ (base <= b /\ b < w.heap.size)) \/ b = rb) a (lst D s.parent) /\ Calls Tryz.prog 77 #[.pointer (some ⟨rb, 0, none⟩), .int .u64 (s.parent : Int)] W fun e w' => e = .returned (.slice a (lst D s.parent).length cap) /\ Below W.heap.size W w') := fun W hb => rlist_any W _ rb D s.parent (hvw.below hb) hw.fits hpl hpp
 clear h hw hs hlv hpp hai hsi hq hcl hvw
 have HK : Hid (idxH (lst D s.parent) n = (k : Int)) := hk
 clear hk
 generalize lst D s.parent = l at *
 generalize s.parent = p at *
 have hrbs : rb < w.heap.size := by omega
 go_enter Tryz.func70, Tryz.ntmps70
 go_wp2
 refine wp_region_bel (by kernel_rfl) (by kernel_rfl) ?_
 intro hne
 repeat go_big_quiet_step ((go_at_call 72; exact Calls.bel_of_same (hat _ (Bel.h _))))
 refine wpQuiet_nil ?_
 rintro w1 ⟨u, hu⟩
 have hb1 := u.h
 rw [<- hu] at hb1
 clear hu u
 obtain ⟨la, lcap, hlc, hlat, hcal⟩ := HLV.out w1 hb1
 have HB1 : Hid (Below w.heap.size w w1) := hb1
 have HLAT : Hid (HandsAt w1 (fun b => (Q b \/ (base <= b /\ b < w.heap.size)) \/ b = rb) la l) := hlat
 clear hb1 hlat HLV hat hne
 go_wp2_with fail
 refine hcal.mono ?_
 rintro e w2 ⟨rfl, hb2⟩
 have hs1 := HB1.out.size
 have hs2 := hb2.size
 have HB2 : Hid (Below w.heap.size w w2) := HB1.out.trans (hb2.mono hs1)
 have HL2 : Hid (HandsAt w2 (fun b => (Q b \/ (base <= b /\ b < w.heap.size)) \/ b = rb) la l) := HLAT.out.to (fun _ h => h) (fun b o hb => hb2.cell (p := ⟨b, o, none⟩) (by have := HVW.out.lt b hb; show b < w1.heap.size; omega))
 have hfi := rfind_any w2 _ la l lcap n HL2.out (by omega) _ HK.out
 clear hb2 hcal HLAT HB1
 go_wp2_with fail
 refine hfi.mono ?_
 rintro e w3 ⟨rfl, rfl⟩
 obtain ⟨x, hx⟩ : ∃ x, l[k]? = some x := ⟨_, List.getElem?_eq_getElem hkl⟩
 obtain ⟨lb, lo, rfl, hlbR, -⟩ := HL2.out k x hx
 have i1 : (0 : Int) <= (k : Int) := by omega
 have i2 : (k : Int) <= ((l.length : Nat) : Int) := by omega
 have i3 : (k : Int) + 1 <= ((l.length : Nat) : Int) := by omega
 have i4 : ((l.length : Nat) : Int) <= (lcap : Int) := by omega
 have i5 : (k : Int) <= (lcap : Int) := by omega
 have i6 : (k : Int) + 1 <= (lcap : Int) := by omega
 have i7 : (0 : Int) <= (k : Int) + 1 := by omega
 have i8 : ¬ (k : Int) + 1 < 0 := by omega
 have i9 : ¬ ((l.length : Nat) : Int) < (k : Int) + 1 := by omega
 have i10 : ¬ (lcap : Int) < ((l.length : Nat) : Int) := by omega
 have i11 : ((k : Int) + 1).toNat = k + 1 := by omega
 have i12 : (((l.length : Nat) : Int) - ((k : Int) + 1)).toNat = l.length - (k + 1) := by omega
 have HB3 : Hid (Below w3.heap.size w3 (w3.alloc (.cells #[] 32)).drew) := (below_new' w3 _).drew
 have HC : Hid (∀ W, Below w3.heap.size w3 W -> ∀ b o, ((Q b \/ (base <= b /\ b < w.heap.size)) \/ b = rb) -> W.cell? ⟨b, o, none⟩ = w3.cell? ⟨b, o, none⟩) := fun W hb b o hR => hb.cell (p := ⟨b, o, none⟩) (by have := HVW.out.lt b hR; show b < w3.heap.size; omega)
 have HN1 : Hid (∀ j u, (hvals (l.take k))[j]? = some u -> ∃ ad, some (⟨lb, lo, none⟩ : Addr) = some ad /\ ((w3.alloc (.cells #[] 32)).drew).cell? (ad.add j) = some u) := by
  have := HL2.out.part (HC.out _ HB3.out) 0 (l.take k) (take_at l k)
  show ∀ _, _
  simpa using this
 have hAn : Hid (∀ W, Below w3.heap.size w3 W -> ∀ j u, (hvals (l.drop (k + 1)))[j]? = some u -> ∃ ad, sliceAt lb lo lcap (k + 1) = some ad /\ W.cell? (ad.add j) = some u) := by
  intro W hb j u hu
  unfold sliceAt
  by_cases e : lcap = k + 1
  ·rw [show l.drop (k + 1) = [] from List.drop_eq_nil_of_le (by omega)] at hu
   simp [hvals] at hu
  ·rw [if_neg e]
   exact HL2.out.part (HC.out W hb) (k + 1) (l.drop (k + 1)) (drop_at l (k + 1)) j u hu
 have hT1 : Hid ((hvals (l.take k)).length = k * 1) := by show _ = _; rw [hvals_length]; simp; omega
 have hT2 : Hid ((hvals (l.drop (k + 1))).length = (l.length - (k + 1)) * 1) := by show _ = _; rw [hvals_length]; simp
 have hwr : IntKind.i64.wrap ((k : Int) + 1) = (k : Int) + 1 := by rw [IntKind.wrap_i64]; omega
 clear hfi hx HC HL2
 have tok1 : True := trivial
 have tok2 : True := trivial
 go_wp2_with fail
 go_region_held3 (fun _ => True) (trivial)
  (first
   | (have _t := tok1; refine step_app (by rfl) _ _ (by rfl) Tryz.underlying56 info42 rfl (by decide) w3.heap.size (.slice (some ⟨w3.heap.size, 0, none⟩) 0 0) 0 [] (by rfl) (by exact own_of_block (own_new w3 32 1) (fun _ _ => rfl)) (some ⟨lb, lo, none⟩) k lcap (hvals (l.take k)) (by rfl) hT1.out HN1.out (hvals_one _) (by unfold maxLen; omega) (by omega) (by simp) ?_; intro v1 w4 hown1 hg1 _ hat1; obtain ⟨va1, vc1, hv1⟩ := own_slice hown1; subst hv1; rw [Nat.zero_add, List.nil_append] at hown1; rw [Nat.zero_add]; have HO1 : Hid (w4.ownsRow w3.heap.size 32 1 (.slice va1 k vc1) k (hvals (l.take k))) := hown1; have HB4 : Hid (Below w3.heap.size w3 w4) := HB3.out.grown hg1 (by simp) (fun k hk => by simp only [Value.ownBlock, Option.some.injEq] at hk; omega); clear hown1 hg1 hat1 tok1 _t)
   | (have _t := tok2; refine step_app (by rfl) _ _ (by rfl) Tryz.underlying56 info42 rfl (by decide) w3.heap.size (.slice va1 k vc1) k (hvals (l.take k)) (by rfl) HO1.out (sliceAt lb lo lcap (k + 1)) (l.length - (k + 1)) (lcap - (k + 1)) (hvals (l.drop (k + 1))) (by rfl) hT2.out (hAn.out _ HB4.out) (hvals_one _) (by unfold maxLen; omega) (by omega) HB4.out.size ?_; intro v2 w5 hown2 hg2 _ hat2; obtain ⟨va2, vc2, hv2⟩ := own_slice hown2; subst hv2; have HO2 : Hid (w5.ownsRow w3.heap.size 32 1 (.slice va2 (k + (l.length - (k + 1))) vc2) (k + (l.length - (k + 1))) (hvals (l.take k ++ l.drop (k + 1)))) := (by rw [hvals_append]; exact hown2); have HB5 : Hid (Below w3.heap.size w3 w5) := HB4.out.grown hg2 HB4.out.size (fun k hk => (own_block_lt HO1.out k hk).1); generalize hNN : k + (l.length - (k + 1)) = N at HO2 ⊢; have HCN := rset_new w w3 w5 base Q rb D g cap ra rcap L p (l.take k ++ l.drop (k + 1)) va2 vc2 N HD.out HF.out HPP.out hpl HB2.out HB5.out (by rw [<- hNN]; simp; omega) HO2.out; clear hown2 hg2 hat2 tok2 _t hNN)
   | (go_at_call 103; refine HCN.mono ?_; rintro e w6 ⟨rfl, hq6, ht6⟩; have HQ6 : Hid (∃ Q' ra rcap L, RdS w6 base Q' rb (setL D p (l.take k ++ l.drop (k + 1))) g cap ra rcap L /\ ∀ b, Q' b -> Q b \/ w.heap.size <= b) := hq6; have HT6 : Hid (Turn (fun b => b = rb \/ b = g) w w6) := ht6; clear hq6 ht6 HCN))
 go_end0
 exact ⟨rfl, HQ6.out, HT6.out⟩
theorem info128 : InfoOf Tryz.prog 52 (.agg #[.string ⟨#[]⟩, .string ⟨#[]⟩]) 2 32 := by unfold InfoOf; kernel_rfl
def FrP (w : World) (e : TypeId) (size n : Nat) (xs : List Value) (en : Ending) (w' : World) : Prop :=
 ∃ a cap, en = .returned (.slice a n cap) /\ w'.ownsRow w.heap.size e size (.slice a n cap) n xs /\ Below w.heap.size w w'
theorem HandsAt.news {w : World} {R : Nat -> Prop} {a : Option Addr} {l : List Nat} (h : HandsAt w R a l) : ∀ j u, (hvals l)[j]? = some u -> ∃ ad, a = some ad /\ w.cell? (ad.add j) = some u := by
 intro j u hu
 simp only [hvals, List.getElem?_map, Option.map_eq_some_iff] at hu
 obtain ⟨x, hx, rfl⟩ := hu
 obtain ⟨b, o, e, _, hc⟩ := h j x hx
 exact ⟨_, e, by rw [addr_plus]; exact hc⟩
theorem AttrsR.news {w : World} {R : Nat -> Prop} {a : Option Addr} {l : List (ByteArray × ByteArray)} (h : AttrsR w R a l) : ∀ j u, (attrCells l)[j]? = some u -> ∃ ad, a = some ad /\ w.cell? (ad.add j) = some u := by
 intro j u hu
 have hlt := (List.getElem?_eq_some_iff.1 hu).1
 rw [attrCells_length] at hlt
 obtain ⟨p, hp⟩ : ∃ p, l[j / 2]? = some p := ⟨_, List.getElem?_eq_getElem (by omega)⟩
 obtain ⟨b, o, rfl, _, h1, h2⟩ := h _ p hp
 obtain ⟨g1, g2⟩ := attrCells_get l _ p hp
 refine ⟨_, rfl, ?_⟩
 rw [addr_plus]
 rcases Nat.mod_two_eq_zero_or_one j with e | e
 ·have ej : j / 2 * 2 = j := by omega
  rw [ej] at g1 h1
  rw [hu] at g1
  rw [h1, Option.some.inj g1]
 ·have ej : j / 2 * 2 + 1 = j := by omega
  rw [ej] at g2
  rw [Nat.add_assoc, ej] at h2
  rw [hu] at g2
  rw [h2, Option.some.inj g2]
theorem freshA_any (w : World) (R : Nat -> Prop) (a : Option Addr) (l : List (ByteArray × ByteArray)) (cap : Nat) (h : AttrsR w R a l) (hl : l.length <= 1000000) :
  Calls Tryz.prog 83 #[.slice a l.length cap] w (FrP w 52 2 l.length (attrCells l)) := by
 have HN : Hid (∀ j u, (attrCells l)[j]? = some u -> ∃ ad, a = some ad /\ w.cell? (ad.add j) = some u) := h.news
 have HL : Hid ((attrCells l).length = l.length * 2) := attrCells_length l
 clear h
 have tok : True := trivial
 go_enter Tryz.func83, Tryz.ntmps83
 go_wp2_with (at_builtin; have _t := tok; refine wpList_app rfl _ _ rfl Tryz.underlying33 info128 rfl (by decide) w.heap.size (.slice none 0 0) 0 [] rfl (own_nil _ _ _ _) a l.length cap (attrCells l) rfl HL.out HN.out (attrCells_one _) (by unfold maxLen; omega) (by omega) (Nat.le_refl _) ?_; intro v1 w1 hown1 hg1 _ hat1; clear tok _t; obtain ⟨va, vc, hv1⟩ := own_slice hown1; subst hv1; rw [Nat.zero_add, List.nil_append] at hown1; rw [Nat.zero_add]; have HO : Hid (w1.ownsRow w.heap.size 52 2 (.slice va l.length vc) l.length (attrCells l)) := hown1; have HB : Hid (Below w.heap.size w w1) := (Below.refl _ _).grown hg1 (Nat.le_refl _) (fun k hk => by cases hk); clear hown1 hg1 hat1)
 go_ret
 exact ⟨va, vc, rfl, HO.out, HB.out⟩
end Go.Proofs.YtmapmkogjhinmaaGreat
