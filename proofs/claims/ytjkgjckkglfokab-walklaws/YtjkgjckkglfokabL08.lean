/- SetName and SetText, by the document. -/
import Derived.Test.YtjkgjckkglfokabL07
import Derived.Deep.RegionHeld3
import Derived.Test.YtjkgjckkglfokabL04
import Derived.Test.YtjkgjckkglfokabL02
namespace Go.Proofs.Ytjkgjckkglfokab.Gr
open Go.RowKit
set_option linter.unusedVariables false
set_option linter.unusedSimpArgs false

/-- The cells of a slot under change. -/
theorem RdS.slot {w : World} {base : Nat} {Q : Nat → Prop} {rb : Nat} {D : Dc} {g cap : Nat} {ra : Option Addr} {rcap : Nat} {L : List (Value × Value)} (h : RdS w base Q rb D g cap ra rcap L) {i : Nat} {s : Sl} (hs : D.S[i]? = some s) :
    ∃ p, L[i]? = some p ∧ SlotVals w Q s p ∧ D.S.length ≤ cap ∧ w.cell? ⟨rb, 0, none⟩ = some (.slice (some ⟨g, 0, none⟩) D.S.length cap) ∧ ∀ j u, (slotCells s p)[j]? = some u → w.cell? ⟨g, i * 8 + j, none⟩ = some u ∧ w.frozen? ⟨g, i * 8 + j, none⟩ = false := by
  have hi := (List.getElem?_eq_some_iff.1 hs).1
  obtain ⟨p, hp⟩ : ∃ p, L[i]? = some p := ⟨_, List.getElem?_eq_getElem (by rw [h.len]; exact hi)⟩
  obtain ⟨h1, h2, h3⟩ := row_cell h.own
  refine ⟨p, hp, h.vals i s p hs hp, h1, by rw [h.head.cell]; rfl, fun j u hu => ?_⟩
  have hj8 : j < 8 := (List.getElem?_eq_some_iff.1 hu).1
  obtain ⟨g', e1, _, _, e2⟩ := h3 (i * 8 + j) u (by rw [rowOf_get hs hp hj8]; exact hu)
  cases e1
  exact ⟨e2, own_frozen h.own _⟩

end Go.Proofs.Ytjkgjckkglfokab.Gr

/- The program's documents: what they hold, each list in a row of its own. -/
namespace Go.Proofs.Ytjkgjckkglfokab.Gr
open Go.RowKit
set_option linter.unusedVariables false
set_option linter.unusedSimpArgs false

/-- A document of the program's in memory. ro: which part a block is (0: none; 1: the document; 2: its slots; 3: its roots; 2i+4, 2i+5: the attributes and the children of slot i). -/
structure PdS (w : World) (ro : Nat → Nat) (db : Nat) (D : Dc) (sa : Option Addr) (scap : Nat) (ra : Option Addr) (rcap : Nat) (L : List (Value × Value)) : Prop where
  head : IsCells w db #[.slice sa D.S.length scap, .slice ra D.roots.length rcap, .int .i64 (cnt Sl.live D.S : Int)]
  slots : w.ownsRow 0 79 8 (.slice sa D.S.length scap) D.S.length (rowOf D.S L)
  roots : w.ownsRow 0 51 1 (.slice ra D.roots.length rcap) D.roots.length (hvals D.roots)
  len : L.length = D.S.length
  vals : ∀ (i : Nat) (s : Sl) (p : Value × Value), D.S[i]? = some s → L[i]? = some p → w.ownsRow 0 90 2 p.1 s.attrs.length (attrCells s.attrs) ∧ w.ownsRow 0 51 1 p.2 s.kids.length (hvals s.kids)
  rdb : ro db = 1
  rs : ∀ b, (Value.slice sa D.S.length scap).ownBlock = some b → ro b = 2
  rr : ∀ b, (Value.slice ra D.roots.length rcap).ownBlock = some b → ro b = 3
  rat : ∀ (i : Nat) (p : Value × Value) (b : Nat), L[i]? = some p → p.1.ownBlock = some b → ro b = 2 * i + 4
  rk : ∀ (i : Nat) (p : Value × Value) (b : Nat), L[i]? = some p → p.2.ownBlock = some b → ro b = 2 * i + 5
  lt : ∀ b, ro b ≠ 0 → b < w.heap.size

def PDoc (w : World) (ro : Nat → Nat) (db : Nat) (D : Dc) : Prop := ∃ sa scap ra rcap L, PdS w ro db D sa scap ra rcap L

/-- Handles in a row of one's own. -/
theorem hands_row {w : World} {R : Nat → Prop} {base : Nat} {e : TypeId} {v : Value} {l : List Nat} (h : w.ownsRow base e 1 v l.length (hvals l)) (hR : ∀ b, v.ownBlock = some b → R b) : ∃ a cap, v = .slice a l.length cap ∧ l.length ≤ cap ∧ HandsAt w R a l := by
  obtain ⟨a, cap, rfl⟩ := own_slice h
  obtain ⟨h1, _, h3⟩ := row_cell h
  refine ⟨a, cap, rfl, h1, fun i x hx => ?_⟩
  obtain ⟨g, rfl, _, _, hc⟩ := h3 i (.int .u64 (x : Int)) (by simp [hvals, hx])
  exact ⟨g, 0, rfl, hR g rfl, by rw [Nat.zero_add]; exact hc⟩

theorem attrs_row' {w : World} {R : Nat → Prop} {base : Nat} {e : TypeId} {v : Value} {l : List (ByteArray × ByteArray)} (h : w.ownsRow base e 2 v l.length (attrCells l)) (hR : ∀ b, v.ownBlock = some b → R b) : ∃ a cap, v = .slice a l.length cap ∧ l.length ≤ cap ∧ AttrsR w R a l := by
  obtain ⟨a, cap, rfl⟩ := own_slice h
  obtain ⟨h1, _, h3⟩ := attrs_row h rfl
  exact ⟨a, cap, rfl, h3, h1.to (fun b hb => hR b hb.1) (fun _ _ _ => rfl)⟩

theorem PdS.slotVals {w : World} {ro : Nat → Nat} {db : Nat} {D : Dc} {sa : Option Addr} {scap : Nat} {ra : Option Addr} {rcap : Nat} {L : List (Value × Value)} (h : PdS w ro db D sa scap ra rcap L) {i : Nat} {s : Sl} {p : Value × Value} (hs : D.S[i]? = some s) (hp : L[i]? = some p) : SlotVals w (fun b => ro b ≠ 0) s p := by
  obtain ⟨h1, h2⟩ := h.vals i s p hs hp
  obtain ⟨aa, ac, e1, l1, v1⟩ := attrs_row' (R := fun b => ro b ≠ 0) h1 (fun b hb => by rw [h.rat i p b hp hb]; omega)
  obtain ⟨ka, kc, e2, l2, v2⟩ := hands_row (R := fun b => ro b ≠ 0) h2 (fun b hb => by rw [h.rk i p b hp hb]; omega)
  exact ⟨aa, ac, ka, kc, by rw [← e1, ← e2], l1, l2, v1, v2⟩

theorem PdS.view {w : World} {ro : Nat → Nat} {db : Nat} {D : Dc} {sa : Option Addr} {scap : Nat} {ra : Option Addr} {rcap : Nat} {L : List (Value × Value)} (h : PdS w ro db D sa scap ra rcap L) : View w (fun b => ro b ≠ 0) db D := by
  obtain ⟨h1, _, h3⟩ := slots_row (R := fun b => ro b ≠ 0) h.len h.slots (fun i s p hs hp => h.slotVals hs hp) (fun g e _ _ => by subst e; rw [h.rs g rfl]; omega)
  obtain ⟨a, cap, e, l, hr⟩ := hands_row (R := fun b => ro b ≠ 0) h.roots (fun b hb => by rw [h.rr b hb]; omega)
  simp only [Value.slice.injEq, true_and] at e
  obtain ⟨rfl, rfl⟩ := e
  exact ⟨by show ro db ≠ 0; rw [h.rdb]; omega, h.lt, ⟨sa, scap, by rw [h.head.cell]; rfl, h3, h1⟩, ⟨ra, rcap, by rw [h.head.cell]; rfl, l, hr⟩⟩

theorem PDoc.view {w : World} {ro : Nat → Nat} {db : Nat} {D : Dc} (h : PDoc w ro db D) : View w (fun b => ro b ≠ 0) db D := by
  obtain ⟨_, _, _, _, _, h⟩ := h
  exact h.view

/-- Blocks of the document as they were: the document as it was. -/
theorem PdS.of_blocks {w w' : World} {ro : Nat → Nat} {db : Nat} {D : Dc} {sa : Option Addr} {scap : Nat} {ra : Option Addr} {rcap : Nat} {L : List (Value × Value)} (h : PdS w ro db D sa scap ra rcap L) (hb : ∀ b, ro b ≠ 0 → w'.heap[b]? = w.heap[b]?) (hs : w.heap.size ≤ w'.heap.size) : PdS w' ro db D sa scap ra rcap L := by
  refine ⟨h.head.of_block (hb db (by rw [h.rdb]; omega)), own_of_block h.slots (fun k hk => hb k (by rw [h.rs k hk]; omega)), own_of_block h.roots (fun k hk => hb k (by rw [h.rr k hk]; omega)), h.len, fun i s p hs' hp => ?_, h.rdb, h.rs, h.rr, h.rat, h.rk, fun b hb' => Nat.lt_of_lt_of_le (h.lt b hb') hs⟩
  obtain ⟨h1, h2⟩ := h.vals i s p hs' hp
  exact ⟨own_of_block h1 (fun k hk => hb k (by rw [h.rat i p k hp hk]; omega)), own_of_block h2 (fun k hk => hb k (by rw [h.rk i p k hp hk]; omega))⟩
theorem PdS.below {w w' : World} {ro : Nat → Nat} {db : Nat} {D : Dc} {sa : Option Addr} {scap : Nat} {ra : Option Addr} {rcap : Nat} {L : List (Value × Value)} (h : PdS w ro db D sa scap ra rcap L) (hb : Below w.heap.size w w') : PdS w' ro db D sa scap ra rcap L :=
  h.of_blocks (fun b hb' => hb.block b (h.lt b hb')) hb.size
theorem PDoc.turn {w w' : World} {ro : Nat → Nat} {A : Nat → Prop} {db : Nat} {D : Dc} (h : PDoc w ro db D) (ht : Turn A w w') (hA : ∀ b, ro b ≠ 0 → ¬ A b) : PDoc w' ro db D := by
  obtain ⟨sa, scap, ra, rcap, L, h⟩ := h
  exact ⟨sa, scap, ra, rcap, L, h.of_blocks (fun b hb' => ht.block b (h.lt b hb') (hA b hb')) ht.size⟩

/-- A slot's cells. -/
theorem PdS.slot {w : World} {ro : Nat → Nat} {db : Nat} {D : Dc} {sa : Option Addr} {scap : Nat} {ra : Option Addr} {rcap : Nat} {L : List (Value × Value)} (h : PdS w ro db D sa scap ra rcap L) {i : Nat} {s : Sl} (hs : D.S[i]? = some s) :
    ∃ g p, sa = some ⟨g, 0, none⟩ ∧ ro g = 2 ∧ L[i]? = some p ∧ D.S.length ≤ scap ∧ w.cell? ⟨db, 0, none⟩ = some (.slice (some ⟨g, 0, none⟩) D.S.length scap) ∧ ∀ j u, (slotCells s p)[j]? = some u → w.cell? ⟨g, i * 8 + j, none⟩ = some u ∧ w.frozen? ⟨g, i * 8 + j, none⟩ = false := by
  have hi := (List.getElem?_eq_some_iff.1 hs).1
  obtain ⟨p, hp⟩ : ∃ p, L[i]? = some p := ⟨_, List.getElem?_eq_getElem (by rw [h.len]; exact hi)⟩
  obtain ⟨h1, h2, h3⟩ := row_cell h.slots
  obtain ⟨g, e, _, _, _⟩ := h3 (i * 8 + 0) _ (by rw [rowOf_get hs hp (by omega)]; rfl)
  subst e
  refine ⟨g, p, rfl, h.rs g rfl, hp, h1, by rw [h.head.cell]; rfl, fun j u hu => ?_⟩
  have hj8 : j < 8 := (List.getElem?_eq_some_iff.1 hu).1
  obtain ⟨g', e1, _, _, e2⟩ := h3 (i * 8 + j) u (by rw [rowOf_get hs hp hj8]; exact hu)
  cases e1
  exact ⟨e2, own_frozen h.slots _⟩

theorem cnt_set {f : Sl → Bool} {S : List Sl} {i : Nat} {s s' : Sl} (hs : S[i]? = some s) (hf : f s' = f s) : cnt f (S.set i s') = cnt f S := by
  unfold cnt
  have hi := (List.getElem?_eq_some_iff.1 hs).1
  have hsp : S = S.take i ++ s :: S.drop (i + 1) := by
    rw [← (List.getElem?_eq_some_iff.1 hs).2, ← List.drop_eq_getElem_cons hi, List.take_append_drop]
  have hst : S.set i s' = S.take i ++ s' :: S.drop (i + 1) := by
    rw [List.set_eq_take_append_cons_drop, if_pos hi]
  rw [hst]
  conv => rhs; rw [hsp]
  rw [List.filter_append, List.filter_append, List.filter_cons, List.filter_cons, hf]
  split <;> simp

/-- One plain cell of one slot stored. -/
theorem PdS.store {w : World} {ro : Nat → Nat} {db : Nat} {D : Dc} {g scap : Nat} {ra : Option Addr} {rcap : Nat} {L : List (Value × Value)} (h : PdS w ro db D (some ⟨g, 0, none⟩) scap ra rcap L) {i j : Nat} {s s' : Sl} {p : Value × Value} {u : Value} (hs : D.S[i]? = some s) (hp : L[i]? = some p) (hj : j < 8) (hc : slotCells s' p = (slotCells s p).set j u)
    (h1 : s'.attrs = s.attrs) (h2 : s'.kids = s.kids) (h3 : s'.live = s.live) : PdS (w.setCell ⟨g, i * 8 + j, none⟩ u) ro db { D with S := D.S.set i s' } (some ⟨g, 0, none⟩) scap ra rcap (L.set i p) := by
  have hg : ro g = 2 := h.rs g rfl
  have hi := (List.getElem?_eq_some_iff.1 hs).1
  have hLs : L.set i p = L := by
    apply List.ext_getElem?
    intro m
    by_cases e : m = i
    · subst e; rw [List.getElem?_set_self (by rw [h.len]; exact hi), hp]
    · rw [List.getElem?_set_ne (by omega)]
  have hblk : ∀ b, ro b ≠ 2 → (w.setCell ⟨g, i * 8 + j, none⟩ u).heap[b]? = w.heap[b]? := fun b hb => Below.heap_setCell _ _ _ _ (by show b ≠ g; rintro rfl; exact hb hg)
  refine ⟨?_, ?_, own_of_block h.roots (fun k hk => hblk k (by rw [h.rr k hk]; omega)), by simp [h.len], fun k x y hx hy => ?_, h.rdb, by simpa using h.rs, h.rr, ?_, ?_, fun b hb => by simpa [World.setCell] using h.lt b hb⟩
  · have := h.head.of_block (hblk db (by rw [h.rdb]; omega))
    rw [show cnt Sl.live ({ D with S := D.S.set i s' } : Dc).S = cnt Sl.live D.S from cnt_set hs h3]
    simpa using this
  · have := own_set h.slots (i * 8 + j) u
    rw [← rowOf_set h.len hs hp hj hc] at this
    simpa using this
  · rw [hLs] at hy
    by_cases hk : k = i
    · subst hk
      rw [List.getElem?_set_self hi] at hx
      cases hx
      rw [hp] at hy
      cases hy
      obtain ⟨v1, v2⟩ := h.vals k s p hs hp
      rw [h1, h2]
      exact ⟨own_of_block v1 (fun b hb => hblk b (by rw [h.rat k p b hp hb]; omega)), own_of_block v2 (fun b hb => hblk b (by rw [h.rk k p b hp hb]; omega))⟩
    · rw [List.getElem?_set_ne (by omega)] at hx
      obtain ⟨v1, v2⟩ := h.vals k x y hx hy
      exact ⟨own_of_block v1 (fun b hb => hblk b (by rw [h.rat k y b hy hb]; omega)), own_of_block v2 (fun b hb => hblk b (by rw [h.rk k y b hy hb]; omega))⟩
  · rw [hLs]; exact h.rat
  · rw [hLs]; exact h.rk

end Go.Proofs.Ytjkgjckkglfokab.Gr

/- SetName and SetText of the program. -/
namespace Go.Proofs.Ytjkgjckkglfokab.Gr
open Go.RowKit
set_option linter.unusedVariables false
set_option linter.unusedSimpArgs false

end Go.Proofs.Ytjkgjckkglfokab.Gr

/- Where a handle stands in a list: slices.Index and the document's find. -/
namespace Go.Proofs.Ytjkgjckkglfokab.Gr
open Go.RowKit
set_option linter.unusedVariables false
set_option linter.unusedSimpArgs false

def idxH (l : List Nat) (h : Nat) : Int := match l.findIdx? (fun y => y == h) with | some k => (k : Int) | none => -1

theorem idxH_of {l : List Nat} {h k : Nat} (hk : l[k]? = some h) (hno : ∀ j x, j < k → l[j]? = some x → x ≠ h) : idxH l h = (k : Int) := by
  have hlt := (List.getElem?_eq_some_iff.1 hk).1
  have : l.findIdx? (fun y => y == h) = some k := by
    rw [List.findIdx?_eq_some_iff_getElem]
    refine ⟨hlt, ?_, fun j hj => ?_⟩
    · have := (List.getElem?_eq_some_iff.1 hk).2
      simp [this]
    · have := hno j l[j] hj (List.getElem?_eq_getElem (by omega))
      simpa using this
  simp [idxH, this]
theorem idxH_none {l : List Nat} {h : Nat} (hno : ∀ (j : Nat) (x : Nat), l[j]? = some x → x ≠ h) : idxH l h = -1 := by
  have : l.findIdx? (fun y => y == h) = none := by
    rw [List.findIdx?_eq_none_iff]
    intro x hx
    obtain ⟨j, hj⟩ := List.getElem?_of_mem hx
    have := hno j x hj
    simpa using this
  simp [idxH, this]
theorem idxH_mem {l : List Nat} {h : Nat} (hm : h ∈ l) : ∃ k : Nat, idxH l h = (k : Int) ∧ l[k]? = some h ∧ k < l.length := by
  cases hf : l.findIdx? (fun y => y == h) with
  | none =>
    rw [List.findIdx?_eq_none_iff] at hf
    have := hf h hm
    simp at this
  | some k =>
    rw [List.findIdx?_eq_some_iff_getElem] at hf
    obtain ⟨h1, h2, _⟩ := hf
    have e : l.findIdx? (fun y => y == h) = some k := by rw [List.findIdx?_eq_some_iff_getElem]; exact ⟨h1, h2, by assumption⟩
    refine ⟨k, by simp [idxH, e], ?_, h1⟩
    rw [List.getElem?_eq_getElem h1]
    simpa using h2

set_option maxRecDepth 100000 in
set_option maxHeartbeats 400000 in
theorem index_any (w : World) (R : Nat → Prop) (a : Option Addr) (l : List Nat) (cap h : Nat) (hat : HandsAt w R a l) (hl : l.length ≤ 1000000) (z : Int) (hz : idxH l h = z) :
    Calls Try.prog 57 #[.slice a l.length cap, .int .u64 (h : Int)] w fun e w' => e = .returned (.int .i64 z) ∧ w' = w := by
  have HC : Hid (HandsAt w R a l) := hat
  have HZ : Hid (idxH l h = z) := hz
  clear hat hz
  go_enter Try.func57, Try.ntmps57
  go_wp2
  go_loop [5, 8] (fun _ i => ∃ k : Nat, k ≤ l.length ∧ i = .int .i64 (k : Int) ∧ Hid (∀ (j x : Nat), j < k → l[j]? = some x → x ≠ h)) (fun _ i => l.length - (intOf i).toNat)
  case atStart => exact ⟨0, Nat.zero_le _, rfl, fun j x hj => by omega⟩
  case round =>
    obtain ⟨k, hk, rfl, hno⟩ := hrel
    by_cases hlt : k < l.length
    · obtain ⟨x, hx⟩ : ∃ x, l[k]? = some x := ⟨_, List.getElem?_eq_getElem hlt⟩
      obtain ⟨b, o, ha, -, hcell⟩ := HC.out k x hx
      subst ha
      by_cases he : x = h
      · have hans : Hid ((k : Int) = z) := by
          show _ = _
          rw [← HZ.out]
          exact (idxH_of (by rw [hx, he]) hno.out).symm
        have hb : ((h : Int) == (x : Int)) = true := by simp [he]
        have HE : Hid (x = h) := he
        clear he hx HZ
        go_wp2
        go_ret
        exact ⟨congrArg _ (v_int hans.out), rfl⟩
      · have hb : ((h : Int) == (x : Int)) = false := by simp; omega
        have HX : Hid (l[k]? = some x) := hx
        have HE : Hid (x ≠ h) := he
        clear hx he
        go_wp2
        go_round
        case rel =>
          refine ⟨k + 1, by omega, by go_num, fun j y hj hy => ?_⟩
          by_cases e : j = k
          · subst e
            rw [HX.out] at hy
            cases hy
            exact HE.out
          · exact hno.out j y (by omega) hy
        case measure => simp [intOf]; omega
    · have hans : Hid (-1 = z) := by
        show _ = _
        rw [← HZ.out]
        exact (idxH_none (fun j x hj => hno.out j x (by have := (List.getElem?_eq_some_iff.1 hj).1; omega) hj)).symm
      go_wp2
      go_ret
      exact ⟨congrArg _ (v_int hans.out), rfl⟩

end Go.Proofs.Ytjkgjckkglfokab.Gr

/- Lists set, by the document. -/
namespace Go.Proofs.Ytjkgjckkglfokab.Gr
open Go.RowKit
set_option linter.unusedVariables false
set_option linter.unusedSimpArgs false

/-- The children of a node, or the roots, set. -/
def setL (D : Dc) (p : Nat) (l' : List Nat) : Dc :=
  if p = 0 then { D with roots := l' } else match atI D.S p with
    | none => D
    | some i => match D.S[i]? with
      | none => D
      | some s => { D with S := D.S.set i { s with kids := l' } }

end Go.Proofs.Ytjkgjckkglfokab.Gr

/- A node taken out of its list, by the document. -/
namespace Go.Proofs.Ytjkgjckkglfokab.Gr
open Go.RowKit
set_option linter.unusedVariables false
set_option linter.unusedSimpArgs false
attribute [local go_sem] Bel.cell Bel.fz

/-- Where a part of a slice begins. -/
def sliceAt (b o c k : Nat) : Option Addr := if c = k then some ⟨b, o, none⟩ else some ⟨b, o + k, none⟩
theorem ite_sliceAt (b o c k : Nat) : (if c = k then some (⟨b, o, none⟩ : Addr) else some ⟨b, o + k, none⟩) = sliceAt b o c k := rfl
attribute [local go_sem] ite_sliceAt

/-- Handles as what an append of them takes, from a place on. -/
theorem HandsAt.part {w W : World} {R : Nat → Prop} {b o : Nat} {l : List Nat} (h : HandsAt w R (some ⟨b, o, none⟩) l) (hW : ∀ b o, R b → W.cell? ⟨b, o, none⟩ = w.cell? ⟨b, o, none⟩) (k : Nat) (m : List Nat) (hm : ∀ j x, m[j]? = some x → l[k + j]? = some x) : ∀ j u, (hvals m)[j]? = some u → ∃ ad, some (⟨b, o + k, none⟩ : Addr) = some ad ∧ W.cell? (ad.add j) = some u := by
  intro j u hu
  simp only [hvals, List.getElem?_map, Option.map_eq_some_iff] at hu
  obtain ⟨x, hx, rfl⟩ := hu
  obtain ⟨b', o', e, hR, hc⟩ := h (k + j) x (hm j x hx)
  simp only [Option.some.injEq, Addr.mk.injEq, and_true] at e
  obtain ⟨rfl, rfl⟩ := e
  refine ⟨_, rfl, ?_⟩
  rw [addr_plus, Nat.add_assoc, hW _ _ hR]
  exact hc
end Go.Proofs.Ytjkgjckkglfokab.Gr

/- Lists in memory of their own; Parent, Len, Roots, Kids of the program. -/
namespace Go.Proofs.Ytjkgjckkglfokab.Gr
open Go.RowKit
set_option linter.unusedVariables false
set_option linter.unusedSimpArgs false

theorem info128 : InfoOf Try.prog 90 (.agg #[.string ⟨#[]⟩, .string ⟨#[]⟩]) 2 32 := by unfold InfoOf; kernel_rfl

def FrP (w : World) (e : TypeId) (size n : Nat) (xs : List Value) (en : Ending) (w' : World) : Prop :=
  ∃ a cap, en = .returned (.slice a n cap) ∧ w'.ownsRow w.heap.size e size (.slice a n cap) n xs ∧ Below w.heap.size w w'

theorem HandsAt.news {w : World} {R : Nat → Prop} {a : Option Addr} {l : List Nat} (h : HandsAt w R a l) : ∀ j u, (hvals l)[j]? = some u → ∃ ad, a = some ad ∧ w.cell? (ad.add j) = some u := by
  intro j u hu
  simp only [hvals, List.getElem?_map, Option.map_eq_some_iff] at hu
  obtain ⟨x, hx, rfl⟩ := hu
  obtain ⟨b, o, e, _, hc⟩ := h j x hx
  exact ⟨_, e, by rw [addr_plus]; exact hc⟩
theorem AttrsR.news {w : World} {R : Nat → Prop} {a : Option Addr} {l : List (ByteArray × ByteArray)} (h : AttrsR w R a l) : ∀ j u, (attrCells l)[j]? = some u → ∃ ad, a = some ad ∧ w.cell? (ad.add j) = some u := by
  intro j u hu
  have hlt := (List.getElem?_eq_some_iff.1 hu).1
  rw [attrCells_length] at hlt
  obtain ⟨p, hp⟩ : ∃ p, l[j / 2]? = some p := ⟨_, List.getElem?_eq_getElem (by omega)⟩
  obtain ⟨b, o, rfl, _, h1, h2⟩ := h _ p hp
  obtain ⟨g1, g2⟩ := attrCells_get l _ p hp
  refine ⟨_, rfl, ?_⟩
  rw [addr_plus]
  rcases Nat.mod_two_eq_zero_or_one j with e | e
  · have ej : j / 2 * 2 = j := by omega
    rw [ej] at g1 h1
    rw [hu] at g1
    rw [h1, Option.some.inj g1]
  · have ej : j / 2 * 2 + 1 = j := by omega
    rw [ej] at g2
    rw [Nat.add_assoc, ej] at h2
    rw [hu] at g2
    rw [h2, Option.some.inj g2]

set_option maxRecDepth 100000 in
set_option maxHeartbeats 400000 in
theorem freshA_any (w : World) (R : Nat → Prop) (a : Option Addr) (l : List (ByteArray × ByteArray)) (cap : Nat) (h : AttrsR w R a l) (hl : l.length ≤ 1000000) :
    Calls Try.prog 55 #[.slice a l.length cap] w (FrP w 90 2 l.length (attrCells l)) := by
  have HN : Hid (∀ j u, (attrCells l)[j]? = some u → ∃ ad, a = some ad ∧ w.cell? (ad.add j) = some u) := h.news
  have HL : Hid ((attrCells l).length = l.length * 2) := attrCells_length l
  clear h
  have tok : True := trivial
  go_enter Try.func55, Try.ntmps55
  go_wp2_with (at_builtin; have _t := tok; refine wpList_app rfl _ _ rfl Try.underlying46 info128 rfl (by decide) w.heap.size (.slice none 0 0) 0 [] rfl (own_nil _ _ _ _) a l.length cap (attrCells l) rfl HL.out HN.out (attrCells_one _) (by unfold maxLen; omega) (by omega) (Nat.le_refl _) ?_; intro v1 w1 hown1 hg1 _ hat1; clear tok _t; obtain ⟨va, vc, hv1⟩ := own_slice hown1; subst hv1; rw [Nat.zero_add, List.nil_append] at hown1; rw [Nat.zero_add]; have HO : Hid (w1.ownsRow w.heap.size 90 2 (.slice va l.length vc) l.length (attrCells l)) := hown1; have HB : Hid (Below w.heap.size w w1) := (Below.refl _ _).grown hg1 (Nat.le_refl _) (fun k hk => by cases hk); clear hown1 hg1 hat1)
  go_ret
  exact ⟨va, vc, rfl, HO.out, HB.out⟩

set_option maxRecDepth 100000 in
set_option maxHeartbeats 400000 in
theorem pparent_some (w : World) (R : Nat → Prop) (db : Nat) (D : Dc) (h i : Nat) (s : Sl) (hv : View w R db D) (hf : Fits D) (hh : h < 18446744073709551616) (ha : atI D.S h = some i) (hs : D.S[i]? = some s) :
    Calls Try.prog 61 #[.pointer (some ⟨db, 0, none⟩), .int .u64 (h : Int)] w fun e w' => e = .returned (.tuple #[.int .u64 (s.parent : Int), .int .i64 0]) ∧ Below w.heap.size w w' := by
  obtain ⟨b, o, cap, aa, ac, ka, kc, h1, hcl, hbR, c0, c1, c2, c3, c4, c5, c6, c7, -⟩ := hv.slot hs
  have hfi := find_some w R db D h i hv hf hh ha b o cap h1
  have hbl := hv.lt b hbR
  clear hv ha hs c0 c1 c2 c3 c4 c5 c7
  go_enter Try.func61, Try.ntmps61
  go_wp2_with fail
  refine hfi.mono ?_
  rintro e w1 ⟨rfl, hb1⟩
  obtain ⟨hcc, -⟩ := bcell hb1
  have HB1 : Hid (Below w.heap.size w w1) := hb1
  clear hb1 hfi
  go_wp2
  go_ret2
  exact ⟨rfl, HB1.out⟩

end Go.Proofs.Ytjkgjckkglfokab.Gr

/- What lies ahead of a node: isNode, above, within, preceding. -/
namespace Go.Proofs.Ytjkgjckkglfokab
open Go.RowKit Go.Shelf
open Gr (Dc Sl View WF sl par hvals allR idxH)
set_option linter.unusedVariables false
set_option linter.unusedSimpArgs false
attribute [local go_sem] Oper.semAt_some

theorem parent_live (w : World) (R : Nat → Prop) (db : Nat) (D : Dc) (h : Nat) (s : Sl) (hv : View w R db D) (hw : WF D) (hs : sl D h = some s) :
    Calls Try.prog 61 #[.pointer (some ⟨db, 0, none⟩), .int .u64 (h : Int)] w fun e w' => e = .returned (.tuple #[.int .u64 (par D h : Int), .int .i64 0]) ∧ Below w.heap.size w w' := by
  obtain ⟨i, ha, hsi, -⟩ := Gr.sl_live hs
  have := Gr.pparent_some w R db D h i s hv hw.fits (hw.lt hs).1 ha hsi
  rw [show par D h = s.parent by unfold par; rw [hs]]
  exact this
set_option maxRecDepth 100000 in
theorem isnode_live (w : World) (R : Nat → Prop) (db : Nat) (D : Dc) (h : Nat) (s : Sl) (hv : View w R db D) (hw : WF D) (hs : sl D h = some s) :
    Calls Try.prog 45 #[.pointer (some ⟨db, 0, none⟩), .int .u64 (h : Int)] w fun e w' => e = .returned (.bool true) ∧ Below w.heap.size w w' := by
  have hp := parent_live w R db D h s hv hw hs
  clear hv hw hs
  go_enter Try.func45, Try.ntmps45
  go_wp2_with fail
  refine hp.mono ?_
  rintro e w1 ⟨rfl, hb⟩
  have HB : Hid (Below w.heap.size w w1) := hb
  clear hb hp
  go_wp2
  go_ret
  exact ⟨rfl, HB.out⟩
set_option maxRecDepth 100000 in
theorem above_live (w : World) (R : Nat → Prop) (db : Nat) (D : Dc) (h : Nat) (s : Sl) (hv : View w R db D) (hw : WF D) (hs : sl D h = some s) :
    Calls Try.prog 75 #[.pointer (some ⟨db, 0, none⟩), .int .u64 (h : Int)] w fun e w' => e = .returned (.int .u64 (par D h : Int)) ∧ Below w.heap.size w w' := by
  have hp := parent_live w R db D h s hv hw hs
  clear hv hw hs
  go_enter Try.func75, Try.ntmps75
  go_wp2_with fail
  refine hp.mono ?_
  rintro e w1 ⟨rfl, hb⟩
  have HB : Hid (Below w.heap.size w w1) := hb
  clear hb hp
  go_wp2
  go_ret
  exact ⟨rfl, HB.out⟩
set_option maxRecDepth 100000 in
theorem within_zero (w : World) (R : Nat → Prop) (db : Nat) (D : Dc) (hv : View w R db D) (hw : WF D) :
    Calls Try.prog 64 #[.pointer (some ⟨db, 0, none⟩), .int .u64 0] w fun e w' => ∃ a cap, e = .returned (.slice a (allR D).length cap) ∧ w'.ownsRow w.heap.size 51 1 (.slice a (allR D).length cap) (allR D).length (hvals (allR D)) ∧ Below w.heap.size w w' := by
  have hp := Gr.pall_zero w R db D hv hw
  clear hv hw
  go_enter Try.func64, Try.ntmps64
  go_wp2_with fail
  refine hp.mono ?_
  rintro e w1 ⟨a, cap, rfl, ho, hb⟩
  have HB : Hid (Below w.heap.size w w1 ∧ w1.ownsRow w.heap.size 51 1 (.slice a (allR D).length cap) (allR D).length (hvals (allR D))) := ⟨hb, ho⟩
  clear hb hp ho
  go_wp2
  go_ret
  exact ⟨a, cap, rfl, HB.out.2, HB.out.1⟩
set_option maxRecDepth 100000 in
theorem mk_backward (w : World) (a : Option Addr) (n cap : Nat) :
    Calls Try.prog 76 #[.slice a n cap] w fun e w' => e = .returned (.func (.func 82) #[] #[.pointer (some ⟨w.heap.size, 0, none⟩)]) ∧ w' = w.alloc (.cells #[.slice a n cap] 42) := by
  have hmf : ∀ (fn : Fn) (first cap : Array Value) (w : World), (Instr.makeFunc fn first cap).run Try.prog w = .ok (.func fn first cap) w := fun _ _ _ _ => rfl
  go_enter Try.func76, Try.ntmps76
  go_wp2
  go_ret
  exact ⟨rfl, rfl⟩
set_option maxRecDepth 100000 in
theorem mk_values (w : World) (a : Option Addr) (n cap : Nat) :
    Calls Try.prog 47 #[.slice a n cap] w fun e w' => e = .returned (.func (.func 62) #[] #[.pointer (some ⟨w.heap.size, 0, none⟩)]) ∧ w' = w.alloc (.cells #[.slice a n cap] 42) := by
  have hmf : ∀ (fn : Fn) (first cap : Array Value) (w : World), (Instr.makeFunc fn first cap).run Try.prog w = .ok (.func fn first cap) w := fun _ _ _ _ => rfl
  go_enter Try.func47, Try.ntmps47
  go_wp2
  go_ret
  exact ⟨rfl, rfl⟩

/-- What comes ahead, the nearest first, without those around. -/
def prc (D : Dc) : List Nat → Nat → List Nat → Nat × List Nat
  | [], a, l => (a, l)
  | x :: r, a, l => if x = a then prc D r (par D x) l else prc D r a (l ++ [x])
theorem prc_snoc (D : Dc) : ∀ (xs : List Nat) (x a : Nat) (l : List Nat), prc D (xs ++ [x]) a l = if x = (prc D xs a l).1 then (par D x, (prc D xs a l).2) else ((prc D xs a l).1, (prc D xs a l).2 ++ [x])
  | [], x, a, l => by
    show prc D [x] a l = _
    unfold prc
    by_cases h : x = a
    · rw [if_pos h, if_pos h]; rfl
    · rw [if_neg h, if_neg h]; rfl
  | y :: r, x, a, l => by
    rw [List.cons_append]
    unfold prc
    by_cases h : y = a
    · rw [if_pos h, if_pos h, prc_snoc D r x]
    · rw [if_neg h, if_neg h, prc_snoc D r x]
theorem prc_len (D : Dc) : ∀ (xs : List Nat) (a : Nat) (l : List Nat), (prc D xs a l).2.length ≤ l.length + xs.length
  | [], a, l => by unfold prc; simp
  | y :: r, a, l => by
    unfold prc
    by_cases h : y = a
    · rw [if_pos h]; have := prc_len D r (par D y) l; simp; omega
    · rw [if_neg h]; have := prc_len D r a (l ++ [y]); simp at this ⊢; omega

theorem infoH : InfoOf Try.prog 51 (.int .u64 0) 1 8 := by unfold InfoOf; kernel_rfl
theorem Tn.gr {A : Nat → Prop} {w w' : World} (h : Tn A w w') : Gr.Turn A w w' := ⟨h.os, h.tape, h.output, h.size, h.block⟩

/-- Under way: what it is that lies around, and what came so far. -/
def RowH (D : Dc) (R : Nat → Prop) (db N dx ax lx a0 : Nat) : Inv (Nat × Nat) := fun s C X => ∃ a c k p, prc D (s.map (·.2)) a0 [] = (p, k) ∧ C = (fun b => b = ax ∨ b = lx ∨ (Value.slice a k.length c).ownBlock = some b) ∧ IsC X ax #[.int .u64 (p : Int)] ∧ IsC X lx #[.slice a k.length c] ∧ X.ownsRow N 51 1 (.slice a k.length c) k.length (hvals k) ∧ N ≤ X.heap.size ∧ View X R db D ∧ IsC X dx #[.pointer (some ⟨db, 0, none⟩)]
theorem RowH.stb {D : Dc} {R : Nat → Prop} {db N dx ax lx a0 : Nat} : Stb (fun b => R b ∨ b = dx) (RowH D R db N dx ax lx a0) := by
  refine ⟨?_, ?_⟩
  · rintro s C X ⟨a, c, k, p, -, rfl, q1, q2, q3, -, q5, q6⟩ b hb
    rcases hb with (rfl | rfl | hb) | hb | rfl
    · exact q1.lt
    · exact q2.lt
    · exact (own_block_lt q3 b hb).2
    · exact q5.lt b hb
    · exact q6.lt
  · rintro s C A X Y ⟨a, c, k, p, q0, rfl, q1, q2, q3, q4, q5, q6⟩ ht hA
    exact ⟨a, c, k, p, q0, rfl, q1.tn ht (hA _ (.inl (.inl rfl))), q2.tn ht (hA _ (.inl (.inr (.inl rfl)))), own_of_block q3 (fun k hk => ht.block k (own_block_lt q3 k hk).2 (hA k (.inl (.inr (.inr hk))))), Nat.le_trans q4 ht.size, q5.turn ht.gr (fun b hb => hA b (.inr (.inl hb))), q6.tn ht (hA _ (.inr (.inr rfl)))⟩
theorem no_stb2 {D : Nat → Prop} : ∀ c : Code, Stb D (fun (_ : List (Nat × Nat)) (_ : Nat → Prop) (_ : World) => False) := fun _ => ⟨fun _ _ _ h => h.elim, fun _ _ _ _ _ h => h.elim⟩

theorem bwd_mem {L : List Nat} {x : Nat × Nat} (h : x ∈ bwd L) : x.2 ∈ L := by
  simp only [bwd, List.mem_map, List.mem_range] at h
  obtain ⟨k, hk, rfl⟩ := h
  simp only
  have : L.length - 1 - k < L.length := by omega
  rw [List.getD, List.getElem?_eq_getElem this]
  exact List.getElem_mem _
/-- What a list of handles in a row of one's own reads as. -/
theorem row_hands {w : World} {N n cap : Nat} {a : Option Addr} {L : List Nat} (h : w.ownsRow N 51 1 (.slice a n cap) n (hvals L)) (hn : L.length = n) (h0 : 0 < n) : ∃ g, a = some ⟨g, 0, none⟩ ∧ N ≤ g ∧ g < w.heap.size ∧ n ≤ cap ∧ HdsAt w g a L ∧ Gr.HandsAt w (fun b => b = g) a L := by
  obtain ⟨h1, h2, h3⟩ := Gr.row_cell h
  have hc : ∀ (i x : Nat), L[i]? = some x → ∃ g, a = some ⟨g, 0, none⟩ ∧ N ≤ g ∧ g < w.heap.size ∧ w.cell? ⟨g, i, none⟩ = some (.int .u64 (x : Int)) := fun i x hx => h3 i _ (by simp [hvals, hx])
  obtain ⟨g, rfl, hg1, hg2, -⟩ := hc 0 L[0] (List.getElem?_eq_getElem (by omega))
  refine ⟨g, rfl, hg1, hg2, h1, fun i x hx => ?_, fun i x hx => ?_⟩
  · obtain ⟨g', e, -, -, hcc⟩ := hc i x hx
    cases e
    exact ⟨0, rfl, hg2, by rw [Nat.zero_add]; exact hcc⟩
  · obtain ⟨g', e, -, -, hcc⟩ := hc i x hx
    cases e
    exact ⟨g, 0, rfl, rfl, by rw [Nat.zero_add]; exact hcc⟩
theorem HdsAt.take {w : World} {g : Nat} {a : Option Addr} {L : List Nat} (h : HdsAt w g a L) (m : Nat) : HdsAt w g a (L.take m) := fun i x hx => h i x (by
  rw [List.getElem?_take] at hx
  split at hx
  · exact hx
  · cases hx)

set_option maxRecDepth 100000 in
set_option maxHeartbeats 2000000 in
theorem preceding_any (w : World) (R : Nat → Prop) (db : Nat) (D : Dc) (h m : Nat) (s : Sl) (hv : View w R db D) (hw : WF D) (hs : sl D h = some s) (hm : idxH (allR D) h = (m : Int)) (hml : m < (allR D).length) (B : List Nat) (hB : B = ((bwd ((allR D).take m)).map (·.2))) :
    Calls Try.prog 67 #[.pointer (some ⟨db, 0, none⟩), .int .u64 (h : Int)] w fun e w' => ∃ a c, e = .returned (.slice a (prc D B (par D h) []).2.length c) ∧ w'.ownsRow w.heap.size 51 1 (.slice a (prc D B (par D h) []).2.length c) (prc D B (par D h) []).2.length (hvals (prc D B (par D h) []).2) ∧ Below w.heap.size w w' := by
  obtain ⟨W0, hW0⟩ : ∃ W0, w.alloc (.cells #[.pointer (some ⟨db, 0, none⟩)] 40) = W0 := ⟨_, rfl⟩
  have HW0 : Hid (w.alloc (.cells #[.pointer (some ⟨db, 0, none⟩)] 40) = W0) := hW0
  have y0 : IsC W0 w.heap.size #[.pointer (some ⟨db, 0, none⟩)] := by rw [← hW0]; exact isC_new _ _ _
  have t0 : Tn (fun _ => False) w W0 := by rw [← hW0]; exact (Tn.refl _ _).alloc _
  have hv0 : View W0 R db D := hv.turn t0.gr (fun _ _ h => h)
  have hwi := within_zero W0 R db D hv0 hw
  have hlen := (Gr.roots_len hw).2
  obtain ⟨n, hn⟩ : ∃ n, (allR D).length = n := ⟨_, rfl⟩
  rw [hn] at hwi hml hlen
  have HN : Hid ((allR D).length = n) := hn
  have HV : Hid (View W0 R db D ∧ WF D ∧ sl D h = some s ∧ IsC W0 w.heap.size #[.pointer (some ⟨db, 0, none⟩)]) := ⟨hv0, hw, hs, y0⟩
  have HI : Hid (idxH (allR D) h = (m : Int)) := hm
  have HT0 : Hid (Tn (fun _ => False) w W0) := t0
  have c0 : W0.cell? ⟨w.heap.size, 0, none⟩ = some (.pointer (some ⟨db, 0, none⟩)) := y0.cell 0
  have l0 := y0.lt
  clear hW0 y0 t0 hv0 hv hw hs hm hn
  refine (callsIn_wide (n := 0)).1 ?_
  refine callsIn_of_wp_marks Try.func67 rfl trivial ?_ rfl
  simp only [Try.ntmps67, List.size_toArray, List.length_cons, List.length_nil, Nat.reduceAdd, Nat.reduceSub, Array.replicate_succ, Array.replicate_zero, List.push_toArray, List.append_toArray, List.nil_append, List.cons_append]
  gi_wp2_with fail
  rw [HW0.out]
  refine ⟨trivial, rfl, (callsIn_wide.2 hwi).mono ?_⟩
  rintro e w1 ⟨a, cap, rfl, ho1, hb1⟩
  have t1 : Tn (fun _ => False) W0 w1 := Tn.of_below hb1 (Nat.le_refl _)
  have HO1 : Hid (w1.ownsRow W0.heap.size 51 1 (.slice a n cap) n (hvals (allR D)) ∧ Tn (fun _ => False) W0 w1) := ⟨ho1, t1⟩
  have c1 : w1.cell? ⟨w.heap.size, 0, none⟩ = some (.pointer (some ⟨db, 0, none⟩)) := (HV.out.2.2.2.tn t1 id).cell 0
  have l1 : w.heap.size < w1.heap.size := Nat.lt_of_lt_of_le l0 t1.size
  have hab := above_live w1 R db D h s (HV.out.1.turn t1.gr (fun _ _ h => h)) HV.out.2.1 HV.out.2.2.1
  clear ho1 hb1 t1 hwi c0 l0
  gi_wp2_with fail
  refine ⟨trivial, rfl, (callsIn_wide.2 hab).mono ?_⟩
  rintro e w2 ⟨rfl, hb2⟩
  have t2 : Tn (fun _ => False) w1 w2 := Tn.of_below hb2 (Nat.le_refl _)
  obtain ⟨g, rfl, hg1, hg2, hcap, hd1, hh1⟩ := row_hands HO1.out.1 HN.out (by omega)
  obtain ⟨W3, hW3⟩ : ∃ W3, (w2.alloc (.cells #[.int .u64 (par D h : Int)] 51)).alloc (.cells #[.slice none 0 0] 42) = W3 := ⟨_, rfl⟩
  have HW3 : Hid ((w2.alloc (.cells #[.int .u64 (par D h : Int)] 51)).alloc (.cells #[.slice none 0 0] 42) = W3) := hW3
  have n3 := fun (w : World) (o : Obj) => (Tn.refl (fun _ => False) w).alloc o
  have t3 : Tn (fun _ => False) w2 W3 := by rw [← hW3]; exact (n3 _ _).alloc _
  have z1 : IsC W3 w2.heap.size #[.int .u64 (par D h : Int)] := by rw [← hW3]; exact (isC_new _ _ _).tn (n3 _ _) id
  have z2 : IsC W3 (w2.heap.size + 1) #[.slice none 0 0] := by
    have := isC_new (w2.alloc (.cells #[.int .u64 (par D h : Int)] 51)) #[.slice none 0 0] 42
    rw [hW3] at this
    simpa using this
  have t13 : Tn (fun _ => False) w1 W3 := t2.trans t3 (fun _ _ h => h)
  have hix := Gr.index_any W3 (fun b => b = g) (some ⟨g, 0, none⟩) (allR D) cap h (hh1.to (fun _ h => h) (fun b o hb => by subst hb; exact World.cell?_of_block (w := w1) (a := ⟨b, o, none⟩) (t13.block b hg2 id))) (by have := HN.out; omega) (m : Int) HI.out
  rw [HN.out] at hix
  have hmb := mk_backward W3 (some ⟨g, 0, none⟩) m cap
  have HZ : Hid (IsC W3 w2.heap.size #[.int .u64 (par D h : Int)] ∧ IsC W3 (w2.heap.size + 1) #[.slice none 0 0] ∧ Tn (fun _ => False) w1 W3 ∧ HdsAt w1 g (some ⟨g, 0, none⟩) ((allR D).take m) ∧ g < w1.heap.size) := ⟨z1, z2, t13, hd1.take m, hg2⟩
  have HMC : Hid (m ≤ n ∧ n ≤ cap) := ⟨by omega, hcap⟩
  have hm0 : (0 : Int) ≤ (m : Int) := by omega
  have hmc : (m : Int) ≤ (cap : Int) := by omega
  have hmt : ((m : Int)).toNat = m := by omega
  have hb2s : w1.heap.size ≤ w2.heap.size := t2.size
  clear hW3 t2 t3 z1 z2 t13 hd1 hh1 hb2 hab n3 c1 l1
  gi_wp2_with fail
  rw [HW3.out]
  refine ⟨trivial, rfl, (callsIn_wide.2 hix).mono ?_⟩
  rintro e w' ⟨rfl, rfl⟩
  gi_wp2_with fail
  refine ⟨trivial, rfl, (callsIn_wide.2 hmb).mono ?_⟩
  rintro e w4 ⟨rfl, hw4⟩
  gi_wp2_with fail
  rename_i Kf hKf
  have HK : Hid _ := hKf
  clear hKf
  obtain ⟨W4, hW4⟩ : ∃ W4, w'.alloc (.cells #[.slice (some ⟨g, 0, none⟩) m cap] 42) = W4 := ⟨_, rfl⟩
  rw [hW4]
  have t4 : Tn (fun _ => False) w' W4 := by rw [← hW4]; exact (Tn.refl _ _).alloc _
  have zB : IsC W4 w'.heap.size #[.slice (some ⟨g, 0, none⟩) m cap] := by rw [← hW4]; exact isC_new _ _ _
  have t14 : Tn (fun _ => False) w1 W4 := HZ.out.2.2.1.trans t4 (fun _ _ h => h)
  have t04 : Tn (fun _ => False) W0 W4 := HO1.out.2.trans t14 (fun _ _ h => h)
  have hL : ((allR D).take m).length = m := by rw [List.length_take, HN.out]; have := HMC.out.1; omega
  have hb := backward_seq (L := (allR D).take m) (n := m) (a := some ⟨g, 0, none⟩) (cap := cap) (lb := w'.heap.size) (g := g) hL (by have := HMC.out.1; omega)
  have em := enters_of Try.func82 (by kernel_rfl) rfl
  have h2 : w2.heap.size + 1 < w'.heap.size := HZ.out.2.1.lt
  have hg2 : g < w2.heap.size := Nat.lt_of_lt_of_le HZ.out.2.2.2.2 (by have := HZ.out.1.lt; have := hb2s; omega)
  have h0 : RowH D R db W4.heap.size w.heap.size w2.heap.size (w2.heap.size + 1) (par D h) [] (fun b => b = w2.heap.size ∨ b = w2.heap.size + 1 ∨ (Value.slice none 0 0).ownBlock = some b) W4 := ⟨none, 0, [], par D h, rfl, rfl, HZ.out.1.tn t4 id, HZ.out.2.1.tn t4 id, ⟨by simp [hvals], .inl ⟨rfl, rfl⟩⟩, Nat.le_refl _, HV.out.1.turn t04.gr (fun _ _ h => h), HV.out.2.2.2.tn t04 id⟩
  have HW4 : Hid (Tn (fun _ => False) W0 W4 ∧ IsC W4 w'.heap.size #[.slice (some ⟨g, 0, none⟩) m cap]) := ⟨t04, zB⟩
  have hmi : Try.prog.follows Departure.mixedOrders = true := by kernel_rfl
  refine range_it (gf := 82) rfl (fun args w => em args w) (encs := encB) (fun _ => rfl) hb ⟨zB, HZ.out.2.2.2.1.tn t14 (fun _ h => h)⟩ (RowH D R db W4.heap.size w.heap.size w2.heap.size (w2.heap.size + 1) (par D h)) (fun _ _ _ _ => False) (fun b => R b ∨ b = w.heap.size) RowH.stb no_stb2 _ h0 (fun b hb hr => ?_) (fun b e h => h)
    (fun x a' => a' = { tmps := #[.pointer (some ⟨db, 0, none⟩), .int .u64 (h : Int), .pointer (some ⟨w.heap.size, 0, none⟩), undef, .slice none 0 0, .slice (some ⟨g, 0, none⟩) n cap, .pointer (some ⟨w2.heap.size, 0, none⟩), .pointer (some ⟨w2.heap.size + 1, 0, none⟩), undef, .int .u64 (x.2 : Int), .pointer (some ⟨db, 0, none⟩), .slice (some ⟨g, 0, none⟩) n cap, .pointer (some ⟨db, 0, none⟩), .int .u64 (h : Int), .int .u64 (par D h : Int), .slice (some ⟨g, 0, none⟩) n cap, .slice (some ⟨g, 0, none⟩) n cap, .int .u64 (h : Int), .int .i64 (m : Int), .slice (some ⟨g, 0, none⟩) m cap, .func (.func 82) #[] #[.pointer (some ⟨w'.heap.size, 0, none⟩)], .int .i64 (x.1 : Int), .int .u64 (x.2 : Int), undef, undef, undef, undef, undef, undef, undef, undef, undef, undef, undef], defers := [] })
    ?assign ?body ?done ?stop
  · rcases hb with rfl | rfl | hb
    · rcases hr with hr | hr <;> omega
    · rcases hr with hr | hr <;> omega
    · cases hb
  case assign =>
    intro l2 x X Kc hK
    unfold encB
    gi_wp2
    rfl
  case body =>
    rintro l3 pre x a' C X hpre ⟨a, c, k, p, q0, rfl, q1, q2, q3, q4, q5, q6⟩ rfl
    have hxm : x ∈ bwd ((allR D).take m) := hpre.subset (by simp)
    obtain ⟨sx, hsx⟩ := Gr.allR_live HV.out.2.1 x.2 (List.mem_of_mem_take (bwd_mem hxm))
    have hpl : pre.length < 4096 := by
      have := hpre.length_le
      rw [bwd_length, hL] at this
      simp at this
      have := HMC.out.1
      omega
    have hkl : k.length ≤ pre.length := by
      have := prc_len D (pre.map (·.2)) (par D h) []
      rw [q0] at this
      simpa using this
    have hsn : prc D ((pre ++ [x]).map (·.2)) (par D h) [] = if x.2 = p then (par D x.2, k) else (p, k ++ [x.2]) := by
      rw [List.map_append, List.map_cons, List.map_nil, prc_snoc, q0]
    have c1 : X.cell? ⟨w2.heap.size, 0, none⟩ = some (.int .u64 (p : Int)) := q1.cell 0
    have c2 : X.cell? ⟨w2.heap.size + 1, 0, none⟩ = some (.slice a k.length c) := q2.cell 0
    have c3 : X.cell? ⟨w.heap.size, 0, none⟩ = some (.pointer (some ⟨db, 0, none⟩)) := q6.cell 0
    have f1 := q1.frozen 0
    have f2 := q2.frozen 0
    have l1 := q1.lt
    have l2 := q2.lt
    have hcall := above_live X R db D x.2 sx q5 HV.out.2.1 hsx
    obtain ⟨x1, x2⟩ := x
    simp only at hsn hcall hsx ⊢
    by_cases hxp : x2 = p
    · rw [if_pos hxp] at hsn
      have hbe : ((x2 : Int) == (p : Int)) = true := by simp [hxp]
      have HQ : Hid (prc D ((pre ++ [(x1, x2)]).map (·.2)) (par D h) [] = (par D x2, k) ∧ IsC X w2.heap.size #[.int .u64 (p : Int)] ∧ IsC X (w2.heap.size + 1) #[.slice a k.length c] ∧ X.ownsRow W4.heap.size 51 1 (.slice a k.length c) k.length (hvals k) ∧ W4.heap.size ≤ X.heap.size ∧ View X R db D ∧ IsC X w.heap.size #[.pointer (some ⟨db, 0, none⟩)]) := ⟨hsn, q1, q2, q3, q4, q5, q6⟩
      have h4w : w2.heap.size < W4.heap.size ∧ w.heap.size < W0.heap.size ∧ W0.heap.size ≤ w2.heap.size := ⟨by have := h2; have := t4.size; omega, HV.out.2.2.2.lt, by have := HO1.out.2.size; omega⟩
      clear q0 q1 q2 q3 q4 q5 q6 hsn hxp hxm hsx hpre hb h0 t4 zB t14 t04 hL
      gi_wp2_with fail
      refine ⟨trivial, rfl, CallsIn.mono (F := Fence.wide) (callsIn_wide.2 hcall) ?_⟩
      rintro e X1 ⟨rfl, hb1⟩
      have tX : Tn (fun _ => False) X X1 := Tn.of_below hb1 (Nat.le_refl _)
      have k1 : X1.cell? ⟨w2.heap.size, 0, none⟩ = some (.int .u64 (p : Int)) := (HQ.out.2.1.tn tX id).cell 0
      have e1 : X1.frozen? ⟨w2.heap.size, 0, none⟩ = false := (HQ.out.2.1.tn tX id).frozen 0
      have m1 := (HQ.out.2.1.tn tX id).lt
      obtain ⟨X2, hX2⟩ : ∃ X2, X1.setCell ⟨w2.heap.size, 0, none⟩ (.int .u64 (par D x2 : Int)) = X2 := ⟨_, rfl⟩
      have tY : Tn (fun b => b = w2.heap.size) X1 X2 := by rw [← hX2]; exact (Tn.refl (fun b => b = w2.heap.size) X1).set (p := ⟨w2.heap.size, 0, none⟩) (.inl rfl) _
      have HG : Hid (RPost (RowH D R db W4.heap.size w.heap.size w2.heap.size (w2.heap.size + 1) (par D h)) (fun _ _ _ _ => False) (pre ++ [(x1, x2)]) (fun b => b = w2.heap.size ∨ b = w2.heap.size + 1 ∨ (Value.slice a k.length c).ownBlock = some b) X .normal X2) := by
        obtain ⟨r0, r1, r2, r3, r4, r5, r6⟩ := HQ.out
        have tt : Tn (fun b => b = w2.heap.size) X X2 := (tX.mono (fun _ _ h => h.elim)).trans tY (fun _ _ h => h)
        have hRl : ∀ b, R b → b < W0.heap.size := HV.out.1.lt
        refine ⟨_, tt.mono (fun _ _ h => .inl h), fun b hb => .inl hb, a, c, k, par D x2, r0, rfl, ?_, r2.tn tt (by omega), own_of_block r3 (fun j hj => tt.block j (own_block_lt r3 j hj).2 (fun e => by have := (own_block_lt r3 j hj).1; omega)), Nat.le_trans r4 tt.size, r5.turn tt.gr (fun b hb e => by have := hRl b hb; omega), r6.tn tt (by omega)⟩
        obtain ⟨t, ht⟩ := r1.tn tX id
        exact ⟨t, by rw [← hX2]; simp [World.setCell, Array.getElem?_modify, ht]⟩
      have HX2 : Hid (X1.setCell ⟨w2.heap.size, 0, none⟩ (.int .u64 (par D x2 : Int)) = X2) := hX2
      clear hX2 tY tX hb1 hcall c1 c2 c3 f1 f2 HQ
      gi_wp2
      rw [HX2.out]
      exact HG.out
    · rw [if_neg hxp] at hsn
      have hbe : ((x2 : Int) == (p : Int)) = false := by simp; omega
      obtain ⟨i0, hi0, hz0, hz1, hz2⟩ := infoH.parts
      have h4w : w2.heap.size + 1 < W4.heap.size ∧ w.heap.size < W0.heap.size ∧ W0.heap.size ≤ w2.heap.size := ⟨by have := h2; have := t4.size; omega, HV.out.2.2.2.lt, by have := HO1.out.2.size; omega⟩
      have HQa : Hid ((X.alloc (.cells #[.int .u64 (x2 : Int)] 51)).ownsRow W4.heap.size 51 1 (.slice a k.length c) k.length (hvals k)) := own_of_block q3 (fun k hk => Below.heap_alloc _ _ _ (own_block_lt q3 k hk).2)
      have hfin : ∀ Y la' lc', Y.ownsRow W4.heap.size 51 1 (.slice la' (k.length + 1) lc') (k.length + 1) (hvals k ++ [.int .u64 (x2 : Int)]) → (X.alloc (.cells #[.int .u64 (x2 : Int)] 51)).grownBy Y (Value.slice a k.length c).ownBlock → ((Value.slice la' (k.length + 1) lc').ownBlock = (Value.slice a k.length c).ownBlock ∨ (Value.slice la' (k.length + 1) lc').ownBlock = some (X.alloc (.cells #[.int .u64 (x2 : Int)] 51)).heap.size) →
          Y.cell? ⟨w2.heap.size + 1, 0, none⟩ = some (.slice a k.length c) ∧ Y.frozen? ⟨w2.heap.size + 1, 0, none⟩ = false ∧ Hid (RPost (RowH D R db W4.heap.size w.heap.size w2.heap.size (w2.heap.size + 1) (par D h)) (fun _ _ _ _ => False) (pre ++ [(x1, x2)]) (fun b => b = w2.heap.size ∨ b = w2.heap.size + 1 ∨ (Value.slice a k.length c).ownBlock = some b) X .normal (Y.setCell ⟨w2.heap.size + 1, 0, none⟩ (.slice la' (k.length + 1) lc'))) := by
        intro Y la' lc' r1 r2 r3
        have nb : ∀ j, (Value.slice a k.length c).ownBlock = some j → W4.heap.size ≤ j := fun j hj => (own_block_lt q3 j hj).1
        have kp : ∀ j, j < X.heap.size → (Value.slice a k.length c).ownBlock ≠ some j → Y.heap[j]? = X.heap[j]? := fun j hj hne => (r2.block j (by simp; omega) (fun e => hne e.symm)).trans (Below.heap_alloc _ _ _ hj)
        have e1 : IsC Y w2.heap.size #[.int .u64 (p : Int)] := q1.of_block (kp _ q1.lt (fun e => by have := nb _ e; omega))
        have e2 : IsC Y (w2.heap.size + 1) #[.slice a k.length c] := q2.of_block (kp _ q2.lt (fun e => by have := nb _ e; omega))
        have tY : Tn (fun b => (Value.slice a k.length c).ownBlock = some b) X Y := ⟨r2.os, r2.tape, r2.output, Nat.le_trans (by simp) r2.size, kp⟩
        have t2 : Tn (fun b => b = w2.heap.size + 1) Y (Y.setCell ⟨w2.heap.size + 1, 0, none⟩ (.slice la' (k.length + 1) lc')) := (Tn.refl (fun b => b = w2.heap.size + 1) Y).set (p := ⟨w2.heap.size + 1, 0, none⟩) (.inl rfl) _
        have hlen : (k ++ [x2]).length = k.length + 1 := by simp
        have rb := own_block_lt r1
        have hRl : ∀ b, R b → b < W0.heap.size := HV.out.1.lt
        refine ⟨e2.cell 0, e2.frozen 0, fun b => b = w2.heap.size ∨ b = w2.heap.size + 1 ∨ (Value.slice la' (k.length + 1) lc').ownBlock = some b, (tY.mono (fun _ _ h => .inr (.inr h))).trans t2 (fun _ _ h => .inr (.inl h)), fun b hb => ?_, la', lc', k ++ [x2], p, hsn, by rw [hlen], e1.tn t2 (by omega), ?_, ?_, Nat.le_trans q4 (Nat.le_trans tY.size t2.size), ?_, ?_⟩
        · rcases hb with h | h | h
          · exact .inl (.inl h)
          · exact .inl (.inr (.inl h))
          · rcases r3 with r3 | r3
            · exact .inl (.inr (.inr (r3 ▸ h)))
            · rw [h] at r3
              simp at r3
              exact .inr (by omega)
        · obtain ⟨t, ht⟩ := e2
          refine ⟨t, ?_⟩
          rw [hlen]
          simp [World.setCell, Array.getElem?_modify, ht]
        · rw [hlen, show hvals (k ++ [x2]) = hvals k ++ [.int .u64 (x2 : Int)] by simp [hvals]]
          exact own_of_block r1 (fun j hj => t2.block j (rb j hj).2 (fun e => by have := (rb j hj).1; omega))
        · exact (q5.turn tY.gr (fun b hb e => by have := hRl b hb; have := nb _ e; omega)).turn t2.gr (fun b hb e => by have := hRl b hb; omega)
        · exact (q6.tn tY (fun e => by have := nb _ e; omega)).tn t2 (by omega)
      have hnews : ∀ (j : Nat) (u : Value), ([.int .u64 (x2 : Int)] : List Value)[j]? = some u → (X.alloc (.cells #[.int .u64 (x2 : Int)] 51)).cell? ((⟨X.heap.size, 0, none⟩ : Addr).add j) = some u := by
        intro j u hu
        cases j with
        | zero =>
          simp at hu
          subst hu
          exact (isC_new X #[.int .u64 (x2 : Int)] 51).cell 0
        | succ j => simp at hu
      have hWX : W4.heap.size ≤ X.heap.size := q4
      have hlx : w2.heap.size + 1 < X.heap.size + 1 := by omega
      clear q0 q1 q2 q3 q4 q5 q6 hsn hxp hxm hsx hpre hb h0 t4 zB t14 t04 hL hcall
      gi_wp2_with (gi_at_builtin; (with_reducible refine wpListIn_append_own_at _ rfl _ _ 42 rfl W4.heap.size 51 i0 (.int .u64 0) 1 8 Try.underlying42 hi0 hz0 hz1 hz2 rfl (by decide) (.slice a k.length c) k.length (hvals k) ?p1 ?p2 ⟨X.heap.size, 0, none⟩ 1 1 [.int .u64 (x2 : Int)] ?p3 ?p4 ?p5 ?p6 ?p7 ?p8 ?p9 ?p10); (case p1 => rfl); (case p2 => exact HQa.out); (case p3 => rfl); (case p4 => rfl); (case p5 => exact hnews); (case p6 => (intro u hu; simp at hu; subst hu; rfl)); (case p7 => (unfold maxLen; omega)); (case p8 => omega); (case p9 => (simp; omega)); intro v' Y q1 q2 q3 q4; obtain ⟨la', lc', rfl⟩ := own_slice q1; obtain ⟨s1, s2, s4⟩ := hfin Y la' lc' q1 q2 q4; clear q1 q2 q3 q4 hfin)
      exact s4.out
  case done =>
    rintro C X ⟨a, c, k, p, q0, rfl, q1, q2, q3, q4, q5, q6⟩ tX hqX hC hD nD
    rw [← hB] at q0
    have tP : Tn (fun k => k = W4.heap.size) X (X.putObj W4.heap.size (.deferred none)) := Tn.put _ _ _
    have c7 : X.cell? ⟨w2.heap.size + 1, 0, none⟩ = some (.slice a k.length c) := q2.cell 0
    have l7 := q2.lt
    have h4w : w2.heap.size + 1 < W4.heap.size ∧ w.heap.size < W0.heap.size ∧ W0.heap.size ≤ w2.heap.size := ⟨by have := h2; have := t4.size; omega, HV.out.2.2.2.lt, by have := HO1.out.2.size; omega⟩
    have HG : Hid (∃ a' c', Ending.returned (.slice a k.length c) = .returned (.slice a' (prc D B (par D h) []).2.length c') ∧ (X.putObj W4.heap.size (.deferred none)).ownsRow w.heap.size 51 1 (.slice a' (prc D B (par D h) []).2.length c') (prc D B (par D h) []).2.length (hvals (prc D B (par D h) []).2) ∧ Below w.heap.size w (X.putObj W4.heap.size (.deferred none))) := by
      rw [q0]
      have tw : Tn (fun _ => False) w W4 := HT0.out.trans HW4.out.1 (fun _ _ h => h)
      refine ⟨a, c, rfl, own_weak (own_of_block q3 (fun j hj => tP.block j (own_block_lt q3 j hj).2 (fun (e : j = W4.heap.size) => nD (.inr (.inr (e ▸ hj)))))) (by have := tw.size; omega), ?_⟩
      have := (tw.trans tX (fun i hi h => ?_)).trans tP (fun i hi (e : i = W4.heap.size) => by have := tw.size; omega)
      · exact this.below (Nat.le_refl _) (fun _ h => h.elim)
      · rcases h with h | h | h | h
        · exact h
        · omega
        · omega
        · cases h
    clear q0 q1 q2 q3 q4 q5 q6 tX hqX hC nD tP
    have hKf := HK.out
    gi_wp2
    refine ⟨by simp, .inl ⟨_, _, rfl, run_takeDeferred hD, ?_⟩⟩
    refine ⟨_, results_tmp rfl _ _ _, ?_⟩
    exact HG.out
  case stop =>
    rintro c pre C X hpre hF
    exact hF.elim

end Go.Proofs.Ytjkgjckkglfokab

/- The axis of what lies ahead, as an iterator. -/
namespace Go.Proofs.Ytjkgjckkglfokab
open Go.RowKit Go.Shelf
open Gr (Dc Sl View WF sl par hvals allR idxH)
set_option linter.unusedVariables false
set_option linter.unusedSimpArgs false
attribute [local go_sem] Oper.semAt_some

/-- What lies ahead of a node. -/
def ahead (D : Dc) (h m : Nat) : List Nat := (prc D ((bwd ((allR D).take m)).map (·.2)) (par D h) []).2

set_option maxRecDepth 100000 in
set_option maxHeartbeats 2000000 in
theorem along_prec (w : World) (R : Nat → Prop) (db : Nat) (D : Dc) (h m : Nat) (s : Sl) (hv : View w R db D) (hw : WF D) (hs : sl D h = some s) (hm : idxH (allR D) h = (m : Int)) (hml : m < (allR D).length) (L : List Nat) (hL : ahead D h m = L) :
    Calls Try.prog 48 #[.pointer (some ⟨db, 0, none⟩), .int .i64 8, .int .u64 (h : Int)] w fun e w' => ∃ a c, e = .returned (.slice a L.length c) ∧ w'.ownsRow w.heap.size 51 1 (.slice a L.length c) L.length (hvals L) ∧ Below w.heap.size w w' := by
  have hp := preceding_any w R db D h m s hv hw hs hm hml _ rfl
  unfold ahead at hL
  rw [hL] at hp
  clear hv hw hs hm hml hL
  go_enter Try.func48, Try.ntmps48
  go_wp2_with fail
  refine hp.mono ?_
  rintro e w1 ⟨a, c, rfl, ho, hb⟩
  have HB : Hid (w1.ownsRow w.heap.size 51 1 (.slice a L.length c) L.length (hvals L) ∧ Below w.heap.size w w1) := ⟨ho, hb⟩
  clear ho hb hp
  go_wp2
  go_ret
  exact ⟨a, c, rfl, HB.out.1, HB.out.2⟩

theorem hds_own {w : World} {N c : Nat} {a : Option Addr} {L : List Nat} (h : w.ownsRow N 51 1 (.slice a L.length c) L.length (hvals L)) : ∃ g, HdsAt w g a L ∧ (L ≠ [] → N ≤ g) := by
  by_cases h0 : L = []
  · subst h0
    exact ⟨0, fun i x hx => by simp at hx, fun h => absurd rfl h⟩
  · obtain ⟨g, e, h1, -, -, h2, -⟩ := row_hands h rfl (List.length_pos_iff.2 h0)
    exact ⟨g, h2, fun _ => h1⟩

set_option maxRecDepth 100000 in
set_option maxHeartbeats 2000000 in
theorem axis_seq {R : Nat → Prop} {db : Nat} {D : Dc} {h m : Nat} {s : Sl} (hw : WF D) (hs : sl D h = some s) (hm : idxH (allR D) h = (m : Int)) (hml : m < (allR D).length) {L : List Nat} (hL : ahead D h m = L) (hl : L.length < 4611686018427387904) {d1 d2 d3 : Nat} :
    IsSeq Try.prog 46 #[.pointer (some ⟨d1, 0, none⟩), .pointer (some ⟨d2, 0, none⟩), .pointer (some ⟨d3, 0, none⟩)] encH L (fun b => R b ∨ b = d1 ∨ b = d2 ∨ b = d3) (fun _ => False) (fun W => View W R db D ∧ IsC W d1 #[.pointer (some ⟨db, 0, none⟩)] ∧ IsC W d2 #[.int .u64 (h : Int)] ∧ IsC W d3 #[.int .i64 8]) := by
  have stab : ∀ W W' A, (View W R db D ∧ IsC W d1 #[.pointer (some ⟨db, 0, none⟩)] ∧ IsC W d2 #[.int .u64 (h : Int)] ∧ IsC W d3 #[.int .i64 8]) → Tn A W W' → (∀ b, (R b ∨ b = d1 ∨ b = d2 ∨ b = d3) → ¬ A b) → (View W' R db D ∧ IsC W' d1 #[.pointer (some ⟨db, 0, none⟩)] ∧ IsC W' d2 #[.int .u64 (h : Int)] ∧ IsC W' d3 #[.int .i64 8]) :=
    fun W W' A q ht hA => ⟨q.1.turn ht.gr (fun b hb => hA b (.inl hb)), q.2.1.tn ht (hA _ (.inr (.inl rfl))), q.2.2.1.tn ht (hA _ (.inr (.inr (.inl rfl)))), q.2.2.2.tn ht (hA _ (.inr (.inr (.inr rfl))))⟩
  refine ⟨fun b hb => hb.elim, fun W q b hb => ?_, stab, ?_⟩
  · rcases hb with hb | rfl | rfl | rfl
    · exact q.1.lt b hb
    · exact q.2.1.lt
    · exact q.2.2.1.lt
    · exact q.2.2.2.lt
  · intro W l J Jx C0 Dd hq stJ stJx hY h0 hd hdT
    have HQ : Hid (View W R db D ∧ IsC W d1 #[.pointer (some ⟨db, 0, none⟩)] ∧ IsC W d2 #[.int .u64 (h : Int)] ∧ IsC W d3 #[.int .i64 8]) := hq
    have c1 : W.cell? ⟨d1, 0, none⟩ = some (.pointer (some ⟨db, 0, none⟩)) := hq.2.1.cell 0
    have c2 : W.cell? ⟨d2, 0, none⟩ = some (.int .u64 (h : Int)) := hq.2.2.1.cell 0
    have c3 : W.cell? ⟨d3, 0, none⟩ = some (.int .i64 8) := hq.2.2.2.cell 0
    have HST : Hid _ := stab
    have HWF : Hid (WF D ∧ sl D h = some s ∧ idxH (allR D) h = (m : Int) ∧ m < (allR D).length ∧ ahead D h m = L ∧ L.length < 4611686018427387904) := ⟨hw, hs, hm, hml, hL, hl⟩
    have HY : Hid (RoundOk Try.prog l encH L J Jx) := hY
    have HD : Hid (∀ b, C0 b → ¬ (R b ∨ b = d1 ∨ b = d2 ∨ b = d3)) := hd
    have HSJ : Hid (Stb Dd J ∧ Stb Dd Jx ∧ J [] C0 W) := ⟨stJ, stJx, h0⟩
    have hin := isnode_live W R db D h s hq.1 hw hs
    clear hq stab hw hs hm hml hL hl hY hd stJ stJx h0 hdT
    refine callsIn_of_wp Try.func46 rfl trivial ?_ rfl
    simp only [Try.ntmps46, List.size_toArray, List.length_cons, List.length_nil, Nat.reduceAdd, Nat.reduceSub, Array.replicate_succ, Array.replicate_zero, List.push_toArray, List.append_toArray, List.nil_append, List.cons_append]
    gi_wp2_with fail
    refine ⟨trivial, rfl, (callsIn_wide.2 hin).mono ?_⟩
    rintro e w1 ⟨rfl, hb1⟩
    have t1 : Tn (fun _ => False) W w1 := Tn.of_below hb1 (Nat.le_refl _)
    have q1 := HST.out W w1 _ HQ.out t1 (fun _ _ h => h)
    have HQ1 : Hid (_ ∧ Tn (fun _ => False) W w1) := ⟨q1, t1⟩
    have e1 : w1.cell? ⟨d1, 0, none⟩ = some (.pointer (some ⟨db, 0, none⟩)) := q1.2.1.cell 0
    have e2 : w1.cell? ⟨d2, 0, none⟩ = some (.int .u64 (h : Int)) := q1.2.2.1.cell 0
    have e3 : w1.cell? ⟨d3, 0, none⟩ = some (.int .i64 8) := q1.2.2.2.cell 0
    have hal := along_prec w1 R db D h m s q1.1 HWF.out.1 HWF.out.2.1 HWF.out.2.2.1 HWF.out.2.2.2.1 L HWF.out.2.2.2.2.1
    clear q1 t1 hb1 hin c1 c2 c3
    gi_wp2_with fail
    refine ⟨trivial, rfl, (callsIn_wide.2 hal).mono ?_⟩
    rintro e w2 ⟨a, c, rfl, ho, hb2⟩
    have t2 : Tn (fun _ => False) w1 w2 := Tn.of_below hb2 (Nat.le_refl _)
    obtain ⟨n, hn⟩ : ∃ n, L.length = n := ⟨_, rfl⟩
    obtain ⟨g, hg1, hg2⟩ := hds_own ho
    have hmv := mk_values w2 a n c
    obtain ⟨W3, hW3⟩ : ∃ W3, w2.alloc (.cells #[.slice a n c] 42) = W3 := ⟨_, rfl⟩
    rw [hW3] at hmv
    have t3 : Tn (fun _ => False) w2 W3 := by rw [← hW3]; exact (Tn.refl _ _).alloc _
    have zB : IsC W3 w2.heap.size #[.slice a L.length c] := by rw [← hW3, hn]; exact isC_new _ _ _
    have t03 : Tn (fun _ => False) W W3 := (HQ1.out.2.trans t2 (fun _ _ h => h)).trans t3 (fun _ _ h => h)
    have hvs := values_seq (xs := L) (a := a) (cap := c) (lb := w2.heap.size) (g := g) HWF.out.2.2.2.2.2
    have hC0l : ∀ b, C0 b → b < W.heap.size := fun b hb => HSJ.out.1.1 _ _ _ HSJ.out.2.2 b (.inl hb)
    have hz1 := HQ1.out.2.size
    have hz2 := t2.size
    have hrun := hvs.run W3 l J Jx C0 Dd ⟨zB, hg1.tn t3 (fun _ h => h)⟩ HSJ.out.1 HSJ.out.2.1 HY.out (HSJ.out.1.2 _ _ _ _ _ HSJ.out.2.2 t03 (fun _ _ h => h)) (fun b hb hr => by
      have := hC0l b hb
      rcases hr with hr | ⟨hn0, rfl⟩
      · omega
      · have := hg2 hn0; omega) (fun _ _ h => h)
    have HT3 : Hid (Tn (fun _ => False) W W3) := t03
    have em := enters_of Try.func62 (by kernel_rfl) rfl
    rw [hn]
    clear ho hb2 t2 t3 zB t03 hg1 hg2 hal e1 e2 e3 hvs hC0l hW3
    gi_wp2_with fail
    refine ⟨trivial, rfl, (callsIn_wide.2 hmv).mono ?_⟩
    rintro e w' ⟨rfl, rfl⟩
    gi_wp2_with fail
    refine ⟨trivial, rfl, hrun.mono ?_⟩
    rintro e Y ⟨⟨v, rfl⟩, tY, qY, C, hC, hJ⟩
    have HG : Hid (Tn (fun b => False ∨ C0 b) W Y ∧ (View Y R db D ∧ IsC Y d1 #[.pointer (some ⟨db, 0, none⟩)] ∧ IsC Y d2 #[.int .u64 (h : Int)] ∧ IsC Y d3 #[.int .i64 8]) ∧ ∃ C, (∀ b, C b → C0 b ∨ W.heap.size ≤ b) ∧ (J L C Y ∨ ∃ pre, pre <+: L ∧ Jx pre C Y)) := by
      have tt : Tn (fun b => False ∨ C0 b) W Y := (HT3.out.mono (fun _ _ h => h.elim)).trans tY (fun _ _ h => h)
      exact ⟨tt, HST.out W Y _ HQ.out tt (fun b hb h => h.elim id (fun h => HD.out b h hb)), C, fun b hb => (hC b hb).imp id (Nat.le_trans HT3.out.size), hJ⟩
    clear tY qY hC hJ hrun
    gi_wp2
    go_end0
    exact ⟨⟨_, rfl⟩, HG.out.1, HG.out.2.1, HG.out.2.2⟩

end Go.Proofs.Ytjkgjckkglfokab

/- numbers: an iterator held against the list that it tells. -/
namespace Go.Proofs.Ytjkgjckkglfokab
open Go.RowKit Go.Shelf
set_option linter.unusedVariables false
set_option linter.unusedSimpArgs false
attribute [local go_sem] Oper.semAt_some

end Go.Proofs.Ytjkgjckkglfokab
