/- SetAttr and DropAttr of the program. -/
import Derived.Test.YtmapmkogjhinmaaGreatA14
import Derived.Test.YtmapmkogjhinmaaGreatA12
namespace Go.Proofs.YtmapmkogjhinmaaGreat
open Go.RowKit
set_option maxRecDepth 100000
set_option maxHeartbeats 2000000
set_option linter.unusedVariables false
set_option linter.unusedSimpArgs false
theorem has_idx {l : List (ByteArray × ByteArray)} (hs : SortA l) (nm : ByteArray) : l.findIdx? (fun p => decide (p.1 = nm)) = if hasN l nm then some (lowN l nm) else none := by
 unfold hasN
 cases hk : l[lowN l nm]? with
 | none =>
  simp only [Bool.false_eq_true, if_false]
  rw [List.findIdx?_eq_none_iff]
  intro p hp
  obtain ⟨i, hi⟩ := List.getElem?_of_mem hp
  have h1 := low_cut hs (nm := nm) hi
  have h2 : l.length <= lowN l nm := List.getElem?_eq_none_iff.1 hk
  have h3 := (List.getElem?_eq_some_iff.1 hi).1
  have h4 := h1.1 (by omega)
  simp only [decide_eq_false_iff_not]
  intro e
  rw [e] at h4
  exact ltN_irr _ h4
 | some p =>
  simp only
  have hno : ∀ j q, j < lowN l nm -> l[j]? = some q -> q.1 ≠ nm := fun j q hj hq e => by
   have := (low_cut hs (nm := nm) hq).1 hj
   rw [e] at this
   exact ltN_irr _ this
  by_cases he : p.1 = nm
  ·rw [if_pos (by simpa using he), List.findIdx?_eq_some_iff_getElem]
   have hlt := (List.getElem?_eq_some_iff.1 hk).1
   refine ⟨hlt, by rw [(List.getElem?_eq_some_iff.1 hk).2]; simpa using he, fun j hj => ?_⟩
   have := hno j l[j] hj (List.getElem?_eq_getElem (by omega))
   simpa using this
  ·rw [if_neg (by simpa using he), List.findIdx?_eq_none_iff]
   intro q hq
   obtain ⟨j, hj⟩ := List.getElem?_of_mem hq
   simp only [decide_eq_false_iff_not]
   intro e
   by_cases h1 : j < lowN l nm
   ·exact hno j q h1 hj e
   ·by_cases h2 : j = lowN l nm
    ·subst h2
     rw [hk] at hj
     cases hj
     exact he e
    ·have hlt := (List.getElem?_eq_some_iff.1 hk).1
     have hjl := (List.getElem?_eq_some_iff.1 hj).1
     have hp := (List.pairwise_iff_getElem.1 hs) (lowN l nm) j hlt hjl (by omega)
     rw [(List.getElem?_eq_some_iff.1 hk).2, (List.getElem?_eq_some_iff.1 hj).2] at hp
     have h3 : ¬ ltN p.1 nm := fun h => by
      have := (low_cut hs (nm := nm) hk).2 h
      omega
     rw [e] at hp
     exact h3 hp
theorem WF.sort {D : Dc} (hw : WF D) {h i : Nat} {s : Sl} (ha : atI D.S h = some i) (hi : D.S[i]? = some s) (hk : s.kind = 1) : SortA s.attrs /\ s.attrs.length <= 32 := by
 obtain ⟨s', h1, h2, _⟩ := atI_some ha
 rw [hi] at h1
 cases h1
 have ho := hw.own i s hi h2
 unfold ownE at ho
 rw [if_pos (by exact hk)] at ho
 split at ho
 ·exact sortA_of ho
 ·cases ho
theorem attrCells_cons (p : ByteArray × ByteArray) (l : List (ByteArray × ByteArray)) : attrCells (p :: l) = .string p.1 :: .string p.2 :: attrCells l := rfl
theorem attrCells_take : ∀ (l : List (ByteArray × ByteArray)) (k : Nat), attrCells (l.take k) = (attrCells l).take (k * 2)
 | [], k => by simp [attrCells]
 | p :: l, 0 => by simp [attrCells]
 | p :: l, k + 1 => by
  rw [List.take_succ_cons, attrCells_cons, attrCells_cons, attrCells_take l k, show (k + 1) * 2 = k * 2 + 1 + 1 by omega, List.take_succ_cons, List.take_succ_cons]
theorem attrCells_drop : ∀ (l : List (ByteArray × ByteArray)) (k : Nat), attrCells (l.drop k) = (attrCells l).drop (k * 2)
 | [], k => by simp [attrCells]
 | p :: l, 0 => by simp
 | p :: l, k + 1 => by
  rw [List.drop_succ_cons, attrCells_cons, attrCells_drop l k, show (k + 1) * 2 = k * 2 + 1 + 1 by omega, List.drop_succ_cons, List.drop_succ_cons]
theorem attrCells_set : ∀ (l : List (ByteArray × ByteArray)) (k : Nat) (p : ByteArray × ByteArray) (v : ByteArray), l[k]? = some p -> attrCells (l.set k (p.1, v)) = (attrCells l).set (k * 2 + 1) (.string v)
 | [], k, p, v, h => by simp at h
 | q :: l, 0, p, v, h => by
  simp at h
  subst h
  rfl
 | q :: l, k + 1, p, v, h => by
  simp at h
  rw [List.set_cons_succ, attrCells_cons, attrCells_cons, attrCells_set l k p v h, show (k + 1) * 2 + 1 = (k * 2 + 1) + 1 + 1 by omega, List.set_cons_succ, List.set_cons_succ]
theorem PdS.inAttrs {w w' : World} {ro : Nat -> Nat} {db : Nat} {D : Dc} {g scap : Nat} {ra : Option Addr} {rcap : Nat} {L : List (Value × Value)} (h : PdS w ro db D (some ⟨g, 0, none⟩) scap ra rcap L) {i : Nat} {s : Sl} {p : Value × Value} (hs : D.S[i]? = some s) (hp : L[i]? = some p) {l' : List (ByteArray × ByteArray)} (hg : w.grownBy w' p.1.ownBlock)
  (hown : w'.ownsRow 0 52 2 p.1 l'.length (attrCells l')) : PdS w' ro db { D with S := D.S.set i { s with attrs := l' } } (some ⟨g, 0, none⟩) scap ra rcap L := by
 have hi := (List.getElem?_eq_some_iff.1 hs).1
 have hLs : L.set i p = L := by
  apply List.ext_getElem?
  intro m
  by_cases e : m = i
  ·subst e; rw [List.getElem?_set_self (by rw [h.len]; exact hi), hp]
  ·rw [List.getElem?_set_ne (by omega)]
 have hrow : rowOf (D.S.set i { s with attrs := l' }) L = rowOf D.S L := by
  have h1 := rowOf_set h.len hs hp (j := 4) (s' := { s with attrs := l' }) (p' := p) (u := p.1) (by omega) rfl
  rw [hLs] at h1
  rw [h1]
  have h2 : (rowOf D.S L)[i * 8 + 4]? = some p.1 := by rw [rowOf_get hs hp (by omega)]; rfl
  apply List.ext_getElem?
  intro m
  by_cases e : m = i * 8 + 4
  ·subst e
   rw [List.getElem?_set_self (List.getElem?_eq_some_iff.1 h2).1, h2]
  ·rw [List.getElem?_set_ne (by omega)]
 have hk : ∀ b, ro b ≠ 0 -> ro b ≠ 2 * i + 4 -> w'.heap[b]? = w.heap[b]? := fun b h1 h2 => hg.block b (h.lt b h1) (fun e => h2 (h.rat i p b hp e.symm))
 refine ⟨?_, ?_, own_of_block h.roots (fun k hk' => hk k (by rw [h.rr k hk']; omega) (by rw [h.rr k hk']; omega)), by simpa using h.len, fun m x y hx hy => ?_, h.rdb, by simpa using h.rs, h.rr, h.rat, h.rk, fun b hb => Nat.lt_of_lt_of_le (h.lt b hb) hg.size⟩
 ·have := h.head.of_block (hk db (by rw [h.rdb]; omega) (by rw [h.rdb]; omega))
  rw [show cnt Sl.live ({ D with S := D.S.set i { s with attrs := l' } } : Dc).S = cnt Sl.live D.S from cnt_set hs rfl]
  simpa using this
 ·have := own_of_block h.slots (w' := w') (fun k hk' => hk k (by rw [h.rs k hk']; omega) (by rw [h.rs k hk']; omega))
  show w'.ownsRow 0 90 8 _ (D.S.set i { s with attrs := l' }).length (rowOf (D.S.set i { s with attrs := l' }) L)
  rw [hrow]
  simpa using this
 ·by_cases hm : m = i
  ·subst hm
   have hx' : (D.S.set m { s with attrs := l' })[m]? = some x := hx
   rw [List.getElem?_set_self hi] at hx'
   cases hx'
   rw [hp] at hy
   cases hy
   obtain ⟨_, v2⟩ := h.vals m s p hs hp
   exact ⟨hown, own_of_block v2 (fun b hb => hk b (by rw [h.rk m p b hp hb]; omega) (by rw [h.rk m p b hp hb]; omega))⟩
  ·have hx' : (D.S.set i { s with attrs := l' })[m]? = some x := hx
   rw [List.getElem?_set_ne (by omega)] at hx'
   obtain ⟨v1, v2⟩ := h.vals m x y hx' hy
   exact ⟨own_of_block v1 (fun b hb => hk b (by rw [h.rat m y b hy hb]; omega) (by rw [h.rat m y b hy hb]; omega)), own_of_block v2 (fun b hb => hk b (by rw [h.rk m y b hy hb]; omega) (by rw [h.rk m y b hy hb]; omega))⟩
structure AttAt (w : World) (ro : Nat -> Nat) (db : Nat) (D : Dc) (i : Nat) (s : Sl) (g scap : Nat) (aa : Option Addr) (ac : Nat) : Prop where
 hd : w.cell? ⟨db, 0, none⟩ = some (.slice (some ⟨g, 0, none⟩) D.S.length scap)
 cell : w.cell? ⟨g, i * 8 + 4, none⟩ = some (.slice aa s.attrs.length ac)
 fz : w.frozen? ⟨g, i * 8 + 4, none⟩ = false
 own : w.ownsRow 0 52 2 (.slice aa s.attrs.length ac) s.attrs.length (attrCells s.attrs)
 rog : ro g ≠ 0
 lt : g < w.heap.size
 ne : ∀ k, (Value.slice aa s.attrs.length ac).ownBlock = some k -> k ≠ g /\ ro k ≠ 0
 put : ∀ w' l' a' c', w.grownBy w' (Value.slice aa s.attrs.length ac).ownBlock -> w'.ownsRow 0 52 2 (.slice a' l'.length c') l'.length (attrCells l') -> (∀ k, (Value.slice a' l'.length c').ownBlock = some k -> (Value.slice aa s.attrs.length ac).ownBlock = some k \/ w.heap.size <= k) ->
  ∃ ro', PE w ro db { D with S := D.S.set i { s with attrs := l' } } (w'.setCell ⟨g, i * 8 + 4, none⟩ (.slice a' l'.length c')) ro'
 inp : ∀ w' l', w.grownBy w' (Value.slice aa s.attrs.length ac).ownBlock -> w'.ownsRow 0 52 2 (.slice aa s.attrs.length ac) l'.length (attrCells l') -> PE w ro db { D with S := D.S.set i { s with attrs := l' } } w' ro
theorem att_at {w : World} {ro : Nat -> Nat} {db : Nat} {D : Dc} (hd : PDoc w ro db D) {i : Nat} {s : Sl} (hi : D.S[i]? = some s) : ∃ g scap aa ac, AttAt w ro db D i s g scap aa ac := by
 obtain ⟨sa, scap, ra, rcap, L, h⟩ := hd
 obtain ⟨g, q, rfl, hg2, hq, hcap, hhd, hcl⟩ := h.slot hi
 obtain ⟨v1, v2⟩ := h.vals i s q hi hq
 obtain ⟨aa, ac, e1⟩ := own_slice v1
 obtain ⟨c4, f4⟩ := hcl 4 _ rfl
 have hq1 : q.1 = .slice aa s.attrs.length ac := e1
 refine ⟨g, scap, aa, ac, hhd, by rw [<- hq1]; exact c4, f4, by rw [<- hq1]; exact v1, by omega, h.lt g (by omega), fun k hk => ?_, fun w' l' a' c' h1 h2 h3 => ?_, fun w' l' h1 h2 => ?_⟩
 ·rw [<- hq1] at hk
  have := h.rat i q k hq hk
  exact ⟨by rintro rfl; omega, by omega⟩
 ·rw [<- hq1] at h1 h3
  refine ⟨roN ro (2 * i + 4) (.slice a' l'.length c'), ?_, ⟨_, _, _, _, _, h.newAttrs hi hq h1 h2 h3⟩, fun k hk => roN_from (by omega) (fun b hb => h.rat i q b hq hb) h3 hk⟩
  exact Turn.setCell (A := fun b => ro b ≠ 0) ⟨h1.os, h1.tape, h1.output, h1.size, fun k hk' hne => h1.block k hk' (fun e => hne (by rw [h.rat i q k hq e.symm]; omega))⟩ (p := ⟨g, _, none⟩) (by show ro g ≠ 0; omega) _
 ·rw [<- hq1] at h1 h2
  refine ⟨⟨h1.os, h1.tape, h1.output, h1.size, fun k hk' hne => h1.block k hk' (fun e => hne (by rw [h.rat i q k hq e.symm]; omega))⟩, ⟨_, _, _, _, _, h.inAttrs hi hq h1 h2⟩, fun k hk => .inl hk⟩
theorem AttAt.below {w W : World} {ro : Nat -> Nat} {db : Nat} {D : Dc} {i : Nat} {s : Sl} {g scap : Nat} {aa : Option Addr} {ac : Nat} (h : AttAt w ro db D i s g scap aa ac) (hb : Below w.heap.size w W) :
  W.cell? ⟨g, i * 8 + 4, none⟩ = some (.slice aa s.attrs.length ac) /\ W.frozen? ⟨g, i * 8 + 4, none⟩ = false /\ W.ownsRow 0 52 2 (.slice aa s.attrs.length ac) s.attrs.length (attrCells s.attrs) :=
 ⟨(hb.cell (p := ⟨g, _, none⟩) h.lt).trans h.cell, (hb.frozen (p := ⟨g, _, none⟩) h.lt).trans h.fz, own_of_block h.own (fun k hk => hb.block k (own_block_lt h.own k hk).2)⟩
theorem pdropA_any (w : World) (ro : Nat -> Nat) (db : Nat) (D : Dc) (h : Nat) (nm : ByteArray) (hd : PDoc w ro db D) (hw : WF D) (hh : h < 18446744073709551616) :
  Calls Tryz.prog 27 #[.pointer (some ⟨db, 0, none⟩), .int .u64 (h : Int), .string nm] w (PPost w ro db (dropD D h nm).1 (dropD D h nm).2) := by
 have hv := hd.view
 have HD : Hid (PDoc w ro db D) := hd
 cases ha : atI D.S h with
 | none =>
  have e1 : dropD D h nm = (D, 8) := by simp only [dropD, ha]
  rw [e1]
  have hc := findKind_none w _ db D h 1 hv hw.fits hh ha
  clear hd ha e1 hv
  go_enter Tryz.func27, Tryz.ntmps27
  go_wp2_with fail
  refine hc.mono ?_
  rintro e w1 ⟨rfl, hb1⟩
  have HB1 : Hid (Below w.heap.size w w1) := hb1
  clear hb1 hc
  go_wp2
  go_ret
  exact ppost_same HD.out HB1.out
 | some i =>
  obtain ⟨s, hs, -⟩ := atI_some ha
  obtain ⟨g, scap, aa, ac, hat⟩ := att_at hd hs
  have hc := findKind_some w _ db D h i s 1 hv hw.fits hh ha hs g 0 scap hat.hd
  rw [Nat.zero_add] at hc
  by_cases hk : s.kind = 1
  ·rw [if_pos hk] at hc
   obtain ⟨hso, hl32⟩ := hw.sort ha hs hk
   have hidx := has_idx hso nm
   have HAT : Hid (AttAt w ro db D i s g scap aa ac) := hat
   have HSO : Hid (SortA s.attrs) := hso
   obtain ⟨k, Hk⟩ : ∃ k, Hid (lowN s.attrs nm = k) := ⟨_, rfl⟩
   have hfa : ∀ W, Below w.heap.size w W -> Calls Tryz.prog 57 #[.slice aa s.attrs.length ac, .string nm] W fun e w' => e = .returned (.tuple #[.int .i64 (k : Int), .bool (hasN s.attrs nm)]) /\ Below W.heap.size W w' := fun W hb => by
    obtain ⟨d1, d2, d3⟩ := HAT.out.below hb
    obtain ⟨xa, xc, e, _, hr⟩ := attrs_row' (R := fun b => b < W.heap.size) d3 (fun b hb' => (own_block_lt d3 b hb').2)
    cases e
    exact findAttr_any W _ aa s.attrs ac nm s.attrs.length k rfl (by omega) hr (fun b hb' => hb') HSO.out Hk.out
   cases hh2 : hasN s.attrs nm with
   | false =>
    rw [hh2] at hidx hfa
    have e1 : dropD D h nm = (D, 35) := by simp only [dropD, ha, hs, hk, if_true, hidx, Bool.false_eq_true, if_false]
    rw [e1]
    clear hd hv ha hs hk hat hso hidx hh2
    go_enter Tryz.func27, Tryz.ntmps27
    go_wp2_with fail
    refine hc.mono ?_
    rintro e w1 ⟨rfl, hb1⟩
    have HB1 : Hid (Below w.heap.size w w1) := hb1
    obtain ⟨d1, d2, d3⟩ := HAT.out.below hb1
    have hf1 := hfa w1 hb1
    clear hb1 hc hfa d3
    go_wp2_with fail
    refine hf1.mono ?_
    rintro e w2 ⟨rfl, hb2⟩
    have HB2 : Hid (Below w.heap.size w w2) := HB1.out.trans (hb2.mono HB1.out.size)
    clear hb2 hf1 d1 d2
    go_wp2
    go_ret
    exact ppost_same HD.out HB2.out
   | true =>
    rw [hh2] at hidx hfa
    rw [if_pos rfl, Hk.out] at hidx
    have e1 : dropD D h nm = ({ D with S := D.S.set i { s with attrs := s.attrs.take k ++ s.attrs.drop (k + 1) } }, 0) := by simp only [dropD, ha, hs, hk, if_true, hidx]
    rw [e1]
    have hkl : k < s.attrs.length := by
     rw [List.findIdx?_eq_some_iff_getElem] at hidx
     exact hidx.1
    have hk8 : (k : Int) < 32 := by omega
    clear hd hv ha hs hk hat hso hidx hh2
    go_enter Tryz.func27, Tryz.ntmps27
    go_wp2_with fail
    refine hc.mono ?_
    rintro e w1 ⟨rfl, hb1⟩
    have HB1 : Hid (Below w.heap.size w w1) := hb1
    obtain ⟨d1, d2, d3⟩ := HAT.out.below hb1
    have hf1 := hfa w1 hb1
    clear hb1 hc hfa d3
    go_wp2_with fail
    refine hf1.mono ?_
    rintro e w2 ⟨rfl, hb2⟩
    have HB2 : Hid (Below w.heap.size w w2) := HB1.out.trans (hb2.mono HB1.out.size)
    clear hb2 hf1 d1 d2
    obtain ⟨d1, d2, d3⟩ := HAT.out.below HB2.out
    have hdl := A.delete_any w2 0 aa s.attrs.length ac k (attrCells s.attrs) d3 (attrCells_one _) (by omega) hkl
    have hgn : ∀ k, (Value.slice aa s.attrs.length ac).ownBlock = some k -> k ≠ g := fun k hk => (HAT.out.ne k hk).1
    have hgl : g < w2.heap.size := Nat.lt_of_lt_of_le HAT.out.lt HB2.out.size
    have HFin : Hid (∀ w3, w3.ownsRow 0 52 2 (.slice aa (s.attrs.length - 1) ac) (s.attrs.length - 1) ((attrCells s.attrs).take (k * 2) ++ (attrCells s.attrs).drop ((k + 1) * 2)) -> w2.grownBy w3 (Value.slice aa s.attrs.length ac).ownBlock ->
      w3.cell? ⟨g, i * 8 + 4, none⟩ = some (.slice aa s.attrs.length ac) /\ w3.frozen? ⟨g, i * 8 + 4, none⟩ = false /\ ∃ ro', PE w ro db { D with S := D.S.set i { s with attrs := s.attrs.take k ++ s.attrs.drop (k + 1) } } (w3.setCell ⟨g, i * 8 + 4, none⟩ (.slice aa (s.attrs.length - 1) ac)) ro') := fun w3 k1 k2 => by
     have hbk := k2.block g hgl (fun e => hgn g e.symm rfl)
     have hlen : (s.attrs.take k ++ s.attrs.drop (k + 1)).length = s.attrs.length - 1 := by simp; omega
     refine ⟨(World.cell?_of_block (w := w2) (a := ⟨g, i * 8 + 4, none⟩) hbk).trans d1, (World.frozen?_of_block (w := w2) (a := ⟨g, i * 8 + 4, none⟩) hbk).trans d2, ?_⟩
     have := HAT.out.put w3 (s.attrs.take k ++ s.attrs.drop (k + 1)) aa ac (grown_of HB2.out k2) (by rw [hlen, attrCells_app, attrCells_take, attrCells_drop]; exact k1) (fun j hj => .inl (by
      cases aa with
      | none => exact hj
      | some ad => exact hj))
     rw [hlen] at this
     exact this
    clear d2 d3 hgn
    go_wp2_with fail
    refine hdl.mono ?_
    rintro e w3 ⟨rfl, k1, k2⟩
    obtain ⟨c3, f3, ro3, p3⟩ := HFin.out w3 k1 k2
    have HP3 : Hid (PE w ro db { D with S := D.S.set i { s with attrs := s.attrs.take k ++ s.attrs.drop (k + 1) } } (w3.setCell ⟨g, i * 8 + 4, none⟩ (.slice aa (s.attrs.length - 1) ac)) ro3) := p3
    clear hdl k1 k2 p3 HFin d1
    go_wp2
    go_ret
    exact HP3.out.post
  ·rw [if_neg hk] at hc
   have e1 : dropD D h nm = (D, 30) := by simp [dropD, ha, hs, hk]
   rw [e1]
   clear hd hat hv ha e1 hs hk
   go_enter Tryz.func27, Tryz.ntmps27
   go_wp2_with fail
   refine hc.mono ?_
   rintro e w1 ⟨rfl, hb1⟩
   have HB1 : Hid (Below w.heap.size w w1) := hb1
   clear hb1 hc
   go_wp2
   go_ret
   exact ppost_same HD.out HB1.out
def setAttrL (l : List (ByteArray × ByteArray)) (nm v : ByteArray) : List (ByteArray × ByteArray) := l.take (lowN l nm) ++ [(nm, v)] ++ l.drop (if hasN l nm then lowN l nm + 1 else lowN l nm)
def setAttrD (D : Dc) (h : Nat) (nm v : ByteArray) : Dc × Int :=
 match atI D.S h with
 | none => (D, 8)
 | some i => match D.S[i]? with
  | none => (D, 8)
  | some s => if s.kind = 1 then (if nameL nm.data.toList then (if (tans v.data.toList).2 = 0 then (if hasN s.attrs nm = false /\ 32 <= s.attrs.length then (D, 2) else ({ D with S := D.S.set i { s with attrs := setAttrL s.attrs nm v } }, 0)) else (D, (tans v.data.toList).2)) else (D, 6)) else (D, 30)
theorem set_in {l : List (ByteArray × ByteArray)} {nm v : ByteArray} (h : hasN l nm = true) : ∃ p, l[lowN l nm]? = some p /\ p.1 = nm /\ setAttrL l nm v = l.set (lowN l nm) (p.1, v) := by
 unfold hasN at h
 cases hk : l[lowN l nm]? with
 | none => rw [hk] at h; cases h
 | some p =>
  rw [hk] at h
  have he : p.1 = nm := by simpa using h
  refine ⟨p, rfl, he, ?_⟩
  have hh : hasN l nm = true := by unfold hasN; rw [hk]; simpa using he
  have hlt := (List.getElem?_eq_some_iff.1 hk).1
  unfold setAttrL
  rw [hh, if_pos rfl, List.set_eq_take_append_cons_drop, if_pos hlt, he]
  simp
theorem psetA_any (w : World) (ro : Nat -> Nat) (db : Nat) (D : Dc) (h : Nat) (nm v : ByteArray) (hd : PDoc w ro db D) (hw : WF D) (hh : h < 18446744073709551616) :
  Calls Tryz.prog 26 #[.pointer (some ⟨db, 0, none⟩), .int .u64 (h : Int), .string nm, .string v] w (PPost w ro db (setAttrD D h nm v).1 (setAttrD D h nm v).2) := by
 have hv := hd.view
 have HD : Hid (PDoc w ro db D) := hd
 cases ha : atI D.S h with
 | none =>
  have e1 : setAttrD D h nm v = (D, 8) := by simp only [setAttrD, ha]
  rw [e1]
  have hc := findKind_none w _ db D h 1 hv hw.fits hh ha
  clear hd ha e1 hv
  go_enter Tryz.func26, Tryz.ntmps26
  go_wp2_with fail
  refine hc.mono ?_
  rintro e w1 ⟨rfl, hb1⟩
  have HB1 : Hid (Below w.heap.size w w1) := hb1
  clear hb1 hc
  go_wp2
  go_ret
  exact ppost_same HD.out HB1.out
 | some i =>
  obtain ⟨s, hs, -⟩ := atI_some ha
  obtain ⟨g, scap, aa, ac, hat⟩ := att_at hd hs
  have hc := findKind_some w _ db D h i s 1 hv hw.fits hh ha hs g 0 scap hat.hd
  rw [Nat.zero_add] at hc
  by_cases hk : s.kind = 1
  ·rw [if_pos hk] at hc
   obtain ⟨hso, hl32⟩ := hw.sort ha hs hk
   have HAT : Hid (AttAt w ro db D i s g scap aa ac) := hat
   have HSO : Hid (SortA s.attrs) := hso
   have hnw := fun W => name_any W nm
   have htx := fun W => text_any W v
   cases hnm : nameL nm.data.toList with
   | false =>
    have e1 : setAttrD D h nm v = (D, 6) := by simp [setAttrD, ha, hs, hk, hnm]
    rw [e1]
    rw [hnm] at hnw
    clear hd hv ha hs hk hat hso hnm htx e1
    go_enter Tryz.func26, Tryz.ntmps26
    go_wp2_with fail
    refine hc.mono ?_
    rintro e w1 ⟨rfl, hb1⟩
    have HB1 : Hid (Below w.heap.size w w1) := hb1
    clear hb1 hc
    go_wp2_with fail
    refine (hnw _).mono ?_
    rintro e w2 ⟨rfl, hb2⟩
    have HB2 : Hid (Below w.heap.size w w2) := HB1.out.trans (hb2.mono HB1.out.size)
    clear hb2 hnw HB1
    go_wp2
    go_ret
    exact ppost_same HD.out HB2.out
   | true =>
    rw [hnm] at hnw
    by_cases htn : (tans v.data.toList).2 = 0
    ·obtain ⟨k, Hk⟩ : ∃ k, Hid (lowN s.attrs nm = k) := ⟨_, rfl⟩
     have hfa : ∀ W, Below w.heap.size w W -> Calls Tryz.prog 57 #[.slice aa s.attrs.length ac, .string nm] W fun e w' => e = .returned (.tuple #[.int .i64 (k : Int), .bool (hasN s.attrs nm)]) /\ Below W.heap.size W w' := fun W hb => by
      obtain ⟨d1, d2, d3⟩ := HAT.out.below hb
      obtain ⟨xa, xc, e, _, hr⟩ := attrs_row' (R := fun b => b < W.heap.size) d3 (fun b hb' => (own_block_lt d3 b hb').2)
      cases e
      exact findAttr_any W _ aa s.attrs ac nm s.attrs.length k rfl (by omega) hr (fun b hb' => hb') HSO.out Hk.out
     have hkl0 : k <= s.attrs.length := by rw [<- Hk.out]; exact lowN_le _ _
     cases hh2 : hasN s.attrs nm with
     | true =>
      rw [hh2] at hfa
      obtain ⟨p, hp1, hp2, hp3⟩ := set_in (v := v) hh2
      rw [Hk.out] at hp1 hp3
      have e1 : setAttrD D h nm v = ({ D with S := D.S.set i { s with attrs := s.attrs.set k (p.1, v) } }, 0) := by
       rw [<- hp3]
       simp [setAttrD, ha, hs, hk, hnm, htn, hh2]
      rw [e1]
      rw [htn] at htx
      generalize (tans v.data.toList).1 = y1 at *
      have hkl : k < s.attrs.length := (List.getElem?_eq_some_iff.1 hp1).1
      have hk8 : (k : Int) < 32 := by omega
      have hk9 : (k : Int) < (s.attrs.length : Int) := by omega
      have hk10 : (0 : Int) <= (k : Int) := by omega
      have Hp1 : Hid (s.attrs[k]? = some p) := hp1
      have hl8 : (s.attrs.length : Int) <= 32 := by omega
      clear hd hv ha hs hk hat hso hnm htn hh2 e1 hp1 hp2 hp3
      go_enter Tryz.func26, Tryz.ntmps26
      go_wp2_with fail
      refine hc.mono ?_
      rintro e w1 ⟨rfl, hb1⟩
      have HB1 : Hid (Below w.heap.size w w1) := hb1
      clear hb1 hc
      go_wp2_with fail
      refine (hnw _).mono ?_
      rintro e w2 ⟨rfl, hb2⟩
      have HB2 : Hid (Below w.heap.size w w2) := HB1.out.trans (hb2.mono HB1.out.size)
      clear hb2 hnw HB1
      go_wp2_with fail
      refine (htx _).mono ?_
      rintro e w3 ⟨rfl, hb3⟩
      have HB3 : Hid (Below w.heap.size w w3) := HB2.out.trans (hb3.mono HB2.out.size)
      clear hb3 htx HB2
      obtain ⟨d1, d2, d3⟩ := HAT.out.below HB3.out
      have hf3 := hfa w3 HB3.out
      clear hfa d3 d2
      go_wp2_with fail
      refine hf3.mono ?_
      rintro e w4 ⟨rfl, hb4⟩
      have HB4 : Hid (Below w.heap.size w w4) := HB3.out.trans (hb4.mono HB3.out.size)
      clear hb4 hf3 d1
      obtain ⟨d1, d2, d3⟩ := HAT.out.below HB4.out
      obtain ⟨hx1, hx2, hx3⟩ := row_cell d3
      obtain ⟨ab, rfl, -, hab, hcv⟩ := hx3 (k * 2 + 1) (.string p.2) (attrCells_get _ _ _ Hp1.out).2
      have hfv : w4.frozen? ⟨ab, k * 2 + 1, none⟩ = false := own_frozen d3 _
      have HFin : Hid (PE w ro db { D with S := D.S.set i { s with attrs := s.attrs.set k (p.1, v) } } (w4.setCell ⟨ab, k * 2 + 1, none⟩ (.string v)) ro) := by
       refine HAT.out.inp _ _ (grown_of HB4.out ⟨rfl, rfl, rfl, by simp [World.setCell], fun j hj hne => Below.heap_setCell _ _ _ _ (fun e => hne (by rw [e]; rfl))⟩) ?_
       have := own_set d3 (k * 2 + 1) (.string v)
       rw [attrCells_set _ _ _ _ Hp1.out]
       simpa using this
      clear d2 d3 hx3
      go_wp2
      go_ret
      exact HFin.out.post
     | false =>
      rw [hh2] at hfa
      rw [htn] at htx
      generalize (tans v.data.toList).1 = y1 at *
      by_cases h32 : 32 <= s.attrs.length
      ·have e1 : setAttrD D h nm v = (D, 2) := by simp [setAttrD, ha, hs, hk, hnm, htn, hh2, h32]
       rw [e1]
       have h32' : (32 : Int) <= (s.attrs.length : Int) := by omega
       have h32n : s.attrs.length <= 1048576 := by omega
       have h32i : (s.attrs.length : Int) <= 1048576 := by omega
       clear hd hv ha hs hk hat hso hnm htn hh2 e1
       go_enter Tryz.func26, Tryz.ntmps26
       go_wp2_with fail
       refine hc.mono ?_
       rintro e w1 ⟨rfl, hb1⟩
       have HB1 : Hid (Below w.heap.size w w1) := hb1
       clear hb1 hc
       go_wp2_with fail
       refine (hnw _).mono ?_
       rintro e w2 ⟨rfl, hb2⟩
       have HB2 : Hid (Below w.heap.size w w2) := HB1.out.trans (hb2.mono HB1.out.size)
       clear hb2 hnw HB1
       go_wp2_with fail
       refine (htx _).mono ?_
       rintro e w3 ⟨rfl, hb3⟩
       have HB3 : Hid (Below w.heap.size w w3) := HB2.out.trans (hb3.mono HB2.out.size)
       clear hb3 htx HB2
       obtain ⟨d1, d2, d3⟩ := HAT.out.below HB3.out
       have hf3 := hfa w3 HB3.out
       clear hfa d3 d2
       go_wp2_with fail
       refine hf3.mono ?_
       rintro e w4 ⟨rfl, hb4⟩
       have HB4 : Hid (Below w.heap.size w w4) := HB3.out.trans (hb4.mono HB3.out.size)
       clear hb4 hf3 d1
       obtain ⟨d1, d2, d3⟩ := HAT.out.below HB4.out
       clear d2 d3
       go_wp2
       go_ret
       exact ppost_same HD.out HB4.out
      ·have e1 : setAttrD D h nm v = ({ D with S := D.S.set i { s with attrs := s.attrs.take k ++ [(nm, v)] ++ s.attrs.drop k } }, 0) := by
        have : setAttrL s.attrs nm v = s.attrs.take k ++ [(nm, v)] ++ s.attrs.drop k := by simp [setAttrL, hh2, Hk.out]
        rw [<- this]
        simp [setAttrD, ha, hs, hk, hnm, htn, hh2, h32]
       rw [e1]
       have h32' : (s.attrs.length : Int) < 32 := by omega
       have hk8 : (k : Int) < 33 := by omega
       clear hd hv ha hs hk hat hso hnm htn hh2 e1
       go_enter Tryz.func26, Tryz.ntmps26
       go_wp2_with fail
       refine hc.mono ?_
       rintro e w1 ⟨rfl, hb1⟩
       have HB1 : Hid (Below w.heap.size w w1) := hb1
       clear hb1 hc
       go_wp2_with fail
       refine (hnw _).mono ?_
       rintro e w2 ⟨rfl, hb2⟩
       have HB2 : Hid (Below w.heap.size w w2) := HB1.out.trans (hb2.mono HB1.out.size)
       clear hb2 hnw HB1
       go_wp2_with fail
       refine (htx _).mono ?_
       rintro e w3 ⟨rfl, hb3⟩
       have HB3 : Hid (Below w.heap.size w w3) := HB2.out.trans (hb3.mono HB2.out.size)
       clear hb3 htx HB2
       obtain ⟨d1, d2, d3⟩ := HAT.out.below HB3.out
       have hf3 := hfa w3 HB3.out
       clear hfa d3 d2
       go_wp2_with fail
       refine hf3.mono ?_
       rintro e w4 ⟨rfl, hb4⟩
       have HB4 : Hid (Below w.heap.size w w4) := HB3.out.trans (hb4.mono HB3.out.size)
       clear hb4 hf3 d1
       obtain ⟨d1, d2, d3⟩ := HAT.out.below HB4.out
       have hgl : g < w4.heap.size := Nat.lt_of_lt_of_le HAT.out.lt HB4.out.size
       have hX : (w4.alloc (.cells #[.string nm, .string v] 52)).heap[w4.heap.size]? = some (.cells [.string nm, .string v].toArray 52 (0, 0)) := heap_alloc_new w4 _
       have hins := A.insert_any (w4.alloc (.cells #[.string nm, .string v] 52)) 0 aa s.attrs.length ac w4.heap.size k (attrCells s.attrs) [.string nm, .string v] (own_of_block d3 (fun k hk => Below.heap_alloc _ _ _ (own_block_lt d3 k hk).2)) hX rfl (by intro u hu; simp at hu; rcases hu with rfl | rfl <;> rfl) (attrCells_one _) (by omega) (Nat.zero_le _) hkl0 (fun e => by have := (own_block_lt d3 _ e).2; omega)
       have HBX : Hid (Below w.heap.size w (w4.alloc (.cells #[.string nm, .string v] 52))) := HB4.out.alloc HB4.out.size _
       have hgn : (Value.slice aa s.attrs.length ac).ownBlock ≠ some g := fun e => (HAT.out.ne g e).1 rfl
       have HFin : Hid (∀ e w5, A.InsP (w4.alloc (.cells #[.string nm, .string v] 52)) 0 (.slice aa s.attrs.length ac) s.attrs.length k (attrCells s.attrs) [.string nm, .string v] e w5 -> ∃ va vc, e = .returned (.slice va (s.attrs.length + 1) vc) /\ w5.cell? ⟨g, i * 8 + 4, none⟩ = some (.slice aa s.attrs.length ac) /\ w5.frozen? ⟨g, i * 8 + 4, none⟩ = false /\
         ∃ ro', PE w ro db { D with S := D.S.set i { s with attrs := s.attrs.take k ++ [(nm, v)] ++ s.attrs.drop k } } (w5.setCell ⟨g, i * 8 + 4, none⟩ (.slice va (s.attrs.length + 1) vc)) ro') := fun e w5 h => by
        obtain ⟨u, he, k1, k2, k3⟩ := h
        obtain ⟨va, vc, rfl⟩ := own_slice k1
        have hbk := k2.block g (by simp; omega) (fun e => hgn e.symm)
        have hlen : (s.attrs.take k ++ [(nm, v)] ++ s.attrs.drop k).length = s.attrs.length + 1 := by simp; omega
        refine ⟨va, vc, he, (World.cell?_of_block (w := w4) (a := ⟨g, i * 8 + 4, none⟩) (hbk.trans (Below.heap_alloc _ _ _ hgl))).trans d1, (World.frozen?_of_block (w := w4) (a := ⟨g, i * 8 + 4, none⟩) (hbk.trans (Below.heap_alloc _ _ _ hgl))).trans d2, ?_⟩
        have := HAT.out.put w5 (s.attrs.take k ++ [(nm, v)] ++ s.attrs.drop k) va vc (grown_of HBX.out k2) (by rw [hlen, attrCells_app, attrCells_app, attrCells_take, attrCells_drop]; exact k1) (fun j hj => by
         have hj' : (Value.slice va (s.attrs.length + 1) vc).ownBlock = some j := by rw [hlen] at hj; exact hj
         rcases k3 with k3 | k3
         ·exact .inl (by rw [<- k3]; exact hj')
         ·rw [k3] at hj'
          cases hj'
          exact .inr (by have := HB4.out.size; simp; omega))
        rw [hlen] at this
        exact this
       clear d2 d3 hX hgn
       go_wp2_with fail
       refine hins.mono ?_
       rintro e w5 h5
       obtain ⟨va, vc, rfl, c5, f5, ro5, p5⟩ := HFin.out e w5 h5
       have HP5 : Hid (PE w ro db { D with S := D.S.set i { s with attrs := s.attrs.take k ++ [(nm, v)] ++ s.attrs.drop k } } (w5.setCell ⟨g, i * 8 + 4, none⟩ (.slice va (s.attrs.length + 1) vc)) ro5) := p5
       clear hins h5 p5 HFin d1
       go_wp2
       go_ret
       exact HP5.out.post
    ·have e1 : setAttrD D h nm v = (D, (tans v.data.toList).2) := by simp [setAttrD, ha, hs, hk, hnm, htn]
     rw [e1]
     have hbn : ((tans v.data.toList).2 == 0) = false := beq_eq_false_iff_ne.2 htn
     generalize (tans v.data.toList).1 = y1 at *
     generalize (tans v.data.toList).2 = y2 at *
     clear hd hv ha hs hk hat hso hnm e1
     go_enter Tryz.func26, Tryz.ntmps26
     go_wp2_with fail
     refine hc.mono ?_
     rintro e w1 ⟨rfl, hb1⟩
     have HB1 : Hid (Below w.heap.size w w1) := hb1
     clear hb1 hc
     go_wp2_with fail
     refine (hnw _).mono ?_
     rintro e w2 ⟨rfl, hb2⟩
     have HB2 : Hid (Below w.heap.size w w2) := HB1.out.trans (hb2.mono HB1.out.size)
     clear hb2 hnw HB1
     go_wp2_with fail
     refine (htx _).mono ?_
     rintro e w3 ⟨rfl, hb3⟩
     have HB3 : Hid (Below w.heap.size w w3) := HB2.out.trans (hb3.mono HB2.out.size)
     clear hb3 htx HB2
     go_wp2
     go_ret
     exact ppost_same HD.out HB3.out
  ·rw [if_neg hk] at hc
   have e1 : setAttrD D h nm v = (D, 30) := by simp [setAttrD, ha, hs, hk]
   rw [e1]
   clear hd hat hv ha e1 hs hk
   go_enter Tryz.func26, Tryz.ntmps26
   go_wp2_with fail
   refine hc.mono ?_
   rintro e w1 ⟨rfl, hb1⟩
   have HB1 : Hid (Below w.heap.size w w1) := hb1
   clear hb1 hc
   go_wp2
   go_ret
   exact ppost_same HD.out HB1.out
theorem attrsGo_all : ∀ (l : List (ByteArray × ByteArray)) (prev : Option ByteArray), attrsGo prev l = 0 -> ∀ p ∈ l, nameL p.1.data.toList = true /\ (tans p.2.data.toList).2 = 0
 | [], prev, h => fun p hp => by cases hp
 | p :: r, prev, h => by
  unfold attrsGo at h
  split at h
  ·cases h
  ·rename_i hc
   split at h
   ·rename_i ht
    intro q hq
    rcases List.mem_cons.1 hq with rfl | hq
    ·refine ⟨?_, ht⟩
     cases hn : nameL q.1.data.toList with
     | true => rfl
     | false => exact absurd (.inl hn) hc
    ·exact attrsGo_all r _ h q hq
   ·rename_i ht
    exact absurd h ht
theorem attrsGo_of : ∀ (l : List (ByteArray × ByteArray)) (prev : Option ByteArray), (∀ p ∈ l, nameL p.1.data.toList = true /\ (tans p.2.data.toList).2 = 0) -> SortA l -> (∀ q, prev = some q -> ∀ p ∈ l, ltN q p.1) -> attrsGo prev l = 0
 | [], prev, _, _, _ => rfl
 | p :: r, prev, h1, h2, h3 => by
  obtain ⟨s1, s2⟩ := List.pairwise_cons.1 h2
  obtain ⟨n1, n2⟩ := h1 p (List.mem_cons_self ..)
  unfold attrsGo
  rw [if_neg, if_pos n2]
  ·exact attrsGo_of r (some p.1) (fun q hq => h1 q (List.mem_cons_of_mem _ hq)) s2 (fun q hq x hx => by cases hq; exact s1 x hx)
  ·rintro (e | ⟨q, hq, e⟩)
   ·rw [n1] at e; cases e
   ·have := (leB_ltN (a := p.1) (b := q)).2 (h3 q hq p (List.mem_cons_self ..))
    rw [this] at e; cases e
theorem attrsE_iff (l : List (ByteArray × ByteArray)) : attrsE l = 0 ↔ l.length <= 32 /\ SortA l /\ ∀ p ∈ l, nameL p.1.data.toList = true /\ (tans p.2.data.toList).2 = 0 := by
 constructor
 ·intro h
  have h1 := sortA_of h
  refine ⟨h1.2, h1.1, ?_⟩
  unfold attrsE at h
  rw [if_neg (by omega)] at h
  exact attrsGo_all l none h
 ·rintro ⟨h1, h2, h3⟩
  unfold attrsE
  rw [if_neg (by omega)]
  exact attrsGo_of l none h3 h2 (fun q hq => by cases hq)
theorem sortA_setL {l : List (ByteArray × ByteArray)} (h : SortA l) (nm v : ByteArray) : SortA (setAttrL l nm v) := by
 have hcut := fun i p (hp : l[i]? = some p) => low_cut h (nm := nm) hp
 unfold setAttrL
 unfold SortA
 rw [List.pairwise_append, List.pairwise_append]
 have hbefore : ∀ p ∈ l.take (lowN l nm), ltN p.1 nm := fun p hp => by
  obtain ⟨i, hi⟩ := List.getElem?_of_mem hp
  rw [List.getElem?_take] at hi
  split at hi
  ·rename_i hlt
   exact (hcut i p hi).1 hlt
  ·cases hi
 have hafter : ∀ p ∈ l.drop (if hasN l nm then lowN l nm + 1 else lowN l nm), ltN nm p.1 := fun p hp => by
  obtain ⟨j, hj⟩ := List.getElem?_of_mem hp
  rw [List.getElem?_drop] at hj
  have hn : ¬ ltN p.1 nm := fun hlt => by
   have := (hcut _ p hj).2 hlt
   split at this <;> omega
  rcases ltN_tri p.1 nm with h1 | h1 | h1
  ·exact absurd h1 hn
  ·exfalso
   have hidx := has_idx h nm
   cases hh : hasN l nm with
   | true =>
    rw [hh] at hj hidx
    simp only [if_true] at hj hidx
    rw [List.findIdx?_eq_some_iff_getElem] at hidx
    obtain ⟨g1, g2, _⟩ := hidx
    have hjl := (List.getElem?_eq_some_iff.1 hj).1
    have hp2 := (List.pairwise_iff_getElem.1 h) (lowN l nm) (lowN l nm + 1 + j) g1 hjl (by omega)
    rw [(List.getElem?_eq_some_iff.1 hj).2, h1] at hp2
    have g3 : (l[lowN l nm]).1 = nm := by simpa using g2
    rw [g3] at hp2
    exact ltN_irr _ hp2
   | false =>
    rw [hh] at hidx
    simp only [Bool.false_eq_true, if_false] at hidx
    rw [List.findIdx?_eq_none_iff] at hidx
    have := hidx p (List.mem_of_mem_drop hp)
    simp [h1] at this
  ·exact h1
 refine ⟨⟨h.sublist (List.take_sublist _ _), List.pairwise_singleton _ _, fun p hp q hq => ?_⟩, h.sublist (List.drop_sublist _ _), fun p hp q hq => ?_⟩
 ·simp at hq
  subst hq
  exact hbefore p hp
 ·rw [List.mem_append] at hp
  rcases hp with hp | hp
  ·exact ltN_trans (hbefore p hp) (hafter q hq)
  ·simp at hp
   subst hp
   exact hafter q hq
theorem WF.setAttr {D : Dc} (hw : WF D) (h : Nat) (nm v : ByteArray) : WF (setAttrD D h nm v).1 := by
 unfold setAttrD
 split
 ·exact hw
 ·rename_i i ha
  split
  ·exact hw
  ·rename_i s hs
   split
   ·rename_i hk
    split
    ·rename_i hn
     split
     ·rename_i ht
      split
      ·exact hw
      ·rename_i h32
       obtain ⟨s', h1, hlv, _⟩ := atI_some ha
       rw [hs] at h1
       cases h1
       have ho := hw.own i s hs hlv
       have hu := hw.used i s hs hlv
       unfold ownE at ho
       rw [if_pos (by exact hk)] at ho
       split at ho
       ·rename_i hnm
        obtain ⟨g1, g2, g3⟩ := (attrsE_iff s.attrs).1 ho
        refine hw.setS (s' := { s with attrs := setAttrL s.attrs nm v }) hs hlv rfl rfl rfl rfl ?_ ⟨fun h2 => ?_, hu.2⟩
        ·unfold ownE
         rw [if_pos (by exact hk), if_pos (by exact hnm)]
         show attrsE (setAttrL s.attrs nm v) = 0
         rw [attrsE_iff]
         have hlow := lowN_le s.attrs nm
         refine ⟨?_, sortA_setL g2 nm v, fun p hp => ?_⟩
         ·unfold setAttrL
          simp only [List.length_append, List.length_take, List.length_drop, List.length_cons, List.length_nil]
          cases hh : hasN s.attrs nm with
          | true =>
           simp only [if_true]
           have hidx := has_idx g2 nm
           rw [hh, if_pos rfl, List.findIdx?_eq_some_iff_getElem] at hidx
           have := hidx.1
           omega
          | false =>
           have : ¬ 32 <= s.attrs.length := fun h => h32 ⟨hh, h⟩
           simp only [Bool.false_eq_true, if_false]
           omega
         ·unfold setAttrL at hp
          rw [List.mem_append, List.mem_append] at hp
          rcases hp with (hp | hp) | hp
          ·exact g3 p (List.mem_of_mem_take hp)
          ·simp at hp
           subst hp
           exact ⟨hn, ht⟩
          ·exact g3 p (List.mem_of_mem_drop hp)
        ·have h2' : s.kind = 2 := h2
         rw [hk] at h2'
         cases h2'
       ·cases ho
     ·exact hw
    ·exact hw
   ·exact hw
theorem WF.dropAttr {D : Dc} (hw : WF D) (h : Nat) (nm : ByteArray) : WF (dropD D h nm).1 := by
 unfold dropD
 split
 ·exact hw
 ·rename_i i ha
  split
  ·exact hw
  ·rename_i s hs
   split
   ·rename_i hk
    split
    ·rename_i k hidx
     obtain ⟨s', h1, hlv, _⟩ := atI_some ha
     rw [hs] at h1
     cases h1
     have ho := hw.own i s hs hlv
     have hu := hw.used i s hs hlv
     unfold ownE at ho
     rw [if_pos (by exact hk)] at ho
     split at ho
     ·rename_i hnm
      obtain ⟨g1, g2, g3⟩ := (attrsE_iff s.attrs).1 ho
      have hsl : List.Sublist (s.attrs.take k ++ s.attrs.drop (k + 1)) s.attrs := by
       have h1 : List.Sublist (s.attrs.drop (k + 1)) (s.attrs.drop k) := by
        rw [<- List.drop_drop]
        exact List.drop_sublist 1 _
       have h2 := List.Sublist.append (List.Sublist.refl (s.attrs.take k)) h1
       rwa [List.take_append_drop] at h2
      refine hw.setS (s' := { s with attrs := s.attrs.take k ++ s.attrs.drop (k + 1) }) hs hlv rfl rfl rfl rfl ?_ ⟨fun h2 => ?_, hu.2⟩
      ·unfold ownE
       rw [if_pos (by exact hk), if_pos (by exact hnm)]
       show attrsE (s.attrs.take k ++ s.attrs.drop (k + 1)) = 0
       rw [attrsE_iff]
       exact ⟨Nat.le_trans hsl.length_le g1, g2.sublist hsl, fun p hp => g3 p (hsl.subset hp)⟩
      ·have h2' : s.kind = 2 := h2
       rw [hk] at h2'
       cases h2'
     ·cases ho
    ·exact hw
   ·exact hw
def mkS {α : Type} (gen : Nat) (t : Nd α) (p : Nat) (ks : List Nat) : Sl :=
 { gen := gen, live := true, kind := t.kind, name := if t.kind = 2 then ⟨#[]⟩ else t.name, attrs := if t.kind = 2 then [] else t.attrs, text := if t.kind = 2 then t.text else ⟨#[]⟩, parent := p, kids := ks }
def genAt (D : Dc) (i : Nat) : Nat := match D.S[i]? with | some s => s.gen | none => 0
def setKI (D : Dc) (i : Nat) (l : List Nat) : Dc := match D.S[i]? with | some s => setS D i { s with kids := l } | none => D
def growK {α : Type} (f : α -> Nat -> Dc -> Dc × Nat) (h : Nat) : List α -> Dc -> Dc × List Nat
 | [], D => (D, [])
 | k :: r, D => ((growK f h r (f k h D).1).1, (f k h D).2 :: (growK f h r (f k h D).1).2)
def seed {α : Type} (D : Dc) (t : Nd α) (p : Nat) : Dc := setS (freeD D).2 (freeD D).1 (mkS (genAt (freeD D).2 (freeD D).1 + 1) t p [])
def seedH (D : Dc) : Nat := hnd (freeD D).1 (genAt (freeD D).2 (freeD D).1 + 1)
def growD : (n : Nat) -> T n -> Nat -> Dc -> Dc × Nat
 | 0, _, _, D => (D, 0)
 | n + 1, t, p, D => (setKI (growK (growD n) (seedH D) (kidsT t) (seed D t p)).1 (freeD D).1 (growK (growD n) (seedH D) (kidsT t) (seed D t p)).2, seedH D)
structure Sane (D : Dc) : Prop where
 fits : Fits D
 gen1 : ∀ (i : Nat) (s : Sl), D.S[i]? = some s -> 1 <= s.gen
 dead : ∀ (i : Nat) (s : Sl), D.S[i]? = some s -> s.live = false -> s = zeroSl s.gen
 own : ∀ (i : Nat) (s : Sl), D.S[i]? = some s -> s.live = true -> ownE (ndOf s) = 0
 used : ∀ (i : Nat) (s : Sl), D.S[i]? = some s -> s.live = true -> (s.kind = 2 -> s.kids = [] /\ s.name = ⟨#[]⟩ /\ s.attrs = []) /\ (s.kind = 1 -> s.text = ⟨#[]⟩)
theorem WF.sane {D : Dc} (h : WF D) : Sane D := ⟨h.fits, h.gen1, h.dead, h.own, h.used⟩
theorem free_facts {D : Dc} (hs : Sane D) (hc : cnt takenB D.S + 1 <= 4096) :
  (freeD D).1 <= D.S.length /\ (freeD D).2.roots = D.roots /\ (freeD D).1 < (freeD D).2.S.length /\ (freeD D).2.S.length <= 4096 /\ D.S.length <= (freeD D).2.S.length /\ genAt (freeD D).2 (freeD D).1 + 1 < 4294967296 /\
  (∃ s0, (freeD D).2.S[(freeD D).1]? = some s0 /\ s0.live = false /\ s0.gen < 4294967295 /\ s0.gen = genAt (freeD D).2 (freeD D).1) /\ (∀ j, j ≠ (freeD D).1 -> (freeD D).2.S[j]? = D.S[j]?) /\ (∀ s, D.S[(freeD D).1]? = some s -> s.live = false) := by
 unfold freeD
 cases hi : D.S.findIdx? freeB with
 | some i =>
  simp only
  rw [List.findIdx?_eq_some_iff_getElem] at hi
  obtain ⟨h1, h2, _⟩ := hi
  have hg : D.S[i]? = some D.S[i] := List.getElem?_eq_getElem h1
  have hb : D.S[i].live = false /\ D.S[i].gen < 4294967295 := by
   unfold freeB at h2
   simpa using h2
  have hga : genAt D i = D.S[i].gen := by unfold genAt; rw [hg]
  refine ⟨by omega, trivial, h1, hs.fits.len, Nat.le_refl _, by rw [hga]; omega, ⟨D.S[i], hg, hb.1, hb.2, hga.symm⟩, fun _ _ => trivial, fun s h => ?_⟩
  rw [hg] at h
  cases h
  exact hb.1
 | none =>
  simp only
  rw [List.findIdx?_eq_none_iff] at hi
  have hall : cnt takenB D.S = D.S.length := by
   unfold cnt
   rw [List.filter_eq_self.2]
   intro s hm
   have := hi s hm
   obtain ⟨j, hj⟩ := List.getElem?_of_mem hm
   have hg := hs.fits.gen j s hj
   unfold freeB at this
   unfold takenB
   cases hl : s.live with
   | true => rfl
   | false =>
    rw [hl] at this
    simp only [Bool.not_false, Bool.true_and, decide_eq_false_iff_not] at this
    simp only [Bool.false_or, decide_eq_true_eq]
    omega
  have hg : (D.S ++ [zeroSl 0])[D.S.length]? = some (zeroSl 0) := by simp
  have hga : genAt { D with S := D.S ++ [zeroSl 0] } D.S.length = 0 := by unfold genAt; simp only [hg]; rfl
  refine ⟨Nat.le_refl _, trivial, by simp, by simp; omega, by simp, by rw [hga]; omega, ⟨zeroSl 0, hg, rfl, by simp [zeroSl], by rw [hga]; rfl⟩, fun j hj => ?_, fun s h => ?_⟩
  ·by_cases hlt : j < D.S.length
   ·exact List.getElem?_append_left hlt
   ·rw [List.getElem?_eq_none (by simp; omega), List.getElem?_eq_none (by omega)]
  ·rw [List.getElem?_eq_none (Nat.le_refl _)] at h
   cases h
theorem hnd_idx {i g : Nat} (hi : i < 4294967295) : (hnd i g) % 4294967296 = i + 1 /\ (hnd i g) / 4294967296 = g := by
 unfold hnd
 omega
theorem sl_iff {D : Dc} {x : Nat} {s : Sl} : sl D x = some s ↔ x % 4294967296 ≠ 0 /\ D.S[x % 4294967296 - 1]? = some s /\ s.live = true /\ s.gen = x / 4294967296 := by
 unfold sl atI
 by_cases h0 : x % 4294967296 = 0
 ·simp [h0]
 ·simp only [if_neg h0]
  cases h : D.S[x % 4294967296 - 1]? with
  | none => simp
  | some t =>
   simp only
   by_cases hc : t.live = true /\ t.gen = x / 4294967296
   ·rw [if_pos hc]
    simp only [Option.bind_some, h, Option.some.injEq]
    constructor
    ·rintro rfl
     exact ⟨h0, rfl, hc.1, hc.2⟩
    ·rintro ⟨_, e, _, _⟩
     exact e
   ·rw [if_neg hc]
    simp only [Option.bind_none]
    constructor
    ·intro e
     cases e
    ·rintro ⟨_, e, h1, h2⟩
     cases e
     exact absurd ⟨h1, h2⟩ hc
theorem mkS_own {α : Type} {t : Nd α} {g p : Nat} {ks : List Nat} (h : ownE t = 0) : ownE (ndOf (mkS g t p ks)) = 0 /\ (t.kind = 1 \/ t.kind = 2) := by
 unfold ownE at h
 by_cases h1 : t.kind = 1
 ·refine ⟨?_, .inl h1⟩
  rw [if_pos h1] at h
  unfold ownE
  have hk : (ndOf (mkS g t p ks)).kind = 1 := h1
  have h2 : ¬ t.kind = 2 := by omega
  rw [if_pos hk]
  show (if nameL (if t.kind = 2 then (⟨#[]⟩ : ByteArray) else t.name).data.toList then attrsE (if t.kind = 2 then [] else t.attrs) else 6) = 0
  rw [if_neg h2, if_neg h2]
  exact h
 ·rw [if_neg h1] at h
  by_cases h2 : t.kind = 2
  ·refine ⟨?_, .inr h2⟩
   rw [if_pos h2] at h
   unfold ownE
   have hk1 : ¬ (ndOf (mkS g t p ks)).kind = 1 := h1
   have hk2 : (ndOf (mkS g t p ks)).kind = 2 := h2
   rw [if_neg hk1, if_pos hk2]
   show (tans (if t.kind = 2 then t.text else (⟨#[]⟩ : ByteArray)).data.toList).2 = 0
   rw [if_pos h2]
   exact h
  ·rw [if_neg h2] at h
   cases h
theorem seed_facts {α : Type} {D : Dc} (hs : Sane D) (hc : cnt takenB D.S + 1 <= 4096) (t : Nd α) (p : Nat) (ho : ownE t = 0) :
  Sane (seed D t p) /\ (seed D t p).roots = D.roots /\ cnt takenB (seed D t p).S = cnt takenB D.S + 1 /\ cnt Sl.live (seed D t p).S = cnt Sl.live D.S + 1 /\ sl D (seedH D) = none /\
  atI (seed D t p).S (seedH D) = some (freeD D).1 /\ (seed D t p).S[(freeD D).1]? = some (mkS (genAt (freeD D).2 (freeD D).1 + 1) t p []) /\ (∀ y, y ≠ seedH D -> sl (seed D t p) y = sl D y) /\ seedH D ≠ 0 /\ seedH D < 18446744073709551616 := by
 obtain ⟨f1, f2, f3, f4, f5, f6, ⟨s0, f7, f8, f9, f10⟩, f11, f12⟩ := free_facts hs hc
 have hget : (seed D t p).S[(freeD D).1]? = some (mkS (genAt (freeD D).2 (freeD D).1 + 1) t p []) := List.getElem?_set_self f3
 have hoth : ∀ j, j ≠ (freeD D).1 -> (seed D t p).S[j]? = D.S[j]? := fun j hj => by
  show ((freeD D).2.S.set (freeD D).1 _)[j]? = _
  rw [List.getElem?_set_ne (Ne.symm hj), f11 j hj]
 obtain ⟨o1, o2⟩ := mkS_own (g := genAt (freeD D).2 (freeD D).1 + 1) (p := p) (ks := []) ho
 have hil : (freeD D).1 < 4294967295 := by omega
 obtain ⟨e1, e2⟩ := hnd_idx (i := (freeD D).1) (g := genAt (freeD D).2 (freeD D).1 + 1) hil
 have hcntD : ∀ f : Sl -> Bool, f (zeroSl 0) = false -> cnt f (freeD D).2.S = cnt f D.S := fun f hf => by
  unfold freeD
  cases hi : D.S.findIdx? freeB with
  | some i => rfl
  | none => simp [cnt, List.filter_append, hf]
 have hcset : ∀ f : Sl -> Bool, f s0 = false -> f (mkS (genAt (freeD D).2 (freeD D).1 + 1) t p []) = true -> cnt f (seed D t p).S = cnt f (freeD D).2.S + 1 := fun f h1 h2 => by
  unfold cnt
  have hsp : (freeD D).2.S = (freeD D).2.S.take (freeD D).1 ++ s0 :: (freeD D).2.S.drop ((freeD D).1 + 1) := by
   rw [<- (List.getElem?_eq_some_iff.1 f7).2, <- List.drop_eq_getElem_cons f3, List.take_append_drop]
  have hst : (seed D t p).S = (freeD D).2.S.take (freeD D).1 ++ mkS (genAt (freeD D).2 (freeD D).1 + 1) t p [] :: (freeD D).2.S.drop ((freeD D).1 + 1) := by
   show (freeD D).2.S.set (freeD D).1 _ = _
   rw [List.set_eq_take_append_cons_drop, if_pos f3]
  rw [hst]
  conv => rhs; rw [hsp]
  rw [List.filter_append, List.filter_append, List.filter_cons, List.filter_cons, if_pos h2, if_neg (by simp [h1])]
  simp
  omega
 have hall : ∀ (j : Nat) (s : Sl), (seed D t p).S[j]? = some s -> (j = (freeD D).1 /\ s = mkS (genAt (freeD D).2 (freeD D).1 + 1) t p []) \/ (j ≠ (freeD D).1 /\ D.S[j]? = some s) := fun j s h => by
  by_cases e : j = (freeD D).1
  ·left
   rw [e, hget] at h
   cases h
   exact ⟨e, rfl⟩
  ·right
   rw [hoth j e] at h
   exact ⟨e, h⟩
 refine ⟨⟨⟨?_, fun j s h => ?_⟩, fun j s h => ?_, fun j s h hd => ?_, fun j s h hl => ?_, fun j s h hl => ?_⟩, f2, ?_, ?_, ?_, ?_, hget, fun y hy => ?_, ?_, ?_⟩
 ·show ((freeD D).2.S.set (freeD D).1 _).length <= 4096
  simpa using f4
 ·rcases hall j s h with ⟨_, rfl⟩ | ⟨_, h1⟩
  ·exact f6
  ·exact hs.fits.gen j s h1
 ·rcases hall j s h with ⟨_, rfl⟩ | ⟨_, h1⟩
  ·show 1 <= genAt (freeD D).2 (freeD D).1 + 1
   omega
  ·exact hs.gen1 j s h1
 ·rcases hall j s h with ⟨_, rfl⟩ | ⟨_, h1⟩
  ·cases hd
  ·exact hs.dead j s h1 hd
 ·rcases hall j s h with ⟨_, rfl⟩ | ⟨_, h1⟩
  ·exact o1
  ·exact hs.own j s h1 hl
 ·rcases hall j s h with ⟨_, rfl⟩ | ⟨_, h1⟩
  ·refine ⟨fun hk => ?_, fun hk => ?_⟩
   ·have hk' : t.kind = 2 := hk
    exact ⟨rfl, by show (if t.kind = 2 then _ else _) = _; rw [if_pos hk'], by show (if t.kind = 2 then _ else _) = _; rw [if_pos hk']⟩
   ·have hk' : t.kind = 1 := hk
    show (if t.kind = 2 then _ else _) = _
    rw [if_neg (by omega)]
  ·exact hs.used j s h1 hl
 ·rw [hcset takenB (by unfold takenB; rw [f8]; simp; omega) (by simp [takenB, mkS]), hcntD takenB (by simp [takenB, zeroSl])]
 ·rw [hcset Sl.live f8 rfl, hcntD Sl.live rfl]
 ·cases h : sl D (seedH D) with
  | none => rfl
  | some s =>
   obtain ⟨_, h2, h3, _⟩ := sl_iff.1 h
   unfold seedH at h2
   rw [e1] at h2
   simp only [Nat.add_sub_cancel] at h2
   rw [f12 s h2] at h3
   cases h3
 ·have := atI_hnd (S := (seed D t p).S) hget rfl hil
  exact this
 ·cases h : sl D y with
  | some s =>
   obtain ⟨h1, h2, h3, h4⟩ := sl_iff.1 h
   rw [sl_iff]
   refine ⟨h1, ?_, h3, h4⟩
   rw [hoth _ (fun e => ?_)]
   ·exact h2
   ·rw [e] at h2
    rw [f12 s h2] at h3
    cases h3
  | none =>
   cases h2 : sl (seed D t p) y with
   | none => rfl
   | some s =>
    exfalso
    obtain ⟨k1, k2, k3, k4⟩ := sl_iff.1 h2
    rcases hall _ s k2 with ⟨e, rfl⟩ | ⟨e, k5⟩
    ·apply hy
     unfold seedH hnd
     have k4' : genAt (freeD D).2 (freeD D).1 + 1 = y / 4294967296 := k4
     rw [k4']
     omega
    ·have := sl_iff.2 ⟨k1, k5, k3, k4⟩
     rw [h] at this
     cases this
 ·unfold seedH hnd
  omega
 ·unfold seedH hnd
  omega
end Go.Proofs.YtmapmkogjhinmaaGreat
