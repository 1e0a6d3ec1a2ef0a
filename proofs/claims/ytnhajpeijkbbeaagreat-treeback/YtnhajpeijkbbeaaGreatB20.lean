/- A new index, by the document, each slot with blocks of its own; a child taken into its row. -/
import Derived.Test.YtnhajpeijkbbeaaGreatB19
namespace Go.Proofs.YtnhajpeijkbbeaaGreat
open Go.RowKit
set_option maxRecDepth 100000
set_option maxHeartbeats 4000000
set_option linter.unusedVariables false
set_option linter.unusedSimpArgs false
theorem RdM.grew {w w2 : World} {base : Nat} {Q : Nat -> Nat -> Prop} {rb : Nat} {D : Dc} {g cap : Nat} {ra : Option Addr} {rcap : Nat} {L : List (Value × Value)} (h : RdM w base Q rb D g cap ra rcap L) (hb : Below w.heap.size w w2) {v : Value} (hown : w2.ownsRow w.heap.size 75 8 v (D.S.length + 1) (rowOf D.S L ++ slotCells (zeroSl 0) (.slice none 0 0, .slice none 0 0))) :
  ∃ g' cap', v = .slice (some ⟨g', 0, none⟩) (D.S.length + 1) cap' /\ w.heap.size <= g' /\ RdM (w2.setCell ⟨rb, 0, none⟩ (.slice (some ⟨g', 0, none⟩) (D.S.length + 1) cap')) base Q rb { D with S := D.S ++ [zeroSl 0] } g' cap' ra rcap (L ++ [(.slice none 0 0, .slice none 0 0)]) /\ Turn (fun b => b = rb) w (w2.setCell ⟨rb, 0, none⟩ (.slice (some ⟨g', 0, none⟩) (D.S.length + 1) cap')) := by
 have hrb := h.rbl
 have hgs := h.toS.gb
 have hbs := h.toS.bs
 have hsz := hb.size
 rcases hown.2 with ⟨e1, e2⟩ | ⟨g', cap', cur, rfl, hb', hcells⟩
 ·simp at e2
 ·have hne : ∀ k b, Q k b -> b ≠ rb := fun k b hb e => h.nrb k (e ▸ hb)
  have hcell : ∀ k b o, Q k b -> (w2.setCell ⟨rb, 0, none⟩ (.slice (some ⟨g', 0, none⟩) (D.S.length + 1) cap')).cell? ⟨b, o, none⟩ = w.cell? ⟨b, o, none⟩ := fun k b o hq => World.cell?_of_block (w := w) (a := ⟨b, o, none⟩) ((Below.heap_setCell _ _ _ _ (hne k b hq)).trans (hb.block b (h.qne k b hq).2))
  refine ⟨g', cap', rfl, hb', ⟨?_, ?_, by simp [h.len], fun k x y hx hy => ?_, h.roots.to (fun _ h => h) (hcell _), h.rlen, fun k b hq => ⟨by have := (h.qne k b hq).2; omega, by have := (h.qne k b hq).2; simp [World.setCell]; omega⟩, h.nrb, hrb⟩, ?_⟩
  ·have := (h.head.of_block (hb.block rb (by omega))).set 0 (.slice (some ⟨g', 0, none⟩) (D.S.length + 1) cap')
   simpa using this
  ·have h2 : (w2.setCell ⟨rb, 0, none⟩ (.slice (some ⟨g', 0, none⟩) (D.S.length + 1) cap')).ownsRow w.heap.size 75 8 (.slice (some ⟨g', 0, none⟩) (D.S.length + 1) cap') (D.S.length + 1) (rowOf D.S L ++ slotCells (zeroSl 0) (.slice none 0 0, .slice none 0 0)) := own_of_block hown (fun k hk => by
    cases hk
    exact Below.heap_setCell _ _ _ _ (by show g' ≠ rb; omega))
   rw [<- rowOf_snoc h.len] at h2
   have h3 := own_base (base' := base) h2 (fun k hk => by
    simp only [Value.ownBlock, Option.some.injEq] at hk
    omega)
   simpa using h3
  ·rcases Nat.lt_or_ge k D.S.length with hk | hk
   ·have hx' : (D.S ++ [zeroSl 0])[k]? = some x := hx
    rw [List.getElem?_append_left hk] at hx'
    rw [List.getElem?_append_left (by rw [h.len]; exact hk)] at hy
    exact (h.vals k x y hx' hy).to (fun _ h => h) (hcell _)
   ·have hx' : (D.S ++ [zeroSl 0])[k]? = some x := hx
    have hkl : k = D.S.length := by have := (List.getElem?_eq_some_iff.1 hx').1; simp at this; omega
    subst hkl
    rw [List.getElem?_append_right (Nat.le_refl _)] at hx'
    rw [List.getElem?_append_right (by rw [h.len]; exact Nat.le_refl _), h.len] at hy
    simp at hx' hy
    subst hx'
    subst hy
    exact ⟨none, 0, none, 0, rfl, Nat.le_refl _, Nat.le_refl _, (fun i a ha => by simp [zeroSl] at ha), (fun i a ha => by simp [zeroSl] at ha)⟩
  ·exact Turn.setCell (A := fun b => b = rb) ((below_turn hb).mono (fun _ _ h => h.elim)) (p := ⟨rb, 0, none⟩) rfl _
def FreeM (w : World) (base : Nat) (Q : Nat -> Nat -> Prop) (rb : Nat) (D : Dc) (g : Nat) (ra : Option Addr) (rcap : Nat) (L : List (Value × Value)) (i : Nat) (e : Ending) (w' : World) : Prop :=
 e = .returned (.int .i64 (i : Int)) /\ (∃ g' cap' L', RdM w' base Q rb D g' cap' ra rcap L' /\ (g' = g \/ w.heap.size <= g') /\ ∀ k, k < L.length -> L'[k]? = L[k]?) /\ Turn (fun b => b = rb) w w'
theorem rfreeM_none (w : World) (base : Nat) (Q : Nat -> Nat -> Prop) (rb : Nat) (D : Dc) (g cap : Nat) (ra : Option Addr) (rcap : Nat) (L : List (Value × Value)) (h : RdM w base Q rb D g cap ra rcap L) (hf : Fits D) (hi : D.S.findIdx? freeB = none) :
  Calls Tryz.prog 110 #[.pointer (some ⟨rb, 0, none⟩)] w (FreeM w base Q rb { D with S := D.S ++ [zeroSl 0] } g ra rcap L D.S.length) := by
 have hl := hf.len
 have hno := List.findIdx?_eq_none_iff.1 hi
 have HNO : Hid (∀ (j : Nat) (s : Sl), D.S[j]? = some s -> freeB s = false) := fun j s hs => by
  simpa using hno s (List.mem_of_getElem? hs)
 have HD : Hid (RdM w base Q rb D g cap ra rcap L) := h
 have hh1 := h.head.cell
 have hhf := h.head.frozen
 have hgs := h.toS.gb
 have hrbl := h.rbl
 have hrs := h.head.lt
 have hcp := (row_cell h.own).1
 have HN : Hid (∀ j u, (rowOf D.S L)[j]? = some u -> ∃ ad, some (⟨g, 0, none⟩ : Addr) = some ad /\ (w.alloc (.cells #[] 75)).cell? (ad.add j) = some u) := fun j u hu => by
  obtain ⟨g', e1, _, e3, e2⟩ := (row_cell h.own).2.2 j u hu
  cases e1
  refine ⟨_, rfl, ?_⟩
  rw [addr_plus, Nat.zero_add, World.cell?_of_block (w := w) (Below.heap_alloc _ _ _ e3)]
  exact e2
 have HRV : Hid (∀ u ∈ rowOf D.S L, u.oneCell' = true) := rows_vals h.toS.vals
 have HRL : Hid ((rowOf D.S L).length = D.S.length * 8) := rowOf_len h.len
 clear h hf hi hno
 go_enter Tryz.func110, Tryz.ntmps110
 go_wp2
 go_loop [3] (fun iv => ∃ (i : Nat), i <= D.S.length /\ iv = .int .i64 (i : Int)) (fun iv => D.S.length - (intOf iv).toNat)
 case atStart => exact ⟨0, by omega, rfl⟩
 case round =>
  obtain ⟨i, hi, rfl⟩ := hrel
  by_cases hlt : i < D.S.length
  ·obtain ⟨s, hs⟩ : ∃ s, D.S[i]? = some s := ⟨_, List.getElem?_eq_getElem hlt⟩
   obtain ⟨q, hq, hvq, hcap, hhd, hcl⟩ := HD.out.toS.slot hs
   have c0 : w.cell? ⟨g, i * 8, none⟩ = _ := (hcl 0 _ rfl).1
   have c1 := (hcl 1 _ rfl).1
   have hfb := HNO.out i s hs
   cases hlv : s.live
   ·have hb := freeB_bool hfb hlv
    rw [hlv] at c1
    clear hfb hlv hs hq hvq hcl hhd hcap
    go_wp2
    go_round
    case rel => exact ⟨i + 1, by omega, by go_num⟩
    case measure => simp [intOf]; omega
   ·rw [hlv] at c1
    clear hfb hlv hs hq hvq hcl hhd hcap
    go_wp2
    go_round
    case rel => exact ⟨i + 1, by omega, by go_num⟩
    case measure => simp [intOf]; omega
  ·have hie : i = D.S.length := by omega
   subst hie
   have tok1 : True := trivial
   go_wp2_with (at_builtin; first
    | (have _t := tok1; refine wpList_app rfl _ _ rfl Tryz.underlying22 info75 rfl (by decide) w.heap.size (.slice (some ⟨w.heap.size, 0, none⟩) 0 0) 0 [] rfl (own_new w 75 8) (some ⟨g, 0, none⟩) D.S.length cap (rowOf D.S L) rfl HRL.out HN.out HRV.out (by unfold maxLen; omega) (by omega) (by simp) ?_; intro v1 w1 hown1 hg1 _ hat1; clear tok1 _t; rw [Nat.zero_add, List.nil_append] at hown1; obtain ⟨a1, c1', hv1⟩ := own_slice hown1; subst hv1; have HO1 : Hid (w1.ownsRow w.heap.size 75 8 (.slice a1 D.S.length c1') D.S.length (rowOf D.S L)) := hown1; have HB1 : Hid (Below w.heap.size w w1) := (below_new' w _).grown hg1 (by simp) (fun k hk => by simp only [Value.ownBlock, Option.some.injEq] at hk; omega); have hs1 := HB1.out.size; clear hown1 hg1 hat1)
    | (refine wpList_app rfl _ _ rfl Tryz.underlying22 info75 rfl (by decide) w.heap.size (.slice a1 D.S.length c1') D.S.length (rowOf D.S L) rfl (own_of_block HO1.out (fun k hk => Below.heap_alloc _ _ _ (own_block_lt HO1.out k hk).2)) (some ⟨w1.heap.size, 0, none⟩) 1 1 (slotCells (zeroSl 0) (.slice none 0 0, .slice none 0 0)) rfl rfl (news_new w1 #[.int .u32 0, .bool false, .int .i64 0, .string ⟨#[]⟩, .slice none 0 0, .string ⟨#[]⟩, .int .u64 0, .slice none 0 0] 75) (by intro u hu; simp only [slotCells, List.mem_cons, List.not_mem_nil, or_false] at hu; rcases hu with rfl | rfl | rfl | rfl | rfl | rfl | rfl | rfl <;> rfl) (by unfold maxLen; omega) (by omega) (by simp; omega) ?_; intro v2 w2 hown2 hg2 _ hat2; have hb2 : Below w.heap.size w w2 := (HB1.out.alloc hs1 _).grown hg2 (by simp; omega) (fun k hk => (own_block_lt HO1.out k hk).1); obtain ⟨g', cap', hv2, hg', hrds, htn⟩ := HD.out.grew hb2 hown2; subst hv2; have hgn : w.heap.size <= g' := hg'; have hc2 : w2.cell? ⟨rb, 0, none⟩ = some (.slice (some ⟨g, 0, none⟩) D.S.length cap) := (hb2.cell (p := ⟨rb, 0, none⟩) hrs).trans (by rw [hh1]; rfl); have hf2 : w2.frozen? ⟨rb, 0, none⟩ = false := (hb2.frozen (p := ⟨rb, 0, none⟩) hrs).trans (hhf 0); have hrs2 : rb < w2.heap.size := (Nat.lt_of_lt_of_le hrs hb2.size); have HRS := hrds; have HRS2 : Hid (RdM (w2.setCell ⟨rb, 0, none⟩ (.slice (some ⟨g', 0, none⟩) (D.S.length + 1) cap')) base Q rb { D with S := D.S ++ [zeroSl 0] } g' cap' ra rcap (L ++ [(.slice none 0 0, .slice none 0 0)])) := hrds; have HT2 : Hid (Turn (fun b => b = rb) w (w2.setCell ⟨rb, 0, none⟩ (.slice (some ⟨g', 0, none⟩) (D.S.length + 1) cap'))) := htn; clear HRS hrds htn hown2 hg2 hat2 hb2))
   go_ret
   exact ⟨congrArg _ (v_int (by push_cast; omega)), ⟨_, _, _, HRS2.out, .inr hgn, fun k hk => List.getElem?_append_left hk⟩, HT2.out⟩
theorem rfreeM_any (w : World) (base : Nat) (Q : Nat -> Nat -> Prop) (rb : Nat) (D : Dc) (g cap : Nat) (ra : Option Addr) (rcap : Nat) (L : List (Value × Value)) (h : RdM w base Q rb D g cap ra rcap L) (hf : Fits D) :
  Calls Tryz.prog 110 #[.pointer (some ⟨rb, 0, none⟩)] w (FreeM w base Q rb (freeD D).2 g ra rcap L (freeD D).1) := by
 cases hi : D.S.findIdx? freeB with
 | none =>
  have e : freeD D = (D.S.length, { D with S := D.S ++ [zeroSl 0] }) := by simp only [freeD, hi]
  rw [e]
  exact rfreeM_none w base Q rb D g cap ra rcap L h hf hi
 | some n =>
  have e : freeD D = (n, D) := by simp only [freeD, hi]
  rw [e]
  refine (rfree_some w _ rb D n h.toS.done.view hf hi).mono ?_
  rintro e w' ⟨rfl, rfl⟩
  exact ⟨rfl, ⟨_, _, _, h, .inl rfl, fun _ _ => rfl⟩, Turn.refl _ _⟩
theorem RdM.push {w w1 w2 : World} {base : Nat} {Q : Nat -> Nat -> Prop} {rb : Nat} {D : Dc} {g cap : Nat} {ra : Option Addr} {rcap : Nat} {L : List (Value × Value)} (h : RdM w base Q rb D g cap ra rcap L) {i : Nat} {s : Sl} {aa : Option Addr} {ac : Nat} {kv kv' : Value} {K : List Nat} {R : Nat -> Prop} {b1 : Nat} (hs : D.S[i]? = some s) (hp : L[i]? = some (.slice aa s.attrs.length ac, kv)) (hac : s.attrs.length <= ac) (hat : AttrsR w R aa s.attrs) (hRQ : ∀ b, R b -> b ≠ g /\ b < w.heap.size /\ b ≠ rb)
  (hkv : ∀ b, kv.ownBlock = some b -> base <= b /\ b ≠ g /\ ¬ R b /\ ∀ k, k ≠ i + 1 -> ¬ Q k b) (hb : Below w.heap.size w w1) (hg : w1.grownBy w2 kv.ownBlock) (hown : w2.ownsRow b1 42 1 kv' K.length (hvals K)) (hat' : kv'.ownBlock = kv.ownBlock \/ kv'.ownBlock = some w1.heap.size) :
  RdM (w2.setCell ⟨g, i * 8 + 7, none⟩ kv') base (setQ Q (i + 1) (fun b => R b \/ kv'.ownBlock = some b)) rb { D with S := D.S.set i { s with kids := K } } g cap ra rcap (L.set i (.slice aa s.attrs.length ac, kv')) := by
 have hgb := h.toS.gb
 have hbs := h.toS.bs
 have hrb := h.rbl
 have hsz := hb.size
 have hs2 := hg.size
 have keep : ∀ b, b < w.heap.size -> kv.ownBlock ≠ some b -> w2.heap[b]? = w.heap[b]? := fun b h1 h2 => (hg.block b (by omega) (fun e => h2 e.symm)).trans (hb.block b h1)
 have kR : ∀ b, R b -> w2.heap[b]? = w.heap[b]? := fun b hb' => keep b (hRQ b hb').2.1 (fun e => (hkv b e).2.2.1 hb')
 have kQ : ∀ k b, k ≠ i + 1 -> Q k b -> w2.heap[b]? = w.heap[b]? := fun k b hk hb' => keep b (h.qne k b hb').2 (fun e => (hkv b e).2.2.2 k hk hb')
 have hi := (List.getElem?_eq_some_iff.1 hs).1
 have hgw : w2.heap[g]? = w.heap[g]? := keep g hgb.2 (fun e => (hkv g e).2.1 rfl)
 have hrw : w2.heap[rb]? = w.heap[rb]? := keep rb (by omega) (fun e => by have := (hkv rb e).1; omega)
 have hkl : ∀ b, kv'.ownBlock = some b -> b ≠ g /\ b < w2.heap.size /\ b ≠ rb := fun b hb' => by
  have hlt := (own_block_lt hown b hb').2
  rcases hat' with e | e
  ·rw [e] at hb'
   obtain ⟨x1, x2, _⟩ := hkv b hb'
   exact ⟨x2, hlt, by omega⟩
  ·rw [e] at hb'
   cases hb'
   exact ⟨by omega, hlt, by omega⟩
 obtain ⟨ka, kc, hke, hkc, hha⟩ := hands_row (R := fun b => kv'.ownBlock = some b) hown (fun b hb => hb)
 have cR : ∀ b o, R b -> w2.cell? ⟨b, o, none⟩ = w.cell? ⟨b, o, none⟩ := fun b o hb' => World.cell?_of_block (w := w) (a := ⟨b, o, none⟩) (kR b hb')
 have cg : ∀ b o, b ≠ g -> (w2.setCell ⟨g, i * 8 + 7, none⟩ kv').cell? ⟨b, o, none⟩ = w2.cell? ⟨b, o, none⟩ := fun b o hb' => World.cell?_of_block (w := w2) (a := ⟨b, o, none⟩) (Below.heap_setCell _ _ _ _ hb')
 have hsz3 : (w2.setCell ⟨g, i * 8 + 7, none⟩ kv').heap.size = w2.heap.size := by simp [World.setCell]
 refine ⟨?_, ?_, by simp [h.len], fun k x y hx hy => ?_, ?_, h.rlen, fun k b hb' => ?_, fun k hb' => ?_, h.rbl⟩
 ·have := (h.head.of_block hrw).other (a := ⟨g, i * 8 + 7, none⟩) (by show rb ≠ g; omega) kv'
  simpa using this
 ·have h0 := own_of_block h.own (w' := w2) (fun k hk => by cases hk; exact hgw)
  have := own_set h0 (i * 8 + 7) kv'
  rw [<- rowOf_set h.len hs hp (j := 7) (by omega) (s' := { s with kids := K }) (p' := (.slice aa s.attrs.length ac, kv')) rfl] at this
  simpa using this
 ·by_cases hk : k = i
  ·subst hk
   rw [List.getElem?_set_self hi] at hx
   rw [List.getElem?_set_self (by rw [h.len]; exact hi)] at hy
   cases hx
   cases hy
   refine ⟨aa, ac, ka, kc, by rw [hke], hac, hkc, hat.to (fun b hb' => setQ_same.2 (.inl hb')) (fun b o hb' => (cg b o (hRQ b hb').1).trans (cR b o hb')), hha.to (fun b hb' => setQ_same.2 (.inr hb')) (fun b o hb' => cg b o (hkl b hb').1)⟩
  ·rw [List.getElem?_set_ne (by omega)] at hx hy
   exact (h.vals k x y hx hy).to (fun b hb' => (setQ_other (by omega)).2 hb') (fun b o hb' => (cg b o (h.qne _ b hb').1).trans (World.cell?_of_block (w := w) (a := ⟨b, o, none⟩) (kQ _ b (by omega) hb')))
 ·exact h.roots.to (fun b hb' => (setQ_other (by omega)).2 hb') (fun b o hb' => (cg b o (h.qne _ b hb').1).trans (World.cell?_of_block (w := w) (a := ⟨b, o, none⟩) (kQ _ b (by omega) hb')))
 ·rw [hsz3]
  rcases hb' with ⟨_, hb' | hb'⟩ | ⟨_, hb'⟩
  ·exact ⟨(hRQ b hb').1, by have := (hRQ b hb').2.1; omega⟩
  ·exact ⟨(hkl b hb').1, (hkl b hb').2.1⟩
  ·exact ⟨(h.qne k b hb').1, by have := (h.qne k b hb').2; omega⟩
 ·rcases hb' with ⟨_, hb' | hb'⟩ | ⟨_, hb'⟩
  ·exact (hRQ rb hb').2.2 rfl
  ·exact (hkl rb hb').2.2 rfl
  ·exact h.nrb k hb'
structure MG (w : World) (base : Nat) (Q : Nat -> Nat -> Prop) (rb g : Nat) (ra : Option Addr) (rcap : Nat) (D0 : Dc) (L0 : List (Value × Value)) (E : Dc) (w' : World) (Q' : Nat -> Nat -> Prop) (g' : Nat) (L' : List (Value × Value)) : Prop where
 turn : Turn (fun b => b = rb \/ b = g) w w'
 doc : ∃ cap', RdM w' base Q' rb E g' cap' ra rcap L'
 gn : g' = g \/ w.heap.size <= g'
 from' : ∀ k b, Q' k b -> Q k b \/ w.heap.size <= b
 keep : ∀ (k : Nat) (s : Sl), D0.S[k]? = some s -> s.live = true -> (∃ s', E.S[k]? = some s' /\ s'.live = true) /\ L'[k]? = L0[k]? /\ ∀ b, Q' (k + 1) b ↔ Q (k + 1) b
section
variable {w w1 w2 : World} {base : Nat} {Q Q1 Q2 : Nat -> Nat -> Prop} {rb g g1 g2 : Nat} {ra : Option Addr} {rcap : Nat} {D0 D E : Dc} {cap : Nat} {L0 L L1 L2 : List (Value × Value)}
theorem MG.start (h : RdM w base Q rb D g cap ra rcap L) : MG w base Q rb g ra rcap D L D w Q g L := ⟨Turn.refl _ _, ⟨_, h⟩, .inl rfl, fun _ _ h => .inl h, fun k s h1 h2 => ⟨⟨s, h1, h2⟩, rfl, fun _ => Iff.rfl⟩⟩
theorem MG.trans (h : MG w base Q rb g ra rcap D0 L0 D w1 Q1 g1 L1) (k : MG w1 base Q1 rb g1 ra rcap D L1 E w2 Q2 g2 L2) : MG w base Q rb g ra rcap D0 L0 E w2 Q2 g2 L2 := by
 have hs := h.turn.size
 refine ⟨⟨k.turn.os.trans h.turn.os, k.turn.tape.trans h.turn.tape, k.turn.output.trans h.turn.output, Nat.le_trans hs k.turn.size, fun b hb hn => ?_⟩, k.doc, ?_, fun j b hb => ?_, fun j s h1 h2 => ?_⟩
 ·rw [k.turn.block b (by omega) (fun e => ?_), h.turn.block b hb hn]
  rcases e with e | e
  ·exact hn (.inl e)
  ·rcases h.gn with e2 | e2
   ·exact hn (.inr (e.trans e2))
   ·omega
 ·rcases k.gn with e | e
  ·rw [e]; exact h.gn
  ·exact .inr (by omega)
 ·rcases k.from' j b hb with e | e
  ·exact h.from' j b e
  ·exact .inr (by omega)
 ·obtain ⟨⟨s1, a1, a2⟩, a3, a4⟩ := h.keep j s h1 h2
  obtain ⟨b1, b3, b4⟩ := k.keep j s1 a1 a2
  exact ⟨b1, b3.trans a3, fun b => (b4 b).trans (a4 b)⟩
theorem MG.below (h : MG w base Q rb g ra rcap D0 L0 D w1 Q1 g1 L1) (hb : Below w1.heap.size w1 w2) : MG w base Q rb g ra rcap D0 L0 D w2 Q1 g1 L1 := by
 obtain ⟨cap', hd⟩ := h.doc
 exact ⟨h.turn.then hb h.turn.size, ⟨cap', hd.below hb⟩, h.gn, h.from', h.keep⟩
theorem MG.step {R : Nat -> Prop} {i : Nat} {s' : Sl} {p' : Value × Value} (ht : Turn (fun b => b = rb \/ b = g) w w1) (hd : RdM w1 base (setQ Q (i + 1) R) rb E g cap ra rcap (L.set i p')) (hE : E = { D with S := D.S.set i s' }) (hi : ∀ s, D.S[i]? = some s -> s.live = false) (hf : ∀ b, R b -> w.heap.size <= b) : MG w base Q rb g ra rcap D L E w1 (setQ Q (i + 1) R) g (L.set i p') := by
 refine ⟨ht, ⟨_, hd⟩, .inl rfl, fun k b hb => ?_, fun k s h1 h2 => ?_⟩
 ·rcases hb with ⟨_, hb⟩ | ⟨_, hb⟩
  ·exact .inr (hf b hb)
  ·exact .inl hb
 ·have hne : k ≠ i := fun e => by
   subst e
   rw [hi s h1] at h2
   cases h2
  refine ⟨⟨s, ?_, h2⟩, List.getElem?_set_ne (Ne.symm hne), fun b => setQ_other (by omega)⟩
  rw [hE]
  show (D.S.set i s')[k]? = _
  rw [List.getElem?_set_ne (Ne.symm hne)]
  exact h1
theorem MG.free {e : Ending} (h : RdM w base Q rb D g cap ra rcap L) {i : Nat} (k : FreeM w base Q rb (freeD D).2 g ra rcap L i e w1) : ∃ g1 cap1 L1, RdM w1 base Q rb (freeD D).2 g1 cap1 ra rcap L1 /\ (g1 = g \/ w.heap.size <= g1) /\ MG w base Q rb g ra rcap D L (freeD D).2 w1 Q g1 L1 := by
 obtain ⟨_, ⟨g1, cap1, L1, h1, h2, h3⟩, ht⟩ := k
 refine ⟨g1, cap1, L1, h1, h2, ht.mono (fun b _ hb => .inl hb), ⟨_, h1⟩, h2, fun k b hb => .inl hb, fun k s a1 a2 => ⟨⟨s, (free_ne a1 a2).2, a2⟩, h3 k ?_, fun _ => Iff.rfl⟩⟩
 rw [h.len]
 exact (List.getElem?_eq_some_iff.1 a1).1
end
theorem Turn.trans' {rb g : Nat} {a b c : World} (h : Turn (fun x => x = rb \/ x = g) a b) (k : Turn (fun x => x = g) b c) : Turn (fun x => x = rb \/ x = g) a c := h.trans (k.mono (fun _ _ h => .inr h))
def MakeP (w : World) (base : Nat) (Q : Nat -> Nat -> Prop) (rb g : Nat) (ra : Option Addr) (rcap : Nat) (D : Dc) (L : List (Value × Value)) (E : Dc) (h : Nat) (e : Ending) (w' : World) : Prop :=
 e = .returned (.int .u64 (h : Int)) /\ ∃ Q' g' L', MG w base Q rb g ra rcap D L E w' Q' g' L'
def MakeAll (n : Nat) : Prop := ∀ (w : World) (v : Array Value) (t : T n) (lo hi p base : Nat) (Q : Nat -> Nat -> Prop) (rb : Nat) (D : Dc) (g cap : Nat) (ra : Option Addr) (rcap : Nat) (L : List (Value × Value)), TreeAt w lo hi n v t -> hi <= w.heap.size -> hi <= rb -> RdM w base Q rb D g cap ra rcap L ->
  Sane D -> cnt takenB D.S + ndT n t <= 4096 -> (p = 0 \/ ∃ q, sl D p = some q) -> p < 18446744073709551616 -> okT n t ->
  Calls Tryz.prog 77 #[.pointer (some ⟨rb, 0, none⟩), .agg v, .int .u64 (p : Int)] w (MakeP w base Q rb g ra rcap D L (growD n t p D).1 (growD n t p D).2)
theorem growK_comm (n : Nat) {i : Nat} {s : Sl} (hl : s.live = true) (l : List Nat) : ∀ (LL : List (T n)) (H : Nat) (D : Dc), D.S[i]? = some s -> (growK (growD n) H LL D).1.S[i]? = some s := by
 intro LL
 induction LL with
 | nil => intro H D h; exact h
 | cons k r ih =>
  intro H D h
  exact ih H _ (grow_comm n k H D i s l h hl).1
structure MC (w : World) (base rb : Nat) (n H : Nat) (E0 : Dc) (i : Nat) (S0 : Sl) (lo hi : Nat) (ka : Option Addr) (LL : List (T n)) (B : Nat) : Prop where
 ih : MakeAll n
 sane : Sane E0
 cn : cnt takenB E0.S + (LL.map (ndT n)).sum <= 4096
 hh : ∃ q, sl E0 H = some q
 hl : H < 18446744073709551616
 ok : ∀ k ∈ LL, okT n k
 kids : KidsAt w lo hi n ka LL
 hsz : hi <= w.heap.size
 hrb : hi <= rb
 rbB : rb < B
 bB : base <= B
 ei : E0.S[i]? = some S0
 el : S0.live = true
 ek : S0.kind = 2 -> LL = []
structure MS (w : World) (base : Nat) (Q : Nat -> Nat -> Prop) (rb g : Nat) (ra : Option Addr) (rcap : Nat) (D : Dc) (L : List (Value × Value)) (n H : Nat) (E0 : Dc) (i : Nat) (S0 : Sl) (LL : List (T n)) (B : Nat) (aa : Option Addr) (ac : Nat) (R : Nat -> Prop)
  (j : Nat) (wr : World) (Q' : Nat -> Nat -> Prop) (g' : Nat) (L' : List (Value × Value)) (kv : Value) : Prop where
 mg : MG w base Q rb g ra rcap D L (setKI (growK (growD n) H (LL.take j) E0).1 i (growK (growD n) H (LL.take j) E0).2) wr Q' g' L'
 row : L'[i]? = some (.slice aa S0.attrs.length ac, kv)
 own : wr.ownsRow B 42 1 kv j (hvals (growK (growD n) H (LL.take j) E0).2)
 hac : S0.attrs.length <= ac
 att : AttrsR wr R aa S0.attrs
 hR : ∀ b, R b -> b ≠ g' /\ b < wr.heap.size /\ b ≠ rb /\ w.heap.size <= b
 hkv : ∀ b, kv.ownBlock = some b -> b ≠ g' /\ ¬ R b /\ ∀ k, k ≠ i + 1 -> ¬ Q' k b
 bw : w.heap.size <= B
section
variable {w wr : World} {base : Nat} {Q Q' : Nat -> Nat -> Prop} {rb g g' : Nat} {ra : Option Addr} {rcap : Nat} {D : Dc} {L L' : List (Value × Value)} {n H : Nat} {E0 : Dc} {i : Nat} {S0 : Sl} {LL : List (T n)} {B : Nat} {aa : Option Addr} {ac : Nat} {R : Nat -> Prop} {j lo hi : Nat} {kv : Value} {ka : Option Addr}
theorem MC.mid (c : MC w base rb n H E0 i S0 lo hi ka LL B) {k : T n} (hk : LL[j]? = some k) :
  (growK (growD n) H (LL.take j) E0).1.S[i]? = some S0 /\ Sane (setKI (growK (growD n) H (LL.take j) E0).1 i (growK (growD n) H (LL.take j) E0).2) /\ cnt takenB (setKI (growK (growD n) H (LL.take j) E0).1 i (growK (growD n) H (LL.take j) E0).2).S + ndT n k <= 4096 /\
  (∃ q, sl (setKI (growK (growD n) H (LL.take j) E0).1 i (growK (growD n) H (LL.take j) E0).2) H = some q) /\
  growD n k H (setKI (growK (growD n) H (LL.take j) E0).1 i (growK (growD n) H (LL.take j) E0).2) = (setKI (growK (growD n) H (LL.take (j + 1)) E0).1 i (growK (growD n) H (LL.take j) E0).2, (growD n k H (growK (growD n) H (LL.take j) E0).1).2) /\
  (growK (growD n) H (LL.take (j + 1)) E0).2 = (growK (growD n) H (LL.take j) E0).2 ++ [(growD n k H (growK (growD n) H (LL.take j) E0).1).2] /\ (growK (growD n) H (LL.take (j + 1)) E0).1.S[i]? = some S0 := by
 have hs := (take_sum LL j hk).1
 have hcn := c.cn
 have hok : ∀ x ∈ LL.take j, okT n x := fun x hx => c.ok x (List.mem_of_mem_take hx)
 obtain ⟨N, gg⟩ := growK_spec n (LL.take j) H E0 c.sane (by omega) (.inr c.hh) hok
 have h1 := growK_comm n c.el [] (LL.take j) H E0 c.ei
 have h2 := growK_comm n c.el [] (LL.take (j + 1)) H E0 c.ei
 have e : growK (growD n) H (LL.take (j + 1)) E0 = ((growD n k H (growK (growD n) H (LL.take j) E0).1).1, (growK (growD n) H (LL.take j) E0).2 ++ [(growD n k H (growK (growD n) H (LL.take j) E0).1).2]) := by rw [take_more hk, growK_snoc]
 obtain ⟨q, hq⟩ := c.hh
 have hq2 : sl (growK (growD n) H (LL.take j) E0).1 H = some q := by rw [gg.old H (gg.notin (.inr ⟨q, hq⟩))]; exact hq
 refine ⟨h1, sane_setKI gg.sane h1 c.el (fun e2 => ?_), ?_, ?_, ?_, by rw [e], h2⟩
 ·have := c.ek e2
  rw [this] at hk
  simp at hk
 ·rw [setKI_some h1]
  show cnt takenB ((growK (growD n) H (LL.take j) E0).1.S.set i _) + _ <= _
  rw [cnt_set (s' := { S0 with kids := (growK (growD n) H (LL.take j) E0).2 }) h1 rfl, gg.tk]
  omega
 ·rw [setKI_some h1, sl_setS (s' := { S0 with kids := (growK (growD n) H (LL.take j) E0).2 }) h1 rfl rfl]
  split
  ·exact ⟨_, rfl⟩
  ·exact ⟨q, hq2⟩
 ·rw [(grow_comm n k H _ i S0 (growK (growD n) H (LL.take j) E0).2 h1 c.el).2, e]
theorem MS.call (c : MC w base rb n H E0 i S0 lo hi ka LL B) (s : MS w base Q rb g ra rcap D L n H E0 i S0 LL B aa ac R j wr Q' g' L' kv) {k : T n} (hk : LL[j]? = some k) {v : Array Value} (ht : TreeAt wr lo hi n v k) :
  Calls Tryz.prog 77 #[.pointer (some ⟨rb, 0, none⟩), .agg v, .int .u64 (H : Int)] wr (MakeP wr base Q' rb g' ra rcap (setKI (growK (growD n) H (LL.take j) E0).1 i (growK (growD n) H (LL.take j) E0).2) L' (setKI (growK (growD n) H (LL.take (j + 1)) E0).1 i (growK (growD n) H (LL.take j) E0).2) (growD n k H (growK (growD n) H (LL.take j) E0).1).2) := by
 obtain ⟨m1, m2, m3, m4, m5, m6, m7⟩ := c.mid hk
 obtain ⟨cap', hd⟩ := s.mg.doc
 have := c.ih wr v k lo hi H base Q' rb _ g' cap' ra rcap L' ht (Nat.le_trans c.hsz s.mg.turn.size) c.hrb hd m2 m3 (.inr m4) c.hl (c.ok k (List.mem_of_getElem? hk))
 rw [m5] at this
 exact this
theorem MS.kept (c : MC w base rb n H E0 i S0 lo hi ka LL B) (s : MS w base Q rb g ra rcap D L n H E0 i S0 LL B aa ac R j wr Q' g' L' kv) {k : T n} (hk : LL[j]? = some k) {E : Dc} {w9 : World} {Q2 : Nat -> Nat -> Prop} {g2 : Nat} {L2 : List (Value × Value)} (hg : MG wr base Q' rb g' ra rcap (setKI (growK (growD n) H (LL.take j) E0).1 i (growK (growD n) H (LL.take j) E0).2) L' E w9 Q2 g2 L2) :
  L2[i]? = some (.slice aa S0.attrs.length ac, kv) /\ w9.ownsRow B 42 1 kv j (hvals (growK (growD n) H (LL.take j) E0).2) /\ AttrsR w9 R aa S0.attrs /\ (∀ b, R b -> b ≠ g2 /\ b < w9.heap.size /\ b ≠ rb /\ w.heap.size <= b) /\ ∀ b, kv.ownBlock = some b -> b ≠ g2 /\ ¬ R b /\ ∀ k, k ≠ i + 1 -> ¬ Q2 k b := by
 obtain ⟨m1, m2, m3, m4, m5, m6, m7⟩ := c.mid hk
 have hsz := hg.turn.size
 have hrbB := c.rbB
 have hlive : (setKI (growK (growD n) H (LL.take j) E0).1 i (growK (growD n) H (LL.take j) E0).2).S[i]? = some { S0 with kids := (growK (growD n) H (LL.take j) E0).2 } := by rw [setKI_get m1, if_pos rfl]
 obtain ⟨_, k2, k3⟩ := hg.keep i _ hlive c.el
 have hg2 : ∀ b, b < wr.heap.size -> b ≠ g' -> b ≠ g2 := fun b h1 h2 e => by
  rcases hg.gn with e2 | e2
  ·exact h2 (e.trans e2)
  ·omega
 refine ⟨k2.trans s.row, own_of_block s.own (fun b hb => hg.turn.block b (own_block_lt s.own b hb).2 (fun e => ?_)), s.att.to (fun _ h => h) (fun b o hb => World.cell?_of_block (w := wr) (a := ⟨b, o, none⟩) (hg.turn.block b (s.hR b hb).2.1 (fun e => ?_))), fun b hb => ?_, fun b hb => ?_⟩
 ·rcases e with e | e
  ·have := (own_block_lt s.own b hb).1
   omega
  ·exact (s.hkv b hb).1 e
 ·rcases e with e | e
  ·exact (s.hR b hb).2.2.1 e
  ·exact (s.hR b hb).1 e
 ·obtain ⟨x1, x2, x3, x4⟩ := s.hR b hb
  exact ⟨hg2 b x2 x1, by omega, x3, x4⟩
 ·obtain ⟨x1, x2, x3⟩ := s.hkv b hb
  have hlt := (own_block_lt s.own b hb).2
  refine ⟨hg2 b hlt x1, x2, fun k hk hq => ?_⟩
  rcases hg.from' k b hq with h1 | h1
  ·exact x3 k hk h1
  ·omega
theorem MS.push (c : MC w base rb n H E0 i S0 lo hi ka LL B) (s : MS w base Q rb g ra rcap D L n H E0 i S0 LL B aa ac R j wr Q' g' L' kv) {k : T n} (hk : LL[j]? = some k) {w9 w10 w11 : World} {Q2 : Nat -> Nat -> Prop} {g2 : Nat} {L2 : List (Value × Value)} {hh : Nat} {kv' : Value}
  (hg : MG wr base Q' rb g' ra rcap (setKI (growK (growD n) H (LL.take j) E0).1 i (growK (growD n) H (LL.take j) E0).2) L' (setKI (growK (growD n) H (LL.take (j + 1)) E0).1 i (growK (growD n) H (LL.take j) E0).2) w9 Q2 g2 L2) (hhh : hh = (growD n k H (growK (growD n) H (LL.take j) E0).1).2) (hb : Below w9.heap.size w9 w10) (hgr : w10.grownBy w11 kv.ownBlock)
  (hown : w11.ownsRow B 42 1 kv' (j + 1) (hvals (growK (growD n) H (LL.take j) E0).2 ++ [.int .u64 (hh : Int)])) (hat : kv'.ownBlock = kv.ownBlock \/ kv'.ownBlock = some w10.heap.size) (hsi : ∀ s, D.S[i]? = some s -> s.live = false) :
  MS w base Q rb g ra rcap D L n H E0 i S0 LL B aa ac R (j + 1) (w11.setCell ⟨g2, i * 8 + 7, none⟩ kv') (setQ Q2 (i + 1) (fun b => R b \/ kv'.ownBlock = some b)) g2 (L2.set i (.slice aa S0.attrs.length ac, kv')) kv' := by
 obtain ⟨k1, k2, k3, k4, k5⟩ := s.kept c hk hg
 obtain ⟨m1, m2, m3, m4, m5, m6, m7⟩ := c.mid hk
 obtain ⟨cap2, hd⟩ := hg.doc
 have hrbB := c.rbB
 have hbB := c.bB
 have hsz := hb.size
 have hs2 := hgr.size
 have hgb := hd.toS.gb
 have hlen := growK_len (growD n) H (LL.take (j + 1)) E0
 have hkj : j < LL.length := (List.getElem?_eq_some_iff.1 hk).1
 have hl1 : (growK (growD n) H (LL.take (j + 1)) E0).2.length = j + 1 := by rw [hlen, List.length_take]; omega
 have hsl : (setKI (growK (growD n) H (LL.take (j + 1)) E0).1 i (growK (growD n) H (LL.take j) E0).2).S[i]? = some { S0 with kids := (growK (growD n) H (LL.take j) E0).2 } := by rw [setKI_get m7, if_pos rfl]
 have hown' : w11.ownsRow B 42 1 kv' (growK (growD n) H (LL.take (j + 1)) E0).2.length (hvals (growK (growD n) H (LL.take (j + 1)) E0).2) := by
  rw [hl1, m6, hvals_append, <- hhh]
  exact hown
 have hpu := hd.push (s := { S0 with kids := (growK (growD n) H (LL.take j) E0).2 }) (aa := aa) (ac := ac) (kv := kv) (R := R) hsl k1 s.hac k3 (fun b hb => ⟨(k4 b hb).1, (k4 b hb).2.1, (k4 b hb).2.2.1⟩) (fun b hb => ⟨by have := (own_block_lt k2 b hb).1; omega, (k5 b hb).1, (k5 b hb).2.1, (k5 b hb).2.2⟩) hb hgr hown' hat
 have eE : ({ (setKI (growK (growD n) H (LL.take (j + 1)) E0).1 i (growK (growD n) H (LL.take j) E0).2) with S := (setKI (growK (growD n) H (LL.take (j + 1)) E0).1 i (growK (growD n) H (LL.take j) E0).2).S.set i { S0 with kids := (growK (growD n) H (LL.take (j + 1)) E0).2 } } : Dc) = setKI (growK (growD n) H (LL.take (j + 1)) E0).1 i (growK (growD n) H (LL.take (j + 1)) E0).2 := by
  have := setKI_twice (D := (growK (growD n) H (LL.take (j + 1)) E0).1) i (growK (growD n) H (LL.take j) E0).2 (growK (growD n) H (LL.take (j + 1)) E0).2
  rw [setKI_some hsl] at this
  exact this
 have hsz3 : (w11.setCell ⟨g2, i * 8 + 7, none⟩ kv').heap.size = w11.heap.size := by simp [World.setCell]
 have hs9 := hg.turn.size
 have hsw := s.mg.turn.size
 have hbw := s.bw
 have hkb : ∀ b, kv'.ownBlock = some b -> b ≠ g2 /\ ¬ R b /\ ∀ k, k ≠ i + 1 -> ¬ Q2 k b := fun b hb' => by
  rcases hat with e | e
  ·exact k5 b (e ▸ hb')
  ·rw [e] at hb'
   cases hb'
   refine ⟨by omega, fun hr => ?_, fun k hk hq => ?_⟩
   ·have := (k4 _ hr).2.1; omega
   ·have := (hd.qne k _ hq).2; omega
 refine ⟨?_, List.getElem?_set_self (by rw [hd.len]; exact (List.getElem?_eq_some_iff.1 hsl).1), ?_, s.hac, ?_, fun b hb' => ?_, fun b hb' => ?_, s.bw⟩
 ·have hm := s.mg.trans hg
  refine ⟨⟨hgr.os.trans (hb.os.trans hm.turn.os), hgr.tape.trans (hb.tape.trans hm.turn.tape), hgr.output.trans (hb.output.trans hm.turn.output), by rw [hsz3]; have := hm.turn.size; omega, fun b hbl hn => ?_⟩, ⟨cap2, eE ▸ hpu⟩, hm.gn, fun q b hq => ?_, fun q x h1 h2 => ?_⟩
  ·rw [Below.heap_setCell _ _ _ _ (fun e => ?_), hgr.block b (by omega) (fun e => ?_), hb.block b (by omega), hm.turn.block b hbl hn]
   ·have := (own_block_lt s.own b e.symm).1; omega
   ·rcases hm.gn with e2 | e2
    ·exact hn (.inr (e.trans e2))
    ·have e' : b = g2 := e
     omega
  ·rcases hq with ⟨_, hq | hq⟩ | ⟨_, hq⟩
   ·exact .inr (k4 b hq).2.2.2
   ·have := (own_block_lt hown b hq).1
    exact .inr (by omega)
   ·exact hm.from' q b hq
  ·have hne : q ≠ i := fun e => by
    subst e
    rw [hsi x h1] at h2
    cases h2
   obtain ⟨⟨x', y1, y2⟩, y3, y4⟩ := hm.keep q x h1 h2
   rw [setKI_get m7, if_neg hne] at y1
   exact ⟨⟨x', by rw [setKI_get m7, if_neg hne]; exact y1, y2⟩, (List.getElem?_set_ne (Ne.symm hne)).trans y3, fun b => (setQ_other (by omega)).trans (y4 b)⟩
 ·have h0 : (w11.setCell ⟨g2, i * 8 + 7, none⟩ kv').ownsRow B 42 1 kv' (growK (growD n) H (LL.take (j + 1)) E0).2.length (hvals (growK (growD n) H (LL.take (j + 1)) E0).2) := own_of_block hown' (fun b hb' => Below.heap_setCell _ _ _ _ (hkb b hb').1)
  rw [hl1] at h0
  exact h0
 ·exact k3.to (fun _ h => h) (fun b o hb' => World.cell?_of_block (w := w9) (a := ⟨b, o, none⟩) ((Below.heap_setCell _ _ _ _ (k4 b hb').1).trans ((hgr.block b (by have := (k4 b hb').2.1; omega) (fun e => (k5 b e.symm).2.1 hb')).trans (hb.block b (k4 b hb').2.1))))
 ·rw [hsz3]
  obtain ⟨x1, x2, x3, x4⟩ := k4 b hb'
  exact ⟨x1, by omega, x3, x4⟩
 ·obtain ⟨x1, x2, x3⟩ := hkb b hb'
  exact ⟨x1, x2, fun k hk hq => x3 k hk ((setQ_other hk).1 hq)⟩
end
theorem make_t (n : Nat) (ih : MakeAll n) (w : World) (v : Array Value) (t : Nd (T n)) (lo hi p base : Nat) (Q : Nat -> Nat -> Prop) (rb : Nat) (D : Dc) (g cap : Nat) (ra : Option Addr) (rcap : Nat) (L : List (Value × Value)) (h : TreeAt w lo hi (n + 1) v t) (hsz : hi <= w.heap.size) (hrb : hi <= rb) (hd : RdM w base Q rb D g cap ra rcap L)
  (hs : Sane D) (hc : cnt takenB D.S + ndT (n + 1) t <= 4096) (hp : p = 0 \/ ∃ q, sl D p = some q) (hpl : p < 18446744073709551616) (hok : okT (n + 1) t) (hkd : t.kind = 2) :
  Calls Tryz.prog 77 #[.pointer (some ⟨rb, 0, none⟩), .agg v, .int .u64 (p : Int)] w (MakeP w base Q rb g ra rcap D L (growD (n + 1) t p D).1 (growD (n + 1) t p D).2) := by
 obtain ⟨a, ac, ka, kc, rfl, hal, hkl, hac, hkc, hat, hkt⟩ := id h
 unfold tv at h ⊢
 obtain ⟨ho, hkk⟩ := hok
 obtain ⟨ka', kc', hk1, -, hkat, hkm⟩ := h.kids ho
 unfold maxK at hkm
 have HK1 : Hid ((if t.kind = 2 then Value.slice none 0 0 else .slice ka t.kids.length kc) = .slice ka' (kidsT t).length kc') := hk1
 have HKT : Hid (KidsAt w lo hi n ka' (kidsT t)) := hkat
 clear hk1 hkat
 have hko := fun W => rkids_any W t.kind t.name a t.attrs.length ac t.text ka t.kids.length kc
 have hndt : ndT (n + 1) t = ((kidsT t).map (ndT n)).sum + 1 := rfl
 have hc1 : cnt takenB D.S + 1 <= 4096 := by omega
 obtain ⟨f1, f2, f3, f4, f5, f6, ⟨s0, f7, f8, f9, f10⟩, f11, f12⟩ := free_facts hs hc1
 obtain ⟨q1, q2, q3, q4, q5, q6, q7, q8, q9, q10⟩ := seed_facts hs hc1 t p ho
 have HG : Hid (growD (n + 1) t p D = (setKI (growK (growD n) (seedH D) (kidsT t) (seed D t p)).1 (freeD D).1 (growK (growD n) (seedH D) (kidsT t) (seed D t p)).2, seedH D)) := rfl
 rw [HG.out]
 have hfr := rfreeM_any (w.alloc (.cells #[.int .i64 t.kind, .string t.name, .slice a t.attrs.length ac, .string t.text, .slice ka t.kids.length kc] 46)) base Q rb D g cap ra rcap L (hd.below (below_new' w _)) hs.fits
 have HSEED : Hid (seed D t p = { (freeD D).2 with S := (freeD D).2.S.set (freeD D).1 (mkS (genAt (freeD D).2 (freeD D).1 + 1) t p []) }) := rfl
 have HH : Hid (seedH D = hnd (freeD D).1 (genAt (freeD D).2 (freeD D).1 + 1)) := rfl
 have hgb := hd.toS.gb
 have hrl := hd.rbl
 have HM0 : Hid (MG w base Q rb g ra rcap D L D (w.alloc (.cells #[.int .i64 t.kind, .string t.name, .slice a t.attrs.length ac, .string t.text, .slice ka t.kids.length kc] 46)) Q g L) := (MG.start hd).below (below_new' w _)
 have HQN : Hid (∀ k b, Q k b -> b ≠ g /\ b < w.heap.size) := hd.qne
 have hmf := fun e w1 i hk => MG.free (e := e) (w1 := w1) (i := i) (hd.below (below_new' w (.cells #[.int .i64 t.kind, .string t.name, .slice a t.attrs.length ac, .string t.text, .slice ka t.kids.length kc] 46))) hk
 have HSI : Hid (∀ s, D.S[(freeD D).1]? = some s -> s.live = false) := f12
 have hbs := hd.toS.bs
 have HNL : Hid (∀ s, (freeD D).2.S[(freeD D).1]? = some s -> s.live = false) := fun s hs' => by rw [f7] at hs'; cases hs'; exact f8
 generalize hi0 : (freeD D).1 = i at *
 generalize hd1 : (freeD D).2 = D1 at *
 have hil : i < 4096 := by omega
 have HGEN : Hid (s0.gen = genAt D1 i) := f10
 have Hq1 : Hid (Sane (seed D t p)) := q1
 have Hq3 : Hid (cnt takenB (seed D t p).S = cnt takenB D.S + 1) := q3
 have Hq6 : Hid (atI (seed D t p).S (seedH D) = some i) := q6
 have Hq7 : Hid ((seed D t p).S[i]? = some (mkS (genAt D1 i + 1) t p [])) := q7
 have Hf7 : Hid (D1.S[i]? = some s0) := f7
 have hgl : s0.gen + 1 < 4294967296 := by omega
 have hHl : seedH D < 18446744073709551616 := q10
 have hix : (i : Int) < (D1.S.length : Int) := by omega
 have HOK : Hid (∀ k ∈ kidsT t, okT n k) := hkk
 have HAT : Hid (AttrsAt w lo hi a t.attrs) := hat
 have HC : Hid (cnt takenB D.S + ((kidsT t).map (ndT n)).sum + 1 <= 4096) := by show _ <= _; omega
 have HIH : Hid (MakeAll n) := ih
 have HOWN : Hid (ownE t = 0) := ho
 have HBC : Hid (IsCells (w.alloc (.cells #[.int .i64 t.kind, .string t.name, .slice a t.attrs.length ac, .string t.text, .slice ka t.kids.length kc] 46)) w.heap.size #[.int .i64 t.kind, .string t.name, .slice a t.attrs.length ac, .string t.text, .slice ka t.kids.length kc]) := isCells_new w _ _
 have HKD : Hid (t.kind = 2) := hkd
 clear hd hs f1 f2 f3 f4 f5 f6 f7 f8 f9 f10 f11 f12 q1 q2 q3 q4 q5 q6 q7 q8 q9 q10 hkk hat hkt h ih hc hc1 HG hndt ho hp hi0 hd1 hkd
 generalize hE0 : seed D t p = E0 at *
 generalize hH0 : seedH D = H at *
 clear hE0 hH0
 go_enter Tryz.func77, Tryz.ntmps77
 go_wp2_with fail
 refine hfr.mono ?_
 rintro e w1 hfm
 obtain ⟨g1, cap1, L1, hd1, hgg, hmg⟩ := hmf _ _ _ hfm
 obtain ⟨rfl, -, ht1⟩ := hfm
 have hs1 : w.heap.size < w1.heap.size := by have := ht1.size; simp at this; omega
 have HM1 : Hid (MG w base Q rb g ra rcap D L D1 w1 Q g1 L1) := HM0.out.trans hmg
 have hbx : Hid (IsCells w1 w.heap.size #[.int .i64 t.kind, .string t.name, .slice a t.attrs.length ac, .string t.text, .slice ka t.kids.length kc]) := HBC.out.of_block (ht1.block _ (by simp) (by omega))
 have HD1 : Hid (RdM w1 base Q rb D1 g1 cap1 ra rcap L1) := hd1
 obtain ⟨q, hq, -, hcp, hhd, hcl⟩ := hd1.toS.slot Hf7.out
 have hc0 : w1.cell? ⟨g1, i * 8, none⟩ = some (.int .u32 (s0.gen : Int)) := (hcl 0 _ rfl).1
 have hgl1 := hd1.toS.gb
 have hg1l : g1 < w1.heap.size := hgl1.2
 have hrl1 : rb < w1.heap.size := by omega
 have hgr1 : ¬ g1 = rb := by omega
 have hgr2 : ¬ rb = g1 := by omega
 have hb0 := hbx.out.cell 0
 have hb3 := hbx.out.cell 3
 simp at hb0 hb3
 have hgw : ¬ w.heap.size = g1 := by
  rcases hgg with e | e
  ·omega
  ·simp at e
   omega
 clear hfr hd1 hgg ht1 HM0 HBC hq hcl hmf hmg
 go_wp2_with fail
 go_region
 have hkb : (t.kind == 2) = true := beq_iff_eq.2 HKD.out
 go_wp2_with fail
 obtain ⟨w4, hw4⟩ : ∃ w4, w4 = (w1.alloc (.cells #[.int .u32 ((s0.gen : Int) + 1), .bool true, .int .i64 t.kind, .string ⟨#[]⟩, .slice none 0 0, .string t.text, .int .u64 (p : Int), .slice none 0 0] 75)).drew := ⟨_, rfl⟩
 rw [<- hw4]
 have HI4 : Hid (IsCells w4 w1.heap.size #[.int .u32 ((s0.gen : Int) + 1), .bool true, .int .i64 t.kind, .string ⟨#[]⟩, .slice none 0 0, .string t.text, .int .u64 (p : Int), .slice none 0 0]) := by rw [hw4]; exact isCells_new w1 _ 75
 have HB4 : Hid (Below w1.heap.size w1 w4) := by rw [hw4]; exact (below_new' w1 _).drew
 have hat0 : (mkS (genAt D1 i + 1) t p []).attrs = [] := by show (if t.kind = 2 then [] else t.attrs) = _; rw [if_pos HKD.out]
 have HA4 : Hid (AttrsR w4 (fun _ => False) none (mkS (genAt D1 i + 1) t p []).attrs) := by rw [hat0]; intro j x hx; simp at hx
 have HAL : Hid ((mkS (genAt D1 i + 1) t p []).attrs.length = 0) := by rw [hat0]; rfl
 have HNM : Hid ((mkS (genAt D1 i + 1) t p []).name = ⟨#[]⟩) := by show (if t.kind = 2 then _ else t.name) = _; rw [if_pos HKD.out]
 have HTX : Hid ((mkS (genAt D1 i + 1) t p []).text = t.text) := by show (if t.kind = 2 then _ else _) = _; rw [if_pos HKD.out]
 have HR4 : Hid (∀ b, (fun _ : Nat => False) b -> b ≠ g1 /\ b < w4.heap.size /\ b ≠ rb /\ w1.heap.size <= b) := fun b hb => hb.elim
 clear hw4 hat0
 obtain ⟨R, hR⟩ : ∃ R : Nat -> Prop, R = fun _ => False := ⟨_, rfl⟩
 rw [<- hR] at HA4 HR4
 obtain ⟨va, hva⟩ : ∃ va : Option Addr, va = none := ⟨_, rfl⟩
 rw [<- hva] at HA4
 have HV : Hid (va = none) := hva
 clear hR hva
 obtain ⟨tn, htn⟩ : ∃ tn, tn = (⟨#[]⟩ : ByteArray) := ⟨_, rfl⟩
 obtain ⟨tx, htx⟩ : ∃ tx, tx = t.text := ⟨_, rfl⟩
 rw [<- htn] at HI4 HNM
 rw [<- htx] at HI4 HTX
 clear htn htx
 obtain ⟨q, hq, -, hcp, hhd, hcl⟩ := HD1.out.toS.slot Hf7.out
 have hi0 := HI4.out.cell 0
 have hi1 := HI4.out.cell 1
 have hi2 := HI4.out.cell 2
 have hi3 := HI4.out.cell 3
 have hi4 := HI4.out.cell 4
 have hi5 := HI4.out.cell 5
 have hi6 := HI4.out.cell 6
 have hi7 := HI4.out.cell 7
 simp at hi0 hi1 hi2 hi3 hi4 hi5 hi6 hi7
 have hdc4 := (HB4.out.cell (p := ⟨rb, 0, none⟩) hrl1).trans hhd
 have hx0 := (HB4.out.cell (p := ⟨g1, i * 8, none⟩) hg1l).trans (hcl 0 _ rfl).1
 have hy0 := (HB4.out.frozen (p := ⟨g1, i * 8, none⟩) hg1l).trans (hcl 0 _ rfl).2
 have hx1 := (HB4.out.cell (p := ⟨g1, i * 8 + 1, none⟩) hg1l).trans (hcl 1 _ rfl).1
 have hy1 := (HB4.out.frozen (p := ⟨g1, i * 8 + 1, none⟩) hg1l).trans (hcl 1 _ rfl).2
 have hx2 := (HB4.out.cell (p := ⟨g1, i * 8 + 2, none⟩) hg1l).trans (hcl 2 _ rfl).1
 have hy2 := (HB4.out.frozen (p := ⟨g1, i * 8 + 2, none⟩) hg1l).trans (hcl 2 _ rfl).2
 have hx3 := (HB4.out.cell (p := ⟨g1, i * 8 + 3, none⟩) hg1l).trans (hcl 3 _ rfl).1
 have hy3 := (HB4.out.frozen (p := ⟨g1, i * 8 + 3, none⟩) hg1l).trans (hcl 3 _ rfl).2
 have hx4 := (HB4.out.cell (p := ⟨g1, i * 8 + 4, none⟩) hg1l).trans (hcl 4 _ rfl).1
 have hy4 := (HB4.out.frozen (p := ⟨g1, i * 8 + 4, none⟩) hg1l).trans (hcl 4 _ rfl).2
 have hx5 := (HB4.out.cell (p := ⟨g1, i * 8 + 5, none⟩) hg1l).trans (hcl 5 _ rfl).1
 have hy5 := (HB4.out.frozen (p := ⟨g1, i * 8 + 5, none⟩) hg1l).trans (hcl 5 _ rfl).2
 have hx6 := (HB4.out.cell (p := ⟨g1, i * 8 + 6, none⟩) hg1l).trans (hcl 6 _ rfl).1
 have hy6 := (HB4.out.frozen (p := ⟨g1, i * 8 + 6, none⟩) hg1l).trans (hcl 6 _ rfl).2
 have hx7 := (HB4.out.cell (p := ⟨g1, i * 8 + 7, none⟩) hg1l).trans (hcl 7 _ rfl).1
 have hy7 := (HB4.out.frozen (p := ⟨g1, i * 8 + 7, none⟩) hg1l).trans (hcl 7 _ rfl).2
 clear hcl hq hhd hc0
 go_region
 obtain ⟨w5, hw5⟩ : ∃ w5, w5 = ((((((((w4.setCell ⟨g1, i * 8, none⟩ (.int .u32 ((s0.gen : Int) + 1))).setCell ⟨g1, i * 8 + 1, none⟩ (.bool true)).setCell ⟨g1, i * 8 + 2, none⟩ (.int .i64 t.kind)).setCell ⟨g1, i * 8 + 3, none⟩ (.string tn)).setCell ⟨g1, i * 8 + 4, none⟩ (.slice none 0 0)).setCell ⟨g1, i * 8 + 5, none⟩ (.string tx)).setCell ⟨g1, i * 8 + 6, none⟩ (.int .u64 (p : Int))).setCell ⟨g1, i * 8 + 7, none⟩ (.slice none 0 0)).drew := ⟨_, rfl⟩
 rw [<- hw5]
 have hw5' : w5 = (plantW w4 g1 i (mkS (genAt D1 i + 1) t p []) (.slice none 0 0)).drew := by
  rw [hw5]
  unfold plantW
  rw [HNM.out, HTX.out]
  show _ = ((((((((w4.setCell ⟨g1, i * 8, none⟩ (.int .u32 ((genAt D1 i : Int) + 1))).setCell ⟨g1, i * 8 + 1, none⟩ (.bool true)).setCell ⟨g1, i * 8 + 2, none⟩ (.int .i64 t.kind)).setCell ⟨g1, i * 8 + 3, none⟩ (.string tn)).setCell ⟨g1, i * 8 + 4, none⟩ (.slice none 0 0)).setCell ⟨g1, i * 8 + 5, none⟩ (.string tx)).setCell ⟨g1, i * 8 + 6, none⟩ (.int .u64 (p : Int))).setCell ⟨g1, i * 8 + 7, none⟩ (.slice none 0 0)).drew
  rw [<- HGEN.out]
 have k1 := (HD1.out.below HB4.out).plant Hf7.out (mkS (genAt D1 i + 1) t p []) rfl (ac := 0) (by rw [HAL.out]; exact Nat.le_refl _) HA4.out (fun b hb => ⟨(HR4.out b hb).1, (HR4.out b hb).2.1, (HR4.out b hb).2.2.1⟩)
 rw [<- HSEED.out, HAL.out] at k1
 rw [HV.out] at k1
 have k2 : RdM w5 base (setQ Q (i + 1) R) rb E0 g1 cap1 ra rcap (L1.set i ((.slice none 0 0), .slice none 0 0)) := by rw [hw5']; exact k1.below ((Below.refl _ _).drew)
 have hT5 : Turn (fun b => b = g1) w4 w5 := by
  rw [hw5']
  exact (Turn.plant (A := fun b => b = g1) (g := g1) (Turn.refl _ _) (.inl rfl) _ _ _).drew
 have hs4 := HB4.out.size
 have hs5 := hT5.size
 have HM5 : Hid (MG w base Q rb g ra rcap D L E0 w5 (setQ Q (i + 1) R) g1 (L1.set i ((.slice none 0 0), .slice none 0 0))) := HM1.out.trans (MG.step (((below_turn HB4.out).mono (fun _ _ h => h.elim)).trans' hT5) k2 HSEED.out HNL.out (fun b hb => (HR4.out b hb).2.2.2))
 have HD5 : Hid (RdM w5 base (setQ Q (i + 1) R) rb E0 g1 cap1 ra rcap (L1.set i ((.slice none 0 0), .slice none 0 0))) := k2
 have hha : Calls Tryz.prog 111 #[.pointer (some ⟨rb, 0, none⟩), .int .i64 (i : Int)] w5 fun e w' => e = .returned (.int .u64 (H : Int)) /\ w' = w5 := by
  have := rhandle_any w5 _ rb E0 i _ k2.toS.done.view Hq1.out.fits Hq7.out
  rw [HH.out]
  exact this
 have HA5 : Hid (AttrsR w5 R va (mkS (genAt D1 i + 1) t p []).attrs) := HA4.out.to (fun _ h => h) (fun b o hb => World.cell?_of_block (w := w4) (a := ⟨b, o, none⟩) (hT5.block b (HR4.out b hb).2.1 (HR4.out b hb).1))
 have HR5 : Hid (∀ b, R b -> b ≠ g1 /\ b < w5.heap.size /\ b ≠ rb /\ w.heap.size <= b) := fun b hb => by
  obtain ⟨x1, x2, x3, x4⟩ := HR4.out b hb
  exact ⟨x1, by omega, x3, by omega⟩
 have hbx5 : IsCells w5 w.heap.size #[.int .i64 t.kind, .string t.name, .slice a t.attrs.length ac, .string t.text, .slice ka t.kids.length kc] := (hbx.out.of_block (HB4.out.block _ hs1)).of_block (hT5.block _ (by omega) hgw)
 have hb50 := hbx5.cell 0
 have hb51 := hbx5.cell 1
 have hb52 := hbx5.cell 2
 have hb53 := hbx5.cell 3
 have hb54 := hbx5.cell 4
 simp at hb50 hb51 hb52 hb53 hb54
 clear hw5 hw5' k1 k2 hT5 hi0 hi1 hi2 hi3 hi4 hi5 hi6 hi7 hx0 hx1 hx2 hx3 hx4 hx5 hx6 hx7 hy0 hy1 hy2 hy3 hy4 hy5 hy6 hy7 hdc4 HI4 HB4 HA4 HNM HTX hb0 hb3 hbx hbx5 HD1
 go_wp2_with fail
 refine hha.mono ?_
 rintro e w6 ⟨rfl, rfl⟩
 clear hha
 have hkz : kidsT t = [] := by unfold kidsT; rw [if_neg (by rw [HKD.out]; decide)]
 have hko' := hko w6
 rw [if_neg (by rw [HKD.out]; decide)] at hko'
 have HFIN : Hid (setKI (growK (growD n) H (kidsT t) E0).1 i (growK (growD n) H (kidsT t) E0).2 = E0) := by
  show _ = _
  rw [hkz]
  show setKI E0 i [] = E0
  rw [setKI_some Hq7.out]
  unfold setS
  have e0 : ({ (mkS (genAt D1 i + 1) t p []) with kids := [] } : Sl) = mkS (genAt D1 i + 1) t p [] := rfl
  rw [e0]
  have hx := List.getElem?_eq_some_iff.1 Hq7.out
  have : E0.S.set i (mkS (genAt D1 i + 1) t p []) = E0.S := by
   conv => lhs; rw [<- hx.2]
   exact List.set_getElem_self hx.1
  rw [this]
 clear hkz hko
 go_wp2_with fail
 refine hko'.mono ?_
 rintro e w7 ⟨rfl, hb7⟩
 have HB7 : Hid (Below w6.heap.size w6 w7) := hb7
 clear hko' hb7
 go_wp2
 go_loopw [11] (fun iv wr => iv = .int .i64 0 /\ Hid (wr = w7)) (fun _ _ => 0)
 case atStart => exact ⟨rfl, rfl⟩
 case round =>
  obtain ⟨rfl, hwr⟩ := hrel
  go_wp2
  go_ret
  exact ⟨rfl, _, _, _, by rw [hwr.out, HFIN.out]; exact HM5.out.below HB7.out⟩
end Go.Proofs.YtnhajpeijkbbeaaGreat
