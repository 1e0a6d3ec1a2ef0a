/- SetAttr, by the document. -/
import Derived.Test.YtmapmkogjhinmaaGreatA15
import Derived.Test.YtmapmkogjhinmaaGreatA19
import Derived.Test.YtmapmkogjhinmaaGreatA22
import Derived.Test.YtmapmkogjhinmaaGreatA12
import Derived.Test.YtmapmkogjhinmaaGreatA09
import Derived.Test.YtmapmkogjhinmaaGreatA06
import Derived.Test.YtmapmkogjhinmaaGreatA05
namespace Go.Proofs.YtmapmkogjhinmaaGreat
open Go.RowKit
set_option maxRecDepth 100000
set_option maxHeartbeats 2000000
set_option linter.unusedVariables false
set_option linter.unusedSimpArgs false
attribute [local go_sem] ite_sliceAt2
structure MkA (W X : World) (v : Value) (n : Nat) (xs : List Value) : Prop where
 own : X.ownsRow W.heap.size 52 2 v n xs
 bel : Below W.heap.size W X
theorem MkA.alloc {W X : World} {v : Value} {n : Nat} {xs : List Value} (h : MkA W X v n xs) (o : Obj) : MkA W (X.alloc o) v n xs := ⟨own_of_block h.own (fun k hk => Below.heap_alloc _ _ _ (own_block_lt h.own k hk).2), h.bel.alloc h.bel.size o⟩
theorem MkA.drew {W X : World} {v : Value} {n : Nat} {xs : List Value} (h : MkA W X v n xs) : MkA W X.drew v n xs := ⟨h.own, h.bel.drew⟩
theorem MkA.new (W : World) : MkA W (W.alloc (.cells #[] 52)) (.slice (some ⟨W.heap.size, 0, none⟩) 0 0) 0 [] := ⟨own_new W 52 2, (Below.refl _ _).alloc (Nat.le_refl _) _⟩
theorem MkA.grown {W X X' : World} {v v' : Value} {n n' : Nat} {xs xs' : List Value} (h : MkA W X v n xs) (h1 : X'.ownsRow W.heap.size 52 2 v' n' xs') (h2 : X.grownBy X' v.ownBlock) : MkA W X' v' n' xs' :=
 ⟨h1, h.bel.trans ⟨h2.os, h2.tape, h2.output, h2.size, fun k hk => h2.block k (by have := h.bel.size; omega) (fun e => by have := (own_block_lt h.own k e.symm).1; omega)⟩⟩
theorem step_mkA {W X : World} {ops : Array Oper} {o : Oper} {ac : Act} {K : Act -> World -> Prop} {Q : Exit -> Act -> World -> Prop} {E : Prop} (hgd : o.guard = none) (s x : Operand)
  (ho : o.op = .call { callee := .builtin .append, args := #[s, x], argTypes := #[33, 33] }) (v : Value) (n : Nat) (xs : List Value) (h : MkA W X v n xs) (hs : ac.eval s = v) (a : Option Addr) (m c : Nat) (news : List Value) (hx : ac.eval x = .slice a m c) (hl : news.length = m * 2)
  (hnews : ∀ j u, news[j]? = some u -> ∃ ad, a = some ad /\ X.cell? (ad.add j) = some u) (h1 : ∀ u ∈ news, u.oneCell' = true) (h63 : n + m <= 1048576)
  (hK : ∀ v' w', MkA W w' v' (n + m) (xs ++ news) -> K (ac.put o.dst v') w') :
  if Region.wanted o (yielded ops ac.tmps) = true then Oper.wp Tryz.prog o ac X K Q else E :=
 step_app hgd s x ho Tryz.underlying33 info128 rfl (by decide) W.heap.size v n xs hs h.own a m c news hx hl hnews h1 (by unfold maxLen; omega) (by omega) h.bel.size
  (fun v' w' k1 k2 _ _ => hK v' w' (h.grown k1 k2))
theorem wpList_mkA {W X : World} {ops : Array Oper} {rest : List Oper} {o : Oper} {ac : Act} {Q : Exit -> Act -> World -> Prop} (hgd : o.guard = none) (s x : Operand)
  (ho : o.op = .call { callee := .builtin .append, args := #[s, x], argTypes := #[33, 33] }) (v : Value) (n : Nat) (xs : List Value) (h : MkA W X v n xs) (hs : ac.eval s = v) (a : Option Addr) (m c : Nat) (news : List Value) (hx : ac.eval x = .slice a m c) (hl : news.length = m * 2)
  (hnews : ∀ j u, news[j]? = some u -> ∃ ad, a = some ad /\ X.cell? (ad.add j) = some u) (h1 : ∀ u ∈ news, u.oneCell' = true) (h63 : n + m <= 1048576)
  (hK : ∀ v' w', MkA W w' v' (n + m) (xs ++ news) -> wpList Tryz.prog ops Q rest (ac.put o.dst v') w') : wpList Tryz.prog ops Q (o :: rest) ac X :=
 wpList_app hgd s x ho Tryz.underlying33 info128 rfl (by decide) W.heap.size v n xs hs h.own a m c news hx hl hnews h1 (by unfold maxLen; omega) (by omega) h.bel.size
  (fun v' w' k1 k2 _ _ => hK v' w' (h.grown k1 k2))
theorem attrs_new {w w1 w5 : World} {Q : Nat -> Prop} {rb : Nat} {D : Dc} {g cap : Nat} {ra : Option Addr} {rcap : Nat} {L : List (Value × Value)} {i : Nat} {s : Sl} {aa ka : Option Addr} {ac kc : Nat} (hr : RdS w1 w.heap.size Q rb D g cap ra rcap L) (ht : Turn (fun b => b = rb) w w1) (hs : D.S[i]? = some s) (hp : L[i]? = some (.slice aa s.attrs.length ac, .slice ka s.kids.length kc))
  {va : Option Addr} {vc N : Nat} {l' : List (ByteArray × ByteArray)} (hm : MkA w1 w5 (.slice va N vc) N (attrCells l')) : RPost w Q rb { D with S := D.S.set i { s with attrs := l' } } 0 (.returned (.int .i64 0)) (w5.setCell ⟨g, i * 8 + 4, none⟩ (.slice va N vc)) := by
 have hgs := hr.gb
 have hbs5 := hm.bel.size
 have HO3 := own_block_lt hm.own
 have hrb0 := hr.rbl
 have hts := ht.size
 have HRW : RdS w5 w.heap.size (fun b => Q b \/ (Value.slice va N vc).ownBlock = some b) rb D g cap ra rcap L := (hr.below hm.bel).widen (fun _ h => .inl h) (fun b hb => by
  rcases hb with hb | hb
  ·exact (hr.below hm.bel).qne b hb
  ·have := HO3 b hb
   exact ⟨by omega, this.2⟩) (fun hb => by
  rcases hb with hb | hb
  ·exact hr.nrb hb
  ·have := HO3 rb hb
   omega)
 have hAR := attrs_row hm.own rfl
 have HST : RdS (w5.setCell ⟨g, i * 8 + 4, none⟩ (.slice va N vc)) w.heap.size (fun b => Q b \/ (Value.slice va N vc).ownBlock = some b) rb { D with S := D.S.set i { s with attrs := l' } } g cap ra rcap (L.set i (.slice va N vc, .slice ka s.kids.length kc)) := by
  refine HRW.store hs hp (by omega) rfl ?_
  obtain ⟨a', ac', ka', kc', e', _, m2, _, m4⟩ := HRW.vals i s _ hs hp
  cases e'
  exact ⟨va, vc, ka, kc, by rw [hAR.2.1], by rw [<- hAR.2.1]; exact hAR.2.2, m2, hAR.1.to (fun b hb => .inr hb.1) (fun _ _ _ => rfl), m4⟩
 have hdn := HST.done
 refine ⟨rfl, (ht.then hm.bel ht.size).setNew (p := ⟨g, _, none⟩) hgs.1 _, hdn.widen (fun b hb => ?_) (fun b hb => ?_) (fun hb => ?_)⟩
 ·rcases hb with (hb | hb) | hb
  ·exact .inl hb
  ·exact .inr ⟨by have := (HO3 b hb).1; omega, by simpa [World.setCell] using (HO3 b hb).2⟩
  ·exact .inr hb
 ·rcases hb with hb | hb
  ·have := (hr.qne b hb).2
   simp [World.setCell]
   omega
  ·exact hb.2
 ·rcases hb with hb | hb
  ·exact hr.nrb hb
  ·omega
theorem rsetA_ok (w : World) (Q : Nat -> Prop) (rb : Nat) (D : Dc) (h : Nat) (nm v : ByteArray) (i : Nat) (s : Sl) (hd : RDoc w Q rb D) (hf : Fits D) (hh : h < 18446744073709551616) (ha : atI D.S h = some i) (hs : D.S[i]? = some s) (hk : s.kind = 1) (hso : SortA s.attrs) (hal : s.attrs.length <= 32) (hnm : nameL nm.data.toList = true) (htn : (tans v.data.toList).2 = 0) :
  Calls Tryz.prog 36 #[.pointer (some ⟨rb, 0, none⟩), .int .u64 (h : Int), .string nm, .string v] w (RPost w Q rb (if hasN s.attrs nm = false /\ 32 <= s.attrs.length then D else { D with S := D.S.set i { s with attrs := setAttrL s.attrs nm v } }) (if hasN s.attrs nm = false /\ 32 <= s.attrs.length then 2 else 0)) := by
 have hc := change_some w Q rb D h i s hd hf hh ha hs
 rw [hk] at hc
 have hnw := fun W => rname_any W nm
 rw [hnm] at hnw
 have htx := fun W => rtext_any W v
 rw [htn] at htx
 generalize (tans v.data.toList).1 = y1 at *
 have hl4 := hf.len
 have hi1 : (i : Int) < ((D.S.length : Nat) : Int) := by have := (List.getElem?_eq_some_iff.1 hs).1; omega
 have HS : Hid (D.S[i]? = some s) := hs
 obtain ⟨k, Hk⟩ : ∃ k, Hid (lowN s.attrs nm = k) := ⟨_, rfl⟩
 have hkl : k <= s.attrs.length := by rw [<- Hk.out]; exact lowN_le _ _
 have Hcut : Hid (∀ j p, s.attrs[j]? = some p -> (j < k ↔ ltN p.1 nm)) := fun j p hp => by rw [<- Hk.out]; exact low_cut hso hp
 have Hhas : Hid (hasN s.attrs nm = match s.attrs[k]? with | some p => decide (p.1 = nm) | none => false) := by show _ = _; unfold hasN; rw [Hk.out]; cases s.attrs[k]? <;> rfl
 have Hset : Hid (setAttrL s.attrs nm v = s.attrs.take k ++ [(nm, v)] ++ s.attrs.drop (if hasN s.attrs nm then k + 1 else k)) := by show _ = _; unfold setAttrL; rw [Hk.out]
 obtain ⟨t, Ht⟩ : ∃ t, Hid (hasN s.attrs nm = t) := ⟨_, rfl⟩
 rw [Ht.out] at Hhas Hset ⊢
 obtain ⟨R, HR⟩ : ∃ R : Dc, Hid ((if t = false /\ 32 <= s.attrs.length then D else { D with S := D.S.set i { s with attrs := setAttrL s.attrs nm v } }) = R) := ⟨_, rfl⟩
 obtain ⟨z, Hz⟩ : ∃ z : Int, Hid ((if t = false /\ 32 <= s.attrs.length then (2 : Int) else 0) = z) := ⟨_, rfl⟩
 rw [HR.out, Hz.out]
 clear hd ha hs hk hso hnm htn
 go_enter Tryz.func36, Tryz.ntmps36
 go_wp2_with fail
 refine hc.mono ?_
 rintro e w1 ⟨rfl, ⟨g, cap, ra, rcap, L, hr⟩, ht⟩
 have HR1 : Hid (RdS w1 w.heap.size Q rb D g cap ra rcap L) := hr
 have HT1 : Hid (Turn (fun b => b = rb) w w1) := ht
 clear hr ht hc
 go_wp2_with fail
 refine (hnw _).mono ?_
 rintro e w2 ⟨rfl, rfl⟩
 clear hnw
 go_wp2_with fail
 refine (htx _).mono ?_
 rintro e w3 ⟨rfl, hb3⟩
 clear htx
 have hr := HR1.out.below hb3
 have ht := HT1.out.then hb3 HT1.out.size
 obtain ⟨p, hp, hvv, hcap, hhd, hcl⟩ := hr.slot HS.out
 obtain ⟨aa, ac, ka, kc, rfl, l1, l2, v1, v2⟩ := hvv
 have hc4 := (hcl 4 _ rfl).1
 have hf4 := (hcl 4 _ rfl).2
 have hgs := hr.gb
 have HR0 : Hid (RdS w3 w.heap.size Q rb D g cap ra rcap L) := hr
 have HT0 : Hid (Turn (fun b => b = rb) w w3) := ht
 have HP : Hid (L[i]? = some (.slice aa s.attrs.length ac, .slice ka s.kids.length kc)) := hp
 have HA : Hid (AttrsR w3 Q aa s.attrs) := v1
 have HQ : Hid (∀ b, Q b -> b < w3.heap.size) := fun b hb => (hr.qne b hb).2
 have hrbs : rb < w3.heap.size := hr.head.lt
 have hgr : ¬ g = rb := by have := hr.rbl; omega
 have hgr2 : ¬ rb = g := by omega
 have hal' : (s.attrs.length : Int) <= 32 := by omega
 have hkl' : (k : Int) <= (s.attrs.length : Int) := by omega
 have hac : (s.attrs.length : Int) <= (ac : Int) := by omega
 clear hr ht hp v1 v2 hcl hb3 HR1 HT1
 have HB0 : Hid (Below w3.heap.size w3 (w3.alloc (.cells #[] 52))) := (Below.refl _ _).alloc (Nat.le_refl _) _
 go_wp2
 go_loopw [13] (fun iv wr => ∃ (j : Nat), j <= k /\ iv = .int .i64 (j : Int) /\ wr = w3.alloc (.cells #[] 52)) (fun iv _ => s.attrs.length - (intOf iv).toNat)
 case atStart => exact ⟨0, by omega, rfl, rfl⟩
 case round =>
  obtain ⟨j, hj, rfl, rfl⟩ := hrel
  by_cases hjk : j < k
  ·have hlt : j < s.attrs.length := by omega
   obtain ⟨q, hq⟩ : ∃ q, s.attrs[j]? = some q := ⟨_, List.getElem?_eq_getElem hlt⟩
   obtain ⟨b, o, rfl, hbQ, d1, d2⟩ := HA.out j q hq
   have hbl := HQ.out b hbQ
   have e1 : (w3.alloc (.cells #[] 52)).cell? ⟨b, o + j * 2, none⟩ = some (.string q.1) := (HB0.out.cell (p := ⟨b, _, none⟩) hbl).trans d1
   have hlt2 : Op.bytesLess q.1.toList nm.toList = true := by rw [less_ltN]; simpa using (Hcut.out j q hq).1 hjk
   have hj1 : (j : Int) < ((s.attrs.length : Nat) : Int) := by omega
   have hj2 : (0 : Int) <= (j : Int) := by omega
   clear hq d1 d2
   go_wp2
   go_roundw
   case rel => exact ⟨j + 1, by omega, by go_num, trivial⟩
   case measure => simp [intOf]; omega
  ·have hje : j = k := by omega
   subst hje
   have HN1 : Hid (∀ W, Below w3.heap.size w3 W -> ∀ m u, (attrCells (s.attrs.take j))[m]? = some u -> ∃ ad, aa = some ad /\ W.cell? (ad.add m) = some u) := fun W hb => ((HA.out.to (fun _ h => h) (fun b o hR => hb.cell (p := ⟨b, o, none⟩) (HQ.out b hR))).takeA j).news
   have hT1 : Hid ((attrCells (s.attrs.take j)).length = j * 2) := by show _ = _; rw [attrCells_length]; simp; omega
   have MA0 : Hid (MkA w3 (w3.alloc (.cells #[] 52)) (.slice (some ⟨w3.heap.size, 0, none⟩) 0 0) 0 []) := MkA.new w3
   have hj2 : (0 : Int) <= (j : Int) := by omega
   have hjac : (j : Int) <= (ac : Int) := by omega
   cases t with
   | true =>
    have hnr : ¬ (true = false /\ 32 <= s.attrs.length) := by simp
    have hR1 := HR.out
    have hz1 := Hz.out
    rw [if_neg hnr] at hR1 hz1
    rw [Hset.out, if_pos rfl] at hR1
    have HR2 : Hid (R = { D with S := D.S.set i { s with attrs := s.attrs.take j ++ [(nm, v)] ++ s.attrs.drop (j + 1) } }) := hR1.symm
    have Hz2 : Hid (z = 0) := hz1.symm
    clear hR1 hz1 hnr
    obtain ⟨q, hq, hqn⟩ : ∃ q, s.attrs[j]? = some q /\ q.1 = nm := by
     have := Hhas.out
     cases hq : s.attrs[j]? with
     | none => rw [hq] at this; cases this
     | some q => rw [hq] at this; exact ⟨q, rfl, by simpa using this.symm⟩
    have hjl : j < s.attrs.length := (List.getElem?_eq_some_iff.1 hq).1
    obtain ⟨b, o, rfl, hbQ, d1, d2⟩ := HA.out j q hq
    have hbl := HQ.out b hbQ
    rw [hqn] at d1
    have e1 : (w3.alloc (.cells #[] 52)).cell? ⟨b, o + j * 2, none⟩ = some (.string nm) := (HB0.out.cell (p := ⟨b, _, none⟩) hbl).trans d1
    have hirr : Op.bytesLess nm.toList nm.toList = false := by rw [less_ltN]; simpa using ltN_irr nm
    have hj1 : (j : Int) < ((s.attrs.length : Nat) : Int) := by omega
    have i3 : (j : Int) + 1 <= ((s.attrs.length : Nat) : Int) := by omega
    have i6 : (j : Int) + 1 <= (ac : Int) := by omega
    have i7 : (0 : Int) <= (j : Int) + 1 := by omega
    have i8 : ¬ (j : Int) + 1 < 0 := by omega
    have i9 : ¬ ((s.attrs.length : Nat) : Int) < (j : Int) + 1 := by omega
    have i10 : ¬ (ac : Int) < ((s.attrs.length : Nat) : Int) := by omega
    have i11 : ((j : Int) + 1).toNat = j + 1 := by omega
    have i12 : (((s.attrs.length : Nat) : Int) - ((j : Int) + 1)).toNat = s.attrs.length - (j + 1) := by omega
    have hwr : IntKind.i64.wrap ((j : Int) + 1) = (j : Int) + 1 := by rw [IntKind.wrap_i64]; omega
    have HN2 : Hid (∀ W, Below w3.heap.size w3 W -> ∀ m u, (attrCells (s.attrs.drop (j + 1)))[m]? = some u -> ∃ ad, sliceAt2 b o ac (j + 1) = some ad /\ W.cell? (ad.add m) = some u) := fun W hb => ((HA.out.to (fun _ h => h) (fun b o hR => hb.cell (p := ⟨b, o, none⟩) (HQ.out b hR))).dropA l1 (j + 1)).news
    have hT2 : Hid ((attrCells (s.attrs.drop (j + 1))).length = (s.attrs.length - (j + 1)) * 2) := by show _ = _; rw [attrCells_length]; simp
    have hsz : s.attrs.length - (j + 1) <= 32 := by omega
    clear hq d1 d2
    go_wp2_with (first
     | (at_builtin; refine wpList_mkA rfl _ _ rfl _ 0 [] MA0.out rfl (some ⟨b, o, none⟩) j ac (attrCells (s.attrs.take j)) rfl hT1.out (HN1.out _ MA0.out.bel) (attrCells_one _) (by omega) ?_; intro x4 w4 m4; rw [Nat.zero_add, List.nil_append] at m4; obtain ⟨xa4, xc4, rfl⟩ := own_slice m4.own; have M4 : Hid (MkA w3 w4 (.slice xa4 j xc4) j (attrCells (s.attrs.take j))) := m4; clear m4 MA0)
     | (at_builtin; refine wpList_mkA rfl _ _ rfl _ j _ (M4.out.alloc _) rfl _ 1 1 [.string nm, .string v] rfl rfl (fun m u hu => ⟨_, rfl, (by rw [addrP, Nat.zero_add, (isCells_new w4 _ _).cell]; simpa using hu)⟩) (by intro u hu; simp at hu; rcases hu with rfl | rfl <;> rfl) (by omega) ?_; intro x5 w5 m5; obtain ⟨xa5, xc5, rfl⟩ := own_slice m5.own; have M5 : Hid (MkA w3 w5 (.slice xa5 (j + 1) xc5) (j + 1) (attrCells (s.attrs.take j) ++ [.string nm, .string v])) := m5; clear m5 M4))
    have hh5 : w5.cell? ⟨rb, 0, none⟩ = some (.slice (some ⟨g, 0, none⟩) D.S.length cap) := (M5.out.bel.cell (p := ⟨rb, 0, none⟩) hrbs).trans hhd
    have M5d : Hid (MkA w3 w5.drew (.slice xa5 (j + 1) xc5) (j + 1) (attrCells (s.attrs.take j) ++ [.string nm, .string v])) := M5.out.drew
    go_region_held3 (fun W => W.cell? ⟨rb, 0, none⟩ = some (.slice (some ⟨g, 0, none⟩) D.S.length cap)) (go_keep)
     (first
      | (refine step_mkA (by rfl) _ _ (by rfl) _ (j + 1) _ M5d.out (by rfl) (sliceAt2 b o ac (j + 1)) (s.attrs.length - (j + 1)) (ac - (j + 1)) (attrCells (s.attrs.drop (j + 1))) (by rfl) hT2.out (HN2.out _ M5d.out.bel) (attrCells_one _) (by omega) ?_; intro x6 w6 m6; obtain ⟨xa6, xc6, rfl⟩ := own_slice m6.own; have M6 : Hid (MkA w3 w6 (.slice xa6 (j + 1 + (s.attrs.length - (j + 1))) xc6) (j + 1 + (s.attrs.length - (j + 1))) (attrCells (s.attrs.take j) ++ [.string nm, .string v] ++ attrCells (s.attrs.drop (j + 1)))) := m6; have hh6 : w6.cell? ⟨rb, 0, none⟩ = some (.slice (some ⟨g, 0, none⟩) D.S.length cap) := (M6.out.bel.cell (p := ⟨rb, 0, none⟩) hrbs).trans hhd; have hc6 : w6.cell? ⟨g, i * 8 + 4, none⟩ = some (.slice (some ⟨b, o, none⟩) s.attrs.length ac) := (M6.out.bel.cell (p := ⟨g, _, none⟩) hgs.2).trans hc4; have hf6 : w6.frozen? ⟨g, i * 8 + 4, none⟩ = false := (M6.out.bel.frozen (p := ⟨g, _, none⟩) hgs.2).trans hf4; have hg6 : g < w6.heap.size := Nat.lt_of_lt_of_le hgs.2 M6.out.bel.size; clear m6 M5d))
    have HFin : Hid (RPost w Q rb { D with S := D.S.set i { s with attrs := s.attrs.take j ++ [(nm, v)] ++ s.attrs.drop (j + 1) } } 0 (.returned (.int .i64 0)) (w6.setCell ⟨g, i * 8 + 4, none⟩ (.slice xa6 (j + 1 + (s.attrs.length - (j + 1))) xc6))) := by
     refine attrs_new HR0.out HT0.out HS.out HP.out ?_
     rw [attrCells_app, attrCells_app]
     exact M6.out
    go_wp2
    go_ret
    rw [HR2.out, Hz2.out]
    exact HFin.out
   | false =>
    by_cases h32 : 32 <= s.attrs.length
    ·have hR1 := HR.out
     have hz1 := Hz.out
     rw [if_pos ⟨rfl, h32⟩] at hR1 hz1
     have HR2 : Hid (R = D) := hR1.symm
     have Hz2 : Hid (z = 2) := hz1.symm
     have h32' : (32 : Int) <= (s.attrs.length : Int) := by omega
     have HX : Hid (RPost w Q rb D 2 (.returned (.int .i64 2)) (w3.alloc (.cells #[] 52))) := rds_post (HR0.out.below HB0.out) (HT0.out.then HB0.out HT0.out.size)
     clear hR1 hz1
     by_cases hjl : j < s.attrs.length
     ·obtain ⟨q, hq⟩ : ∃ q, s.attrs[j]? = some q := ⟨_, List.getElem?_eq_getElem hjl⟩
      obtain ⟨b, o, rfl, hbQ, d1, d2⟩ := HA.out j q hq
      have hbl := HQ.out b hbQ
      have e1 : (w3.alloc (.cells #[] 52)).cell? ⟨b, o + j * 2, none⟩ = some (.string q.1) := (HB0.out.cell (p := ⟨b, _, none⟩) hbl).trans d1
      have hirr : Op.bytesLess q.1.toList nm.toList = false := by
       rw [less_ltN]
       simpa using fun h => absurd ((Hcut.out j q hq).2 h) (by omega)
      have hne : (q.1.toList == nm.toList) = false := str_ne (fun e => by have := Hhas.out; rw [hq] at this; simp [e] at this)
      have hj1 : (j : Int) < ((s.attrs.length : Nat) : Int) := by omega
      clear hq d1 d2
      go_wp2
      go_ret
      rw [HR2.out, Hz2.out]
      exact HX.out
     ·have hje2 : ¬ ((j : Int) < ((s.attrs.length : Nat) : Int)) := by omega
      go_wp2
      go_ret
      rw [HR2.out, Hz2.out]
      exact HX.out
    ·have hR1 := HR.out
     have hz1 := Hz.out
     have hnr : ¬ (false = false /\ 32 <= s.attrs.length) := fun h => h32 h.2
     rw [if_neg hnr] at hR1 hz1
     rw [Hset.out, if_neg (by decide)] at hR1
     have HR2 : Hid (R = { D with S := D.S.set i { s with attrs := s.attrs.take j ++ [(nm, v)] ++ s.attrs.drop j } }) := hR1.symm
     have Hz2 : Hid (z = 0) := hz1.symm
     have h32' : (s.attrs.length : Int) < 32 := by omega
     have hT2 : Hid ((attrCells (s.attrs.drop j)).length = (s.attrs.length - j) * 2) := by show _ = _; rw [attrCells_length]; simp
     have hsz : s.attrs.length - j <= 32 := by omega
     have hjn : (j : Int) <= ((s.attrs.length : Nat) : Int) := by omega
     have i12 : (((s.attrs.length : Nat) : Int) - (j : Int)).toNat = s.attrs.length - j := by omega
     clear hR1 hz1 hnr
     cases aa with
     | none =>
      have hl0 : s.attrs.length = 0 := by
       by_cases e : s.attrs.length = 0
       ·exact e
       ·obtain ⟨b, o, e2, _⟩ := HA.out 0 _ (List.getElem?_eq_getElem (by omega))
        cases e2
      have HN2 : Hid (∀ W, Below w3.heap.size w3 W -> ∀ m u, (attrCells (s.attrs.drop j))[m]? = some u -> ∃ ad, (none : Option Addr) = some ad /\ W.cell? (ad.add m) = some u) := fun W hb m u hu => by
       rw [List.drop_of_length_le (by omega)] at hu
       simp [attrCells] at hu
      have hje2 : ¬ ((j : Int) < ((s.attrs.length : Nat) : Int)) := by omega
      clear hl0
      go_wp2_with (first
       | (at_builtin; refine wpList_mkA rfl _ _ rfl _ 0 [] MA0.out rfl none j ac (attrCells (s.attrs.take j)) rfl hT1.out (HN1.out _ MA0.out.bel) (attrCells_one _) (by omega) ?_; intro x4 w4 m4; rw [Nat.zero_add, List.nil_append] at m4; obtain ⟨xa4, xc4, rfl⟩ := own_slice m4.own; have M4 : Hid (MkA w3 w4 (.slice xa4 j xc4) j (attrCells (s.attrs.take j))) := m4; clear m4 MA0)
       | (at_builtin; refine wpList_mkA rfl _ _ rfl _ j _ (M4.out.alloc _) rfl _ 1 1 [.string nm, .string v] rfl rfl (fun m u hu => ⟨_, rfl, (by rw [addrP, Nat.zero_add, (isCells_new w4 _ _).cell]; simpa using hu)⟩) (by intro u hu; simp at hu; rcases hu with rfl | rfl <;> rfl) (by omega) ?_; intro x5 w5 m5; obtain ⟨xa5, xc5, rfl⟩ := own_slice m5.own; have M5 : Hid (MkA w3 w5 (.slice xa5 (j + 1) xc5) (j + 1) (attrCells (s.attrs.take j) ++ [.string nm, .string v])) := m5; clear m5 M4))
      have hh5 : w5.cell? ⟨rb, 0, none⟩ = some (.slice (some ⟨g, 0, none⟩) D.S.length cap) := (M5.out.bel.cell (p := ⟨rb, 0, none⟩) hrbs).trans hhd
      have M5d : Hid (MkA w3 w5.drew (.slice xa5 (j + 1) xc5) (j + 1) (attrCells (s.attrs.take j) ++ [.string nm, .string v])) := M5.out.drew
      go_region_held3 (fun W => W.cell? ⟨rb, 0, none⟩ = some (.slice (some ⟨g, 0, none⟩) D.S.length cap)) (go_keep)
       (first
        | (refine step_mkA (by rfl) _ _ (by rfl) _ (j + 1) _ M5d.out (by rfl) none (s.attrs.length - j) (ac - j) (attrCells (s.attrs.drop j)) (by rfl) hT2.out (HN2.out _ M5d.out.bel) (attrCells_one _) (by omega) ?_; intro x6 w6 m6; obtain ⟨xa6, xc6, rfl⟩ := own_slice m6.own; have M6 : Hid (MkA w3 w6 (.slice xa6 (j + 1 + (s.attrs.length - j)) xc6) (j + 1 + (s.attrs.length - j)) (attrCells (s.attrs.take j) ++ [.string nm, .string v] ++ attrCells (s.attrs.drop j))) := m6; have hh6 : w6.cell? ⟨rb, 0, none⟩ = some (.slice (some ⟨g, 0, none⟩) D.S.length cap) := (M6.out.bel.cell (p := ⟨rb, 0, none⟩) hrbs).trans hhd; have hc6 : w6.cell? ⟨g, i * 8 + 4, none⟩ = some (.slice none s.attrs.length ac) := (M6.out.bel.cell (p := ⟨g, _, none⟩) hgs.2).trans hc4; have hf6 : w6.frozen? ⟨g, i * 8 + 4, none⟩ = false := (M6.out.bel.frozen (p := ⟨g, _, none⟩) hgs.2).trans hf4; have hg6 : g < w6.heap.size := Nat.lt_of_lt_of_le hgs.2 M6.out.bel.size; clear m6 M5d))
      have HFin : Hid (RPost w Q rb { D with S := D.S.set i { s with attrs := s.attrs.take j ++ [(nm, v)] ++ s.attrs.drop j } } 0 (.returned (.int .i64 0)) (w6.setCell ⟨g, i * 8 + 4, none⟩ (.slice xa6 (j + 1 + (s.attrs.length - j)) xc6))) := by
       refine attrs_new HR0.out HT0.out HS.out HP.out ?_
       rw [attrCells_app, attrCells_app]
       exact M6.out
      go_wp2
      go_ret
      rw [HR2.out, Hz2.out]
      exact HFin.out
     | some ad =>
      obtain ⟨b, o, sp⟩ := ad
      by_cases hjl : j < s.attrs.length
      ·obtain ⟨q, hq⟩ : ∃ q, s.attrs[j]? = some q := ⟨_, List.getElem?_eq_getElem hjl⟩
       obtain ⟨b', o', e', hbQ, d1, d2⟩ := HA.out j q hq
       cases e'
       have hbl := HQ.out b hbQ
       have e1 : (w3.alloc (.cells #[] 52)).cell? ⟨b, o + j * 2, none⟩ = some (.string q.1) := (HB0.out.cell (p := ⟨b, _, none⟩) hbl).trans d1
       have hirr : Op.bytesLess q.1.toList nm.toList = false := by
        rw [less_ltN]
        simpa using fun h => absurd ((Hcut.out j q hq).2 h) (by omega)
       have hne : (q.1.toList == nm.toList) = false := str_ne (fun e => by have := Hhas.out; rw [hq] at this; simp [e] at this)
       have hj1 : (j : Int) < ((s.attrs.length : Nat) : Int) := by omega
       have HN2 : Hid (∀ W, Below w3.heap.size w3 W -> ∀ m u, (attrCells (s.attrs.drop j))[m]? = some u -> ∃ ad, sliceAt2 b o ac j = some ad /\ W.cell? (ad.add m) = some u) := fun W hb => ((HA.out.to (fun _ h => h) (fun b o hR => hb.cell (p := ⟨b, o, none⟩) (HQ.out b hR))).dropA l1 j).news
       clear hq d1 d2
       go_wp2_with (first
        | (at_builtin; refine wpList_mkA rfl _ _ rfl _ 0 [] MA0.out rfl (some ⟨b, o, none⟩) j ac (attrCells (s.attrs.take j)) rfl hT1.out (HN1.out _ MA0.out.bel) (attrCells_one _) (by omega) ?_; intro x4 w4 m4; rw [Nat.zero_add, List.nil_append] at m4; obtain ⟨xa4, xc4, rfl⟩ := own_slice m4.own; have M4 : Hid (MkA w3 w4 (.slice xa4 j xc4) j (attrCells (s.attrs.take j))) := m4; clear m4 MA0)
        | (at_builtin; refine wpList_mkA rfl _ _ rfl _ j _ (M4.out.alloc _) rfl _ 1 1 [.string nm, .string v] rfl rfl (fun m u hu => ⟨_, rfl, (by rw [addrP, Nat.zero_add, (isCells_new w4 _ _).cell]; simpa using hu)⟩) (by intro u hu; simp at hu; rcases hu with rfl | rfl <;> rfl) (by omega) ?_; intro x5 w5 m5; obtain ⟨xa5, xc5, rfl⟩ := own_slice m5.own; have M5 : Hid (MkA w3 w5 (.slice xa5 (j + 1) xc5) (j + 1) (attrCells (s.attrs.take j) ++ [.string nm, .string v])) := m5; clear m5 M4))
       have hh5 : w5.cell? ⟨rb, 0, none⟩ = some (.slice (some ⟨g, 0, none⟩) D.S.length cap) := (M5.out.bel.cell (p := ⟨rb, 0, none⟩) hrbs).trans hhd
       have M5d : Hid (MkA w3 w5.drew (.slice xa5 (j + 1) xc5) (j + 1) (attrCells (s.attrs.take j) ++ [.string nm, .string v])) := M5.out.drew
       go_region_held3 (fun W => W.cell? ⟨rb, 0, none⟩ = some (.slice (some ⟨g, 0, none⟩) D.S.length cap)) (go_keep)
        (first
         | (refine step_mkA (by rfl) _ _ (by rfl) _ (j + 1) _ M5d.out (by rfl) (sliceAt2 b o ac j) (s.attrs.length - j) (ac - j) (attrCells (s.attrs.drop j)) (by rfl) hT2.out (HN2.out _ M5d.out.bel) (attrCells_one _) (by omega) ?_; intro x6 w6 m6; obtain ⟨xa6, xc6, rfl⟩ := own_slice m6.own; have M6 : Hid (MkA w3 w6 (.slice xa6 (j + 1 + (s.attrs.length - j)) xc6) (j + 1 + (s.attrs.length - j)) (attrCells (s.attrs.take j) ++ [.string nm, .string v] ++ attrCells (s.attrs.drop j))) := m6; have hh6 : w6.cell? ⟨rb, 0, none⟩ = some (.slice (some ⟨g, 0, none⟩) D.S.length cap) := (M6.out.bel.cell (p := ⟨rb, 0, none⟩) hrbs).trans hhd; have hc6 : w6.cell? ⟨g, i * 8 + 4, none⟩ = some (.slice (some ⟨b, o, none⟩) s.attrs.length ac) := (M6.out.bel.cell (p := ⟨g, _, none⟩) hgs.2).trans hc4; have hf6 : w6.frozen? ⟨g, i * 8 + 4, none⟩ = false := (M6.out.bel.frozen (p := ⟨g, _, none⟩) hgs.2).trans hf4; have hg6 : g < w6.heap.size := Nat.lt_of_lt_of_le hgs.2 M6.out.bel.size; clear m6 M5d))
       have HFin : Hid (RPost w Q rb { D with S := D.S.set i { s with attrs := s.attrs.take j ++ [(nm, v)] ++ s.attrs.drop j } } 0 (.returned (.int .i64 0)) (w6.setCell ⟨g, i * 8 + 4, none⟩ (.slice xa6 (j + 1 + (s.attrs.length - j)) xc6))) := by
        refine attrs_new HR0.out HT0.out HS.out HP.out ?_
        rw [attrCells_app, attrCells_app]
        exact M6.out
       go_wp2
       go_ret
       rw [HR2.out, Hz2.out]
       exact HFin.out
      ·have HN2 : Hid (∀ (a : Option Addr) (W : World) m u, (attrCells (s.attrs.drop j))[m]? = some u -> ∃ ad, a = some ad /\ W.cell? (ad.add m) = some u) := fun a W m u hu => by
        rw [List.drop_of_length_le (by omega)] at hu
        simp [attrCells] at hu
       have hje2 : ¬ ((j : Int) < ((s.attrs.length : Nat) : Int)) := by omega
       go_wp2_with (first
        | (at_builtin; refine wpList_mkA rfl _ _ rfl _ 0 [] MA0.out rfl (some ⟨b, o, sp⟩) j ac (attrCells (s.attrs.take j)) rfl hT1.out (HN1.out _ MA0.out.bel) (attrCells_one _) (by omega) ?_; intro x4 w4 m4; rw [Nat.zero_add, List.nil_append] at m4; obtain ⟨xa4, xc4, rfl⟩ := own_slice m4.own; have M4 : Hid (MkA w3 w4 (.slice xa4 j xc4) j (attrCells (s.attrs.take j))) := m4; clear m4 MA0)
        | (at_builtin; refine wpList_mkA rfl _ _ rfl _ j _ (M4.out.alloc _) rfl _ 1 1 [.string nm, .string v] rfl rfl (fun m u hu => ⟨_, rfl, (by rw [addrP, Nat.zero_add, (isCells_new w4 _ _).cell]; simpa using hu)⟩) (by intro u hu; simp at hu; rcases hu with rfl | rfl <;> rfl) (by omega) ?_; intro x5 w5 m5; obtain ⟨xa5, xc5, rfl⟩ := own_slice m5.own; have M5 : Hid (MkA w3 w5 (.slice xa5 (j + 1) xc5) (j + 1) (attrCells (s.attrs.take j) ++ [.string nm, .string v])) := m5; clear m5 M4))
       have hh5 : w5.cell? ⟨rb, 0, none⟩ = some (.slice (some ⟨g, 0, none⟩) D.S.length cap) := (M5.out.bel.cell (p := ⟨rb, 0, none⟩) hrbs).trans hhd
       have M5d : Hid (MkA w3 w5.drew (.slice xa5 (j + 1) xc5) (j + 1) (attrCells (s.attrs.take j) ++ [.string nm, .string v])) := M5.out.drew
       go_region_held3 (fun W => W.cell? ⟨rb, 0, none⟩ = some (.slice (some ⟨g, 0, none⟩) D.S.length cap)) (go_keep)
        (first
         | (refine step_mkA (by rfl) _ _ (by rfl) _ (j + 1) _ M5d.out (by rfl) _ (s.attrs.length - j) (ac - j) (attrCells (s.attrs.drop j)) (by rfl) hT2.out (HN2.out _ _) (attrCells_one _) (by omega) ?_; intro x6 w6 m6; obtain ⟨xa6, xc6, rfl⟩ := own_slice m6.own; have M6 : Hid (MkA w3 w6 (.slice xa6 (j + 1 + (s.attrs.length - j)) xc6) (j + 1 + (s.attrs.length - j)) (attrCells (s.attrs.take j) ++ [.string nm, .string v] ++ attrCells (s.attrs.drop j))) := m6; have hh6 : w6.cell? ⟨rb, 0, none⟩ = some (.slice (some ⟨g, 0, none⟩) D.S.length cap) := (M6.out.bel.cell (p := ⟨rb, 0, none⟩) hrbs).trans hhd; have hc6 : w6.cell? ⟨g, i * 8 + 4, none⟩ = some (.slice (some ⟨b, o, sp⟩) s.attrs.length ac) := (M6.out.bel.cell (p := ⟨g, _, none⟩) hgs.2).trans hc4; have hf6 : w6.frozen? ⟨g, i * 8 + 4, none⟩ = false := (M6.out.bel.frozen (p := ⟨g, _, none⟩) hgs.2).trans hf4; have hg6 : g < w6.heap.size := Nat.lt_of_lt_of_le hgs.2 M6.out.bel.size; clear m6 M5d))
       have HFin : Hid (RPost w Q rb { D with S := D.S.set i { s with attrs := s.attrs.take j ++ [(nm, v)] ++ s.attrs.drop j } } 0 (.returned (.int .i64 0)) (w6.setCell ⟨g, i * 8 + 4, none⟩ (.slice xa6 (j + 1 + (s.attrs.length - j)) xc6))) := by
        refine attrs_new HR0.out HT0.out HS.out HP.out ?_
        rw [attrCells_app, attrCells_app]
        exact M6.out
       go_wp2
       all_goals
        go_ret
        rw [HR2.out, Hz2.out]
        exact HFin.out
theorem rsetA_any (w : World) (Q : Nat -> Prop) (rb : Nat) (D : Dc) (h : Nat) (nm v : ByteArray) (hd : RDoc w Q rb D) (hw : WF D) (hh : h < 18446744073709551616) :
  Calls Tryz.prog 36 #[.pointer (some ⟨rb, 0, none⟩), .int .u64 (h : Int), .string nm, .string v] w (RPost w Q rb (setAttrD D h nm v).1 (setAttrD D h nm v).2) := by
 have hf := hw.fits
 cases ha : atI D.S h with
 | none =>
  have e1 : setAttrD D h nm v = (D, 8) := by simp only [setAttrD, ha]
  rw [e1]
  have hc := change_none w Q rb D h 1 hd hf hh ha
  have HD : Hid (RDoc w Q rb D) := hd
  clear hd ha e1 hw
  go_enter Tryz.func36, Tryz.ntmps36
  go_wp2_with fail
  refine hc.mono ?_
  rintro e w1 ⟨rfl, rfl⟩
  go_wp2
  go_ret
  exact rpost_same HD.out (Below.refl _ _)
 | some i =>
  obtain ⟨s, hsl, hs⟩ := sl_of_at ha
  by_cases hk : s.kind = 1
  ·obtain ⟨hso, hl32⟩ := hw.sort ha hs hk
   by_cases hok : nameL nm.data.toList = true /\ (tans v.data.toList).2 = 0
   ·have hm := rsetA_ok w Q rb D h nm v i s hd hf hh ha hs hk hso hl32 hok.1 hok.2
    have e1 : setAttrD D h nm v = (if hasN s.attrs nm = false /\ 32 <= s.attrs.length then D else { D with S := D.S.set i { s with attrs := setAttrL s.attrs nm v } }, if hasN s.attrs nm = false /\ 32 <= s.attrs.length then 2 else 0) := by
     simp only [setAttrD, ha, hs, hk, hok.1, hok.2, if_true]
     split <;> rfl
    rw [e1]
    exact hm
   ·have hc := change_some w Q rb D h i s hd hf hh ha hs
    rw [hk] at hc
    have hnw := fun W => rname_any W nm
    have htx := fun W => rtext_any W v
    cases hnm : nameL nm.data.toList with
    | false =>
     have e1 : setAttrD D h nm v = (D, 6) := by simp [setAttrD, ha, hs, hk, hnm]
     rw [e1]
     rw [hnm] at hnw
     clear hd ha e1 hs hk hnm hok hso hsl htx hw
     go_enter Tryz.func36, Tryz.ntmps36
     go_wp2_with fail
     refine hc.mono ?_
     rintro e w1 ⟨rfl, ⟨g, cap, ra, rcap, L, hr⟩, ht⟩
     have HR : Hid (RdS w1 w.heap.size Q rb D g cap ra rcap L) := hr
     have HT : Hid (Turn (fun b => b = rb) w w1) := ht
     clear hr ht hc
     go_wp2_with fail
     refine (hnw _).mono ?_
     rintro e w2 ⟨rfl, rfl⟩
     go_wp2
     go_ret
     exact rds_post HR.out HT.out
    | true =>
     have htn : (tans v.data.toList).2 ≠ 0 := fun e => hok ⟨hnm, e⟩
     have e1 : setAttrD D h nm v = (D, (tans v.data.toList).2) := by simp [setAttrD, ha, hs, hk, hnm, htn]
     rw [e1]
     rw [hnm] at hnw
     have hbn : ((tans v.data.toList).2 == 0) = false := beq_eq_false_iff_ne.2 htn
     generalize (tans v.data.toList).1 = y1 at *
     generalize (tans v.data.toList).2 = y2 at *
     clear hd ha e1 hs hk hnm hok hso hsl hw
     go_enter Tryz.func36, Tryz.ntmps36
     go_wp2_with fail
     refine hc.mono ?_
     rintro e w1 ⟨rfl, ⟨g, cap, ra, rcap, L, hr⟩, ht⟩
     have HR : Hid (RdS w1 w.heap.size Q rb D g cap ra rcap L) := hr
     have HT : Hid (Turn (fun b => b = rb) w w1) := ht
     clear hr ht hc
     go_wp2_with fail
     refine (hnw _).mono ?_
     rintro e w2 ⟨rfl, rfl⟩
     clear hnw
     go_wp2_with fail
     refine (htx _).mono ?_
     rintro e w3 ⟨rfl, hb3⟩
     have HX : Hid (RPost w Q rb D y2 (.returned (.int .i64 y2)) w3) := rds_post (HR.out.below hb3) (HT.out.then hb3 HT.out.size)
     clear htx hb3
     go_wp2
     go_ret
     exact HX.out
  ·have e1 : setAttrD D h nm v = (D, 30) := by simp only [setAttrD, ha, hs, if_neg hk]
   rw [e1]
   have hc := change_kind w Q rb D h i s 1 hd hf hh ha hs hk
   have HD : Hid (RDoc w Q rb D) := hd
   clear hd ha e1 hs hk hsl hw
   go_enter Tryz.func36, Tryz.ntmps36
   go_wp2_with fail
   refine hc.mono ?_
   rintro e w1 ⟨rfl, rfl⟩
   go_wp2
   go_ret
   exact rpost_same HD.out (Below.refl _ _)
theorem rdo_1 (w : World) (Q : Nat -> Prop) (rb : Nat) (D : Dc) (nd sp : Nat) (wh : Int) (nm vl : ByteArray) (tk : Int) (tn : ByteArray) (aa : Option Addr) (al ac : Nat) (tt : ByteArray) (ka : Option Addr) (kl kc lev : Nat) (tr : T lev) (lo hi : Nat) (hd : RDoc w Q rb D) (hw : WF D) (htr : TreeAt w lo hi lev #[.int .i64 tk, .string tn, .slice aa al ac, .string tt, .slice ka kl kc] tr) (hhi : hi <= w.heap.size) (hrb : hi <= rb) (hn : nd < 18446744073709551616) (hs : sp < 18446744073709551616) :
  Calls Tryz.prog 17 #[.pointer (some ⟨rb, 0, none⟩), .agg (opv (1) nd sp wh nm vl tk tn aa al ac tt ka kl kc)] w (RPost w Q rb (stepD D ⟨1, nd, sp, wh, nm, vl, lev, tr⟩).1 (stepD D ⟨1, nd, sp, wh, nm, vl, lev, tr⟩).2) := by
 unfold opv
 have HP0 : Hid (RDoc (w.alloc (.cells (opv 1 nd sp wh nm vl tk tn aa al ac tt ka kl kc) 37)) Q rb D) := hd.below (below_new' w _)
 have HRD : Hid (RDoc w Q rb D) := hd
 have hst : stepD D ⟨1, nd, sp, wh, nm, vl, lev, tr⟩ = ((insD D wh sp lev tr).1, insE D wh sp lev tr) := by simp [stepD]
 rw [hst]
 have hcal := rins_any lev _ _ tr lo hi Q rb sp wh D (htr.below (below_new' w _) hhi) (by simp; omega) hrb HP0.out hw hs
 unfold opv at HP0 hcal
 have HB0 : Hid (Below w.heap.size w (w.alloc (.cells #[.int .i64 1, .int .u64 (nd : Int), .int .u64 (sp : Int), .int .i64 wh, .string nm, .string vl, .int .i64 tk, .string tn, .slice aa al ac, .string tt, .slice ka kl kc] 37))) := below_new' w _
 clear hst HP0 htr hd
 go_enter Tryz.func17, Tryz.ntmps17
 go_wp2_with fail
 refine hcal.mono ?_
 rintro e w1 ⟨rfl, ht, hr⟩
 have HD := rpost_from HRD.out HB0.out ht hr
 clear hcal ht hr
 go_wp2
 go_ret
 exact ⟨rfl, HD.1, HD.2⟩
theorem rdo_2 (w : World) (Q : Nat -> Prop) (rb : Nat) (D : Dc) (nd sp : Nat) (wh : Int) (nm vl : ByteArray) (tk : Int) (tn : ByteArray) (aa : Option Addr) (al ac : Nat) (tt : ByteArray) (ka : Option Addr) (kl kc lev : Nat) (tr : T lev) (lo hi : Nat) (hd : RDoc w Q rb D) (hw : WF D) (htr : TreeAt w lo hi lev #[.int .i64 tk, .string tn, .slice aa al ac, .string tt, .slice ka kl kc] tr) (hhi : hi <= w.heap.size) (hrb : hi <= rb) (hn : nd < 18446744073709551616) (hs : sp < 18446744073709551616) :
  Calls Tryz.prog 17 #[.pointer (some ⟨rb, 0, none⟩), .agg (opv (2) nd sp wh nm vl tk tn aa al ac tt ka kl kc)] w (RPost w Q rb (stepD D ⟨2, nd, sp, wh, nm, vl, lev, tr⟩).1 (stepD D ⟨2, nd, sp, wh, nm, vl, lev, tr⟩).2) := by
 unfold opv
 have HP0 : Hid (RDoc (w.alloc (.cells (opv 2 nd sp wh nm vl tk tn aa al ac tt ka kl kc) 37)) Q rb D) := hd.below (below_new' w _)
 have HRD : Hid (RDoc w Q rb D) := hd
 have hst : stepD D ⟨2, nd, sp, wh, nm, vl, lev, tr⟩ = movD D nd wh sp := by simp [stepD]
 rw [hst]
 have hcal := rmov_any _ Q rb D nd wh sp HP0.out hw hn hs
 unfold opv at HP0 hcal
 have HB0 : Hid (Below w.heap.size w (w.alloc (.cells #[.int .i64 2, .int .u64 (nd : Int), .int .u64 (sp : Int), .int .i64 wh, .string nm, .string vl, .int .i64 tk, .string tn, .slice aa al ac, .string tt, .slice ka kl kc] 37))) := below_new' w _
 clear hst HP0 htr hd
 go_enter Tryz.func17, Tryz.ntmps17
 go_wp2_with fail
 refine hcal.mono ?_
 rintro e w1 ⟨rfl, ht, hr⟩
 have HD := rpost_from HRD.out HB0.out ht hr
 clear hcal ht hr
 go_wp2
 go_ret
 exact ⟨rfl, HD.1, HD.2⟩
theorem rdo_3 (w : World) (Q : Nat -> Prop) (rb : Nat) (D : Dc) (nd sp : Nat) (wh : Int) (nm vl : ByteArray) (tk : Int) (tn : ByteArray) (aa : Option Addr) (al ac : Nat) (tt : ByteArray) (ka : Option Addr) (kl kc lev : Nat) (tr : T lev) (lo hi : Nat) (hd : RDoc w Q rb D) (hw : WF D) (htr : TreeAt w lo hi lev #[.int .i64 tk, .string tn, .slice aa al ac, .string tt, .slice ka kl kc] tr) (hhi : hi <= w.heap.size) (hrb : hi <= rb) (hn : nd < 18446744073709551616) (hs : sp < 18446744073709551616) :
  Calls Tryz.prog 17 #[.pointer (some ⟨rb, 0, none⟩), .agg (opv (3) nd sp wh nm vl tk tn aa al ac tt ka kl kc)] w (RPost w Q rb (stepD D ⟨3, nd, sp, wh, nm, vl, lev, tr⟩).1 (stepD D ⟨3, nd, sp, wh, nm, vl, lev, tr⟩).2) := by
 unfold opv
 have HP0 : Hid (RDoc (w.alloc (.cells (opv 3 nd sp wh nm vl tk tn aa al ac tt ka kl kc) 37)) Q rb D) := hd.below (below_new' w _)
 have HRD : Hid (RDoc w Q rb D) := hd
 have hst : stepD D ⟨3, nd, sp, wh, nm, vl, lev, tr⟩ = delD D nd := by simp [stepD]
 rw [hst]
 have hcal := rdel_any _ Q rb D nd HP0.out hw hn
 unfold opv at HP0 hcal
 have HB0 : Hid (Below w.heap.size w (w.alloc (.cells #[.int .i64 3, .int .u64 (nd : Int), .int .u64 (sp : Int), .int .i64 wh, .string nm, .string vl, .int .i64 tk, .string tn, .slice aa al ac, .string tt, .slice ka kl kc] 37))) := below_new' w _
 clear hst HP0 htr hd
 go_enter Tryz.func17, Tryz.ntmps17
 go_wp2_with fail
 refine hcal.mono ?_
 rintro e w1 ⟨rfl, ht, hr⟩
 have HD := rpost_from HRD.out HB0.out ht hr
 clear hcal ht hr
 go_wp2
 go_ret
 exact ⟨rfl, HD.1, HD.2⟩
theorem rdo_4 (w : World) (Q : Nat -> Prop) (rb : Nat) (D : Dc) (nd sp : Nat) (wh : Int) (nm vl : ByteArray) (tk : Int) (tn : ByteArray) (aa : Option Addr) (al ac : Nat) (tt : ByteArray) (ka : Option Addr) (kl kc lev : Nat) (tr : T lev) (lo hi : Nat) (hd : RDoc w Q rb D) (hw : WF D) (htr : TreeAt w lo hi lev #[.int .i64 tk, .string tn, .slice aa al ac, .string tt, .slice ka kl kc] tr) (hhi : hi <= w.heap.size) (hrb : hi <= rb) (hn : nd < 18446744073709551616) (hs : sp < 18446744073709551616) :
  Calls Tryz.prog 17 #[.pointer (some ⟨rb, 0, none⟩), .agg (opv (4) nd sp wh nm vl tk tn aa al ac tt ka kl kc)] w (RPost w Q rb (stepD D ⟨4, nd, sp, wh, nm, vl, lev, tr⟩).1 (stepD D ⟨4, nd, sp, wh, nm, vl, lev, tr⟩).2) := by
 unfold opv
 have HP0 : Hid (RDoc (w.alloc (.cells (opv 4 nd sp wh nm vl tk tn aa al ac tt ka kl kc) 37)) Q rb D) := hd.below (below_new' w _)
 have HRD : Hid (RDoc w Q rb D) := hd
 have hst : stepD D ⟨4, nd, sp, wh, nm, vl, lev, tr⟩ = setNameD D nd nm := by simp [stepD]
 rw [hst]
 have hcal := rsetName_any _ Q rb D nd nm HP0.out hw.fits hn
 unfold opv at HP0 hcal
 have HB0 : Hid (Below w.heap.size w (w.alloc (.cells #[.int .i64 4, .int .u64 (nd : Int), .int .u64 (sp : Int), .int .i64 wh, .string nm, .string vl, .int .i64 tk, .string tn, .slice aa al ac, .string tt, .slice ka kl kc] 37))) := below_new' w _
 clear hst HP0 htr hd
 go_enter Tryz.func17, Tryz.ntmps17
 go_wp2_with fail
 refine hcal.mono ?_
 rintro e w1 ⟨rfl, ht, hr⟩
 have HD := rpost_from HRD.out HB0.out ht hr
 clear hcal ht hr
 go_wp2
 go_ret
 exact ⟨rfl, HD.1, HD.2⟩
theorem rdo_5 (w : World) (Q : Nat -> Prop) (rb : Nat) (D : Dc) (nd sp : Nat) (wh : Int) (nm vl : ByteArray) (tk : Int) (tn : ByteArray) (aa : Option Addr) (al ac : Nat) (tt : ByteArray) (ka : Option Addr) (kl kc lev : Nat) (tr : T lev) (lo hi : Nat) (hd : RDoc w Q rb D) (hw : WF D) (htr : TreeAt w lo hi lev #[.int .i64 tk, .string tn, .slice aa al ac, .string tt, .slice ka kl kc] tr) (hhi : hi <= w.heap.size) (hrb : hi <= rb) (hn : nd < 18446744073709551616) (hs : sp < 18446744073709551616) :
  Calls Tryz.prog 17 #[.pointer (some ⟨rb, 0, none⟩), .agg (opv (5) nd sp wh nm vl tk tn aa al ac tt ka kl kc)] w (RPost w Q rb (stepD D ⟨5, nd, sp, wh, nm, vl, lev, tr⟩).1 (stepD D ⟨5, nd, sp, wh, nm, vl, lev, tr⟩).2) := by
 unfold opv
 have HP0 : Hid (RDoc (w.alloc (.cells (opv 5 nd sp wh nm vl tk tn aa al ac tt ka kl kc) 37)) Q rb D) := hd.below (below_new' w _)
 have HRD : Hid (RDoc w Q rb D) := hd
 have hst : stepD D ⟨5, nd, sp, wh, nm, vl, lev, tr⟩ = setTextD D nd vl := by simp [stepD]
 rw [hst]
 have hcal := rsetText_any _ Q rb D nd vl HP0.out hw.fits hn
 unfold opv at HP0 hcal
 have HB0 : Hid (Below w.heap.size w (w.alloc (.cells #[.int .i64 5, .int .u64 (nd : Int), .int .u64 (sp : Int), .int .i64 wh, .string nm, .string vl, .int .i64 tk, .string tn, .slice aa al ac, .string tt, .slice ka kl kc] 37))) := below_new' w _
 clear hst HP0 htr hd
 go_enter Tryz.func17, Tryz.ntmps17
 go_wp2_with fail
 refine hcal.mono ?_
 rintro e w1 ⟨rfl, ht, hr⟩
 have HD := rpost_from HRD.out HB0.out ht hr
 clear hcal ht hr
 go_wp2
 go_ret
 exact ⟨rfl, HD.1, HD.2⟩
theorem rdo_6 (w : World) (Q : Nat -> Prop) (rb : Nat) (D : Dc) (nd sp : Nat) (wh : Int) (nm vl : ByteArray) (tk : Int) (tn : ByteArray) (aa : Option Addr) (al ac : Nat) (tt : ByteArray) (ka : Option Addr) (kl kc lev : Nat) (tr : T lev) (lo hi : Nat) (hd : RDoc w Q rb D) (hw : WF D) (htr : TreeAt w lo hi lev #[.int .i64 tk, .string tn, .slice aa al ac, .string tt, .slice ka kl kc] tr) (hhi : hi <= w.heap.size) (hrb : hi <= rb) (hn : nd < 18446744073709551616) (hs : sp < 18446744073709551616) :
  Calls Tryz.prog 17 #[.pointer (some ⟨rb, 0, none⟩), .agg (opv (6) nd sp wh nm vl tk tn aa al ac tt ka kl kc)] w (RPost w Q rb (stepD D ⟨6, nd, sp, wh, nm, vl, lev, tr⟩).1 (stepD D ⟨6, nd, sp, wh, nm, vl, lev, tr⟩).2) := by
 unfold opv
 have HP0 : Hid (RDoc (w.alloc (.cells (opv 6 nd sp wh nm vl tk tn aa al ac tt ka kl kc) 37)) Q rb D) := hd.below (below_new' w _)
 have HRD : Hid (RDoc w Q rb D) := hd
 have hst : stepD D ⟨6, nd, sp, wh, nm, vl, lev, tr⟩ = setAttrD D nd nm vl := by simp [stepD]
 rw [hst]
 have hcal := rsetA_any _ Q rb D nd nm vl HP0.out hw hn
 unfold opv at HP0 hcal
 have HB0 : Hid (Below w.heap.size w (w.alloc (.cells #[.int .i64 6, .int .u64 (nd : Int), .int .u64 (sp : Int), .int .i64 wh, .string nm, .string vl, .int .i64 tk, .string tn, .slice aa al ac, .string tt, .slice ka kl kc] 37))) := below_new' w _
 clear hst HP0 htr hd
 go_enter Tryz.func17, Tryz.ntmps17
 go_wp2_with fail
 refine hcal.mono ?_
 rintro e w1 ⟨rfl, ht, hr⟩
 have HD := rpost_from HRD.out HB0.out ht hr
 clear hcal ht hr
 go_wp2
 go_ret
 exact ⟨rfl, HD.1, HD.2⟩
theorem rdo_7 (w : World) (Q : Nat -> Prop) (rb : Nat) (D : Dc) (nd sp : Nat) (wh : Int) (nm vl : ByteArray) (tk : Int) (tn : ByteArray) (aa : Option Addr) (al ac : Nat) (tt : ByteArray) (ka : Option Addr) (kl kc lev : Nat) (tr : T lev) (lo hi : Nat) (hd : RDoc w Q rb D) (hw : WF D) (htr : TreeAt w lo hi lev #[.int .i64 tk, .string tn, .slice aa al ac, .string tt, .slice ka kl kc] tr) (hhi : hi <= w.heap.size) (hrb : hi <= rb) (hn : nd < 18446744073709551616) (hs : sp < 18446744073709551616) :
  Calls Tryz.prog 17 #[.pointer (some ⟨rb, 0, none⟩), .agg (opv (7) nd sp wh nm vl tk tn aa al ac tt ka kl kc)] w (RPost w Q rb (stepD D ⟨7, nd, sp, wh, nm, vl, lev, tr⟩).1 (stepD D ⟨7, nd, sp, wh, nm, vl, lev, tr⟩).2) := by
 unfold opv
 have HP0 : Hid (RDoc (w.alloc (.cells (opv 7 nd sp wh nm vl tk tn aa al ac tt ka kl kc) 37)) Q rb D) := hd.below (below_new' w _)
 have HRD : Hid (RDoc w Q rb D) := hd
 have hst : stepD D ⟨7, nd, sp, wh, nm, vl, lev, tr⟩ = dropD D nd nm := by simp [stepD]
 rw [hst]
 have hcal := rdrop_any _ Q rb D nd nm HP0.out hw hn
 unfold opv at HP0 hcal
 have HB0 : Hid (Below w.heap.size w (w.alloc (.cells #[.int .i64 7, .int .u64 (nd : Int), .int .u64 (sp : Int), .int .i64 wh, .string nm, .string vl, .int .i64 tk, .string tn, .slice aa al ac, .string tt, .slice ka kl kc] 37))) := below_new' w _
 clear hst HP0 htr hd
 go_enter Tryz.func17, Tryz.ntmps17
 go_wp2_with fail
 refine hcal.mono ?_
 rintro e w1 ⟨rfl, ht, hr⟩
 have HD := rpost_from HRD.out HB0.out ht hr
 clear hcal ht hr
 go_wp2
 go_ret
 exact ⟨rfl, HD.1, HD.2⟩
theorem rdo_no (w : World) (Q : Nat -> Prop) (rb : Nat) (D : Dc) (k : Int) (nd sp : Nat) (wh : Int) (nm vl : ByteArray) (tk : Int) (tn : ByteArray) (aa : Option Addr) (al ac : Nat) (tt : ByteArray) (ka : Option Addr) (kl kc lev : Nat) (tr : T lev) (lo hi : Nat) (hd : RDoc w Q rb D) (hw : WF D) (htr : TreeAt w lo hi lev #[.int .i64 tk, .string tn, .slice aa al ac, .string tt, .slice ka kl kc] tr) (hhi : hi <= w.heap.size) (hrb : hi <= rb) (hn : nd < 18446744073709551616) (hs : sp < 18446744073709551616) (hk1 : k ≠ 1) (hk2 : k ≠ 2) (hk3 : k ≠ 3) (hk4 : k ≠ 4) (hk5 : k ≠ 5) (hk6 : k ≠ 6) (hk7 : k ≠ 7):
  Calls Tryz.prog 17 #[.pointer (some ⟨rb, 0, none⟩), .agg (opv k nd sp wh nm vl tk tn aa al ac tt ka kl kc)] w (RPost w Q rb (stepD D ⟨k, nd, sp, wh, nm, vl, lev, tr⟩).1 (stepD D ⟨k, nd, sp, wh, nm, vl, lev, tr⟩).2) := by
 unfold opv
 have HP0 : Hid (RDoc (w.alloc (.cells (opv k nd sp wh nm vl tk tn aa al ac tt ka kl kc) 37)) Q rb D) := hd.below (below_new' w _)
 have HRD : Hid (RDoc w Q rb D) := hd
 have y1 : (k == 1) = false := by simpa using hk1
 have y2 : (k == 2) = false := by simpa using hk2
 have y3 : (k == 3) = false := by simpa using hk3
 have y4 : (k == 4) = false := by simpa using hk4
 have y5 : (k == 5) = false := by simpa using hk5
 have y6 : (k == 6) = false := by simpa using hk6
 have y7 : (k == 7) = false := by simpa using hk7
 have hst : stepD D ⟨k, nd, sp, wh, nm, vl, lev, tr⟩ = (D, 180) := by simp [stepD, hk1, hk2, hk3, hk4, hk5, hk6, hk7]
 rw [hst]
 unfold opv at HP0
 clear hst htr hd hk1 hk2 hk3 hk4 hk5 hk6 hk7
 go_enter Tryz.func17, Tryz.ntmps17
 go_wp2
 go_ret
 exact rpost_same (z := 180) HRD.out (below_new' w _)
theorem rdo_any (w : World) (Q : Nat -> Prop) (rb : Nat) (D : Dc) (x : OpP) (tk : Int) (tn : ByteArray) (aa : Option Addr) (al ac : Nat) (tt : ByteArray) (ka : Option Addr) (kl kc lo hi : Nat) (hd : RDoc w Q rb D) (hw : WF D) (htr : TreeAt w lo hi x.lev #[.int .i64 tk, .string tn, .slice aa al ac, .string tt, .slice ka kl kc] x.tree) (hhi : hi <= w.heap.size) (hrb : hi <= rb) (hn : x.node < 18446744073709551616) (hs : x.spot < 18446744073709551616) :
  Calls Tryz.prog 17 #[.pointer (some ⟨rb, 0, none⟩), .agg (opv x.kind x.node x.spot x.wh x.name x.value tk tn aa al ac tt ka kl kc)] w (RPost w Q rb (stepD D x).1 (stepD D x).2) := by
 obtain ⟨k, nd, sp, wh, nm, vl, lev, tr⟩ := x
 by_cases h1 : k = 1
 ·subst h1; exact rdo_1 w Q rb D nd sp wh nm vl tk tn aa al ac tt ka kl kc lev tr lo hi hd hw htr hhi hrb hn hs
 by_cases h2 : k = 2
 ·subst h2; exact rdo_2 w Q rb D nd sp wh nm vl tk tn aa al ac tt ka kl kc lev tr lo hi hd hw htr hhi hrb hn hs
 by_cases h3 : k = 3
 ·subst h3; exact rdo_3 w Q rb D nd sp wh nm vl tk tn aa al ac tt ka kl kc lev tr lo hi hd hw htr hhi hrb hn hs
 by_cases h4 : k = 4
 ·subst h4; exact rdo_4 w Q rb D nd sp wh nm vl tk tn aa al ac tt ka kl kc lev tr lo hi hd hw htr hhi hrb hn hs
 by_cases h5 : k = 5
 ·subst h5; exact rdo_5 w Q rb D nd sp wh nm vl tk tn aa al ac tt ka kl kc lev tr lo hi hd hw htr hhi hrb hn hs
 by_cases h6 : k = 6
 ·subst h6; exact rdo_6 w Q rb D nd sp wh nm vl tk tn aa al ac tt ka kl kc lev tr lo hi hd hw htr hhi hrb hn hs
 by_cases h7 : k = 7
 ·subst h7; exact rdo_7 w Q rb D nd sp wh nm vl tk tn aa al ac tt ka kl kc lev tr lo hi hd hw htr hhi hrb hn hs
 exact rdo_no w Q rb D k nd sp wh nm vl tk tn aa al ac tt ka kl kc lev tr lo hi hd hw htr hhi hrb hn hs h1 h2 h3 h4 h5 h6 h7
def LodP {n : Nat} (w : World) (L : List (T n)) (e : Ending) (w' : World) : Prop :=
 Below w.heap.size w w' /\ ∃ rb Q, e = .returned (.pointer (some ⟨rb, 0, none⟩)) /\ RDoc w' Q rb (docD L L.length) /\ w.heap.size <= rb
structure LodSt {n : Nat} (w wr : World) (L : List (T n)) (rb i : Nat) : Prop where
 bel : Below w.heap.size w wr
 doc : ∃ Q, RDoc wr Q rb (docD L i)
 sum : ((L.take i).map (ndT n)).sum <= 4096
theorem loaded_any (n : Nat) (w : World) (lo : Nat) (a : Option Addr) (L : List (T n)) (c : Nat) (hk : KidsAt w lo w.heap.size n a L) (hl : L.length <= maxK) (hce : canE L = 0) :
  Calls Tryz.prog 16 #[.slice a L.length c] w (LodP w L) := by
 have HK : Hid (KidsAt w lo w.heap.size n a L) := hk
 obtain ⟨hc1, hc2⟩ := canE_ok hce
 have HCK : Hid (∀ (j : Nat) (t : T n), L[j]? = some t -> (chk n t 1 0).2 = 0) := hc1
 have HSM : Hid ((L.map (ndT n)).sum <= 4096) := hc2
 unfold maxK at hl
 have HS0 : Hid (LodSt w (w.alloc (.cells #[.slice none 0 0, .slice none 0 0] 67)) L w.heap.size 0) := ⟨below_new' w _, ⟨_, rdoc_zero w 67⟩, by simp⟩
 clear hk hce hc1 hc2
 go_enter Tryz.func16, Tryz.ntmps16
 go_wp2
 go_loopw [4] (fun iv wr => ∃ j : Nat, j <= L.length /\ iv = .int .i64 (j : Int) /\ Hid (LodSt w wr L w.heap.size j)) (fun iv _ => L.length - (intOf iv).toNat)
 case atStart => exact ⟨0, by omega, rfl, HS0⟩
 case round =>
  obtain ⟨j, hj, rfl, hst⟩ := hrel
  have hbs := hst.out.bel.size
  clear HS0
  by_cases hlt : j < L.length
  ·obtain ⟨k, hk⟩ : ∃ k, L[j]? = some k := ⟨_, List.getElem?_eq_getElem hlt⟩
   obtain ⟨b, o, kk, nm, a', al', ac', tx, ka2, kl2, kc2, rfl, hb1, hb2, c0, c1, c2, c3, c4, htr⟩ := (HK.out.below hst.out.bel (Nat.le_refl _)).get hk
   obtain ⟨Q, hrd⟩ := hst.out.doc
   have tl : (j : Int) < (L.length : Int) := by omega
   have t0 : (0 : Int) <= (j : Int) := by omega
   have hbr : b < wr.heap.size := by omega
   have hcal := rins_any n wr _ k lo w.heap.size Q w.heap.size 0 2 (docD L j) htr hbs (Nat.le_refl _) hrd (wf_doc L j) (by omega)
   have hnx := docD_next HCK.out hk hst.out.sum
   have HSU : Hid (((L.take (j + 1)).map (ndT n)).sum <= 4096) := by
    show _ <= _
    have := sum_upto (L.map (ndT n)) (j + 1)
    rw [<- List.map_take] at this
    have h2 := HSM.out
    omega
   rw [if_neg (by have := HSU.out; omega)] at hnx
   have hdn := docD_step hk
   rw [hnx, <- hdn] at hcal
   have HB : Hid (Below w.heap.size w wr) := hst.out.bel
   have HR : Hid (RDoc wr Q w.heap.size (docD L j)) := hrd
   generalize (insD (docD L j) 2 0 n k).2 = hh at *
   clear hrd hnx hdn htr hk hst
   go_wp2_with fail
   refine hcal.mono ?_
   rintro e w2 ⟨rfl, ht2, hr2⟩
   have HST2 : Hid (LodSt w w2 L w.heap.size (j + 1)) := ⟨HB.out.trans (ht2.below hbs (fun k hk => by omega)), ⟨_, hr2⟩, HSU.out⟩
   clear hcal ht2 hr2 c0 c1 c2 c3 c4
   go_wp2
   go_roundw
   case rel => exact ⟨j + 1, by omega, by go_num, HST2⟩
   case measure => simp [intOf]; omega
  ·have hje : j = L.length := by omega
   subst hje
   obtain ⟨Q, hrd⟩ := hst.out.doc
   have HR : Hid (RDoc wr Q w.heap.size (docD L L.length)) := hrd
   have HB : Hid (Below w.heap.size w wr) := hst.out.bel
   clear hlt hrd hst
   go_wp2
   go_ret
   exact ⟨HB.out, w.heap.size, Q, rfl, HR.out, Nat.le_refl _⟩
def Siz4All (n : Nat) : Prop := ∀ (w : World) (v : Array Value) (t : T n) (lo hi : Nat), TreeAt w lo hi n v t -> hi <= w.heap.size -> ndT n t <= 4096 ->
 Calls Tryz.prog 30 #[.agg v] w fun e w' => e = .returned (.int .i64 (ndT n t : Int)) /\ Below w.heap.size w w'
theorem size4_any : ∀ (n : Nat), Siz4All n
 | 0 => fun _ _ _ _ _ h => h.elim
 | n + 1 => by
  intro w v t lo hi h hsz hnd
  have ih := size4_any n
  obtain ⟨a, ac, ka, kc, rfl, hal, hkl, hac, hkc, hat, hkt⟩ := id h
  unfold tv at h ⊢
  unfold maxK at hkl
  have HKT : Hid (KidsAt w lo hi n ka t.kids) := hkt
  have HND : Hid (ndT (n + 1) t = ((kidsT t).map (ndT n)).sum + 1) := rfl
  have HBN : Hid (Below w.heap.size w (w.alloc (.cells #[.int .i64 t.kind, .string t.name, .slice a t.attrs.length ac, .string t.text, .slice ka t.kids.length kc] 35))) := below_new' w _
  have HBX : Hid (IsCells (w.alloc (.cells #[.int .i64 t.kind, .string t.name, .slice a t.attrs.length ac, .string t.text, .slice ka t.kids.length kc] 35)) w.heap.size #[.int .i64 t.kind, .string t.name, .slice a t.attrs.length ac, .string t.text, .slice ka t.kids.length kc]) := isCells_new w _ 35
  have hN := HND.out
  generalize ndT (n + 1) t = NN at *
  by_cases hk1 : t.kind = 1
  ·have hkk : kidsT t = t.kids := by simp [kidsT, hk1]
   rw [hkk] at HND hN
   clear hal hac hkc hat hkt h hkk
   rw [hk1] at HBX HBN ⊢
   clear hk1
   generalize t.attrs.length = AL at *
   generalize t.name = NM at *
   generalize t.text = TX at *
   generalize t.kids = L at *
   go_enter Tryz.func30, Tryz.ntmps30
   go_wp2
   go_loopw [3, 4] (fun q iv wr => ∃ (j x : Nat), j <= L.length /\ iv = .int .i64 (j : Int) /\ q = .int .i64 ((x : Int) + 1) /\ x <= 4096 /\ Hid (((L.take j).map (ndT n)).sum = x) /\ Hid (Below w.heap.size w wr) /\ Hid (IsCells wr w.heap.size #[.int .i64 1, .string NM, .slice a AL ac, .string TX, .slice ka L.length kc])) (fun _ iv _ => L.length - (intOf iv).toNat)
   case atStart => exact ⟨0, 0, by omega, rfl, rfl, by omega, rfl, HBN, HBX⟩
   case round =>
    obtain ⟨j, x, hj, rfl, rfl, hx, hsx, hbw, hbx⟩ := hrel
    have hbs := hbw.out.size
    have hc := hbx.out.cell
    have hbl := hbx.out.lt
    clear HBN HBX
    by_cases hlt : j < L.length
    ·obtain ⟨k, hk⟩ : ∃ k, L[j]? = some k := ⟨_, List.getElem?_eq_getElem hlt⟩
     have hkt' := HKT.out.below hbw.out hsz
     obtain ⟨b, o, kk, nm, a', al', ac', tx, ka2, kl2, kc2, rfl, hb1, hb2, c0, c1, c2, c3, c4, htr⟩ := hkt'.get hk
     have hbr : b < wr.heap.size := by omega
     have hnk : x + ndT n k <= 4096 := by
      have h1 := sum_part (L.map (ndT n)) (j + 1)
      rw [<- List.map_take, take_more hk, List.map_append, List.sum_append, hsx.out] at h1
      simp at h1
      omega
     have hih := ih wr _ k lo hi htr (by omega) (by omega)
     have HSX : Hid (((L.take (j + 1)).map (ndT n)).sum = x + ndT n k) := by
      show _ = _
      rw [take_more hk, List.map_append, List.sum_append, hsx.out]
      simp
     generalize ndT n k = p at *
     have tl : (j : Int) < (L.length : Int) := by omega
     have t0 : (0 : Int) <= (j : Int) := by omega
     clear hkt' hk htr hsx
     go_wp2_with fail
     refine hih.mono ?_
     rintro e w2 ⟨rfl, hb2⟩
     have HB2 : Hid (Below w.heap.size w w2) := hbw.out.trans (hb2.mono hbs)
     have HX2 : Hid (IsCells w2 w.heap.size #[.int .i64 1, .string NM, .slice a AL ac, .string TX, .slice _ L.length kc]) := hbx.out.of_block (hb2.block _ hbl)
     clear hb2 hih c0 c1 c2 c3 c4 hbx hc
     go_wp2
     refine ⟨⟨j + 1, x + p, by omega, by go_num, congrArg _ (by omega), by omega, HSX, HB2, HX2⟩, ?_⟩
     simp [intOf]
     omega
    ·have hje : j = L.length := by omega
     subst hje
     have hxe : (NN : Int) = (x : Int) + 1 := by
      have := hsx.out
      rw [List.take_length] at this
      omega
     go_wp2
     go_ret
     exact ⟨congrArg (fun z => Ending.returned (.int .i64 z)) hxe.symm, hbw.out⟩
  ·have hkk : kidsT t = [] := by simp [kidsT, hk1]
   rw [hkk] at HND hN
   have hN1 : NN = 1 := by simpa using hN
   have hb : (t.kind == 1) = false := by simp [hk1]
   subst hN1
   clear hal hac hkc hat hkt h hkk hN HND hk1 HKT
   generalize t.attrs.length = AL at *
   generalize t.name = NM at *
   generalize t.text = TX at *
   generalize t.kids.length = KL at *
   generalize t.kind = K at *
   have hc := HBX.out.cell
   go_enter Tryz.func30, Tryz.ntmps30
   go_wp2
   go_loopw [3, 4] (fun q iv wr => iv = .int .i64 0 /\ q = .int .i64 1 /\ Hid (Below w.heap.size w wr) /\ Hid (IsCells wr w.heap.size #[.int .i64 K, .string NM, .slice a AL ac, .string TX, .slice ka KL kc])) (fun _ _ _ => 0)
   case atStart => exact ⟨rfl, rfl, HBN, HBX⟩
   case round =>
    obtain ⟨rfl, rfl, hbw, hbx⟩ := hrel
    have hc := hbx.out.cell
    have hbl := hbx.out.lt
    clear HBN HBX
    by_cases hlt : 0 < KL
    ·have tl : (0 : Int) < (KL : Int) := by omega
     go_wp2
     go_ret
     exact ⟨rfl, hbw.out⟩
    ·have tl : ¬ (0 : Int) < (KL : Int) := by omega
     go_wp2
     go_ret
     exact ⟨rfl, hbw.out⟩
end Go.Proofs.YtmapmkogjhinmaaGreat
