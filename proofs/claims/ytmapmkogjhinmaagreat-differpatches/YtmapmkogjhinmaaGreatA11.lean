/- link and unlink of the program: a handle put into a list, and taken out. -/
import Derived.Test.YtmapmkogjhinmaaGreatA10
import Derived.Test.YtmapmkogjhinmaaGreatA09
namespace Go.Proofs.YtmapmkogjhinmaaGreat
open Go.RowKit
set_option maxRecDepth 100000
set_option maxHeartbeats 2000000
set_option linter.unusedVariables false
set_option linter.unusedSimpArgs false
structure ListAt (w : World) (ro : Nat -> Nat) (db : Nat) (D : Dc) (p b o : Nat) (la : Option Addr) (lc : Nat) : Prop where
 cell : w.cell? ⟨b, o, none⟩ = some (.slice la (lst D p).length lc)
 fz : w.frozen? ⟨b, o, none⟩ = false
 own : w.ownsRow 0 32 1 (.slice la (lst D p).length lc) (lst D p).length (hvals (lst D p))
 rob : ro b ≠ 0
 lt : b < w.heap.size
 ne : ∀ k, (Value.slice la (lst D p).length lc).ownBlock = some k -> k ≠ b /\ ro k ≠ 0
 put : ∀ w' l' a' c', w.grownBy w' (Value.slice la (lst D p).length lc).ownBlock -> w'.ownsRow 0 32 1 (.slice a' l'.length c') l'.length (hvals l') -> (∀ k, (Value.slice a' l'.length c').ownBlock = some k -> (Value.slice la (lst D p).length lc).ownBlock = some k \/ w.heap.size <= k) ->
  ∃ ro', PDoc (w'.setCell ⟨b, o, none⟩ (.slice a' l'.length c')) ro' db (setL D p l') /\ ∀ k, ro' k ≠ 0 -> ro k ≠ 0 \/ w.heap.size <= k
def ListP (w : World) (b o : Nat) (e : Ending) (w' : World) : Prop := e = .returned (.pointer (some ⟨b, o, none⟩)) /\ Below w.heap.size w w'
theorem list_at {w : World} {ro : Nat -> Nat} {db : Nat} {D : Dc} (hd : PDoc w ro db D) (hf : Fits D) {p : Nat} (hpl : p < 18446744073709551616) (hp : p = 0 \/ ∃ s, sl D p = some s) :
  ∃ b o la lc, ListAt w ro db D p b o la lc /\ ∀ W, Below w.heap.size w W -> Calls Tryz.prog 84 #[.pointer (some ⟨db, 0, none⟩), .int .u64 (p : Int)] W (ListP W b o) := by
 obtain ⟨sa, scap, ra, rcap, L, h⟩ := hd
 by_cases h0 : p = 0
 ·subst h0
  have hl : lst D 0 = D.roots := by simp [lst]
  refine ⟨db, 1, ra, rcap, ⟨by rw [hl, h.head.cell]; rfl, h.head.frozen 1, by rw [hl]; exact h.roots, by rw [h.rdb]; omega, h.head.lt, fun k hk => ?_, fun w' l' a' c' h1 h2 h3 => ?_⟩, fun W hW => ?_⟩
  ·rw [hl] at hk
   have := h.rr k hk
   exact ⟨by rintro rfl; rw [h.rdb] at this; omega, by omega⟩
  ·rw [hl] at h1 h3
   refine ⟨_, ⟨_, _, _, _, _, (by rw [setL_zero]; exact h.newRoots h1 h2 h3)⟩, fun k hk => roN_from (by omega) h.rr h3 hk⟩
  ·clear h
   go_enter Tryz.func84, Tryz.ntmps84
   go_wp2
   go_ret
   exact ⟨rfl, Below.refl _ _⟩
 ·obtain ⟨s, hs⟩ := hp.resolve_left h0
  obtain ⟨i, ha, hi, -, -⟩ := sl_live hs
  obtain ⟨g, q, rfl, hg2, hq, hcap, hhd, hcl⟩ := h.slot hi
  have hl : lst D p = s.kids := by simp [lst, h0, hs]
  obtain ⟨v1, v2⟩ := h.vals i s q hi hq
  obtain ⟨ka, kc, e2⟩ := own_slice v2
  obtain ⟨c7, f7⟩ := hcl 7 _ rfl
  rw [e2] at c7
  refine ⟨g, i * 8 + 7, ka, kc, ⟨by rw [hl]; exact c7, f7, by rw [hl, <- e2]; exact v2, by omega, h.lt g (by omega), fun k hk => ?_, fun w' l' a' c' h1 h2 h3 => ?_⟩, fun W hW => ?_⟩
  ·rw [hl, <- e2] at hk
   have := h.rk i q k hq hk
   exact ⟨by rintro rfl; omega, by omega⟩
  ·rw [hl, <- e2] at h1 h3
   refine ⟨_, ⟨_, _, _, _, _, (by rw [setL_some h0 ha hi]; exact h.newKids hi hq h1 h2 h3)⟩, fun k hk => roN_from (by omega) (fun b hb => h.rk i q b hq hb) h3 hk⟩
  ·have hfd := find_some W _ db D p i (h.view.below hW) hf hpl ha g 0 scap ((hW.cell (p := ⟨db, 0, none⟩) h.head.lt).trans hhd)
   rw [Nat.zero_add] at hfd
   have hq0 : decide ((p : Int) = 0) = false := by simp; omega
   have hq1 : ¬ ((p : Int) = 0) := by omega
   have hq2 : ((p : Int) == 0) = false := by simp; omega
   clear h hcl v1 v2 c7 f7 hhd
   go_enter Tryz.func84, Tryz.ntmps84
   go_wp2_with fail
   refine hfd.mono ?_
   rintro e w1 ⟨rfl, hb⟩
   have HB : Hid (Below W.heap.size W w1) := hb
   clear hfd hb
   go_wp2
   go_ret
   exact ⟨rfl, HB.out⟩
theorem ListAt.below {w W : World} {ro : Nat -> Nat} {db : Nat} {D : Dc} {p b o : Nat} {la : Option Addr} {lc : Nat} (h : ListAt w ro db D p b o la lc) (hb : Below w.heap.size w W) :
  W.cell? ⟨b, o, none⟩ = some (.slice la (lst D p).length lc) /\ W.frozen? ⟨b, o, none⟩ = false /\ W.ownsRow 0 32 1 (.slice la (lst D p).length lc) (lst D p).length (hvals (lst D p)) :=
 ⟨(hb.cell (p := ⟨b, o, none⟩) h.lt).trans h.cell, (hb.frozen (p := ⟨b, o, none⟩) h.lt).trans h.fz, own_of_block h.own (fun k hk => hb.block k (own_block_lt h.own k hk).2)⟩
def LinkP (w : World) (ro : Nat -> Nat) (db : Nat) (D' : Dc) (e : Ending) (w' : World) : Prop :=
 e = .returned (.tuple #[]) /\ Turn (fun b => ro b ≠ 0) w w' /\ ∃ ro', PDoc w' ro' db D' /\ ∀ b, ro' b ≠ 0 -> ro b ≠ 0 \/ w.heap.size <= b
theorem grown_of {a b c : World} {k : Option Nat} (h : Below a.heap.size a b) (g : b.grownBy c k) : a.grownBy c k :=
 ⟨g.os.trans h.os, g.tape.trans h.tape, g.output.trans h.output, Nat.le_trans h.size g.size, fun j hj hne => (g.block j (Nat.lt_of_lt_of_le hj h.size) hne).trans (h.block j hj)⟩
theorem ListAt.stored {w X Y : World} {ro : Nat -> Nat} {db : Nat} {D : Dc} {p b o : Nat} {la : Option Addr} {lc : Nat} (h : ListAt w ro db D p b o la lc) (hb : Below w.heap.size w X) {l' : List Nat} {v : Value} (hv : ∃ a c, v = .slice a l'.length c) (hg : X.grownBy Y (Value.slice la (lst D p).length lc).ownBlock) (hown : Y.ownsRow 0 32 1 v l'.length (hvals l'))
  (hk : ∀ k, v.ownBlock = some k -> (Value.slice la (lst D p).length lc).ownBlock = some k \/ X.heap.size <= k) : LinkP w ro db (setL D p l') (.returned (.tuple #[])) (Y.setCell ⟨b, o, none⟩ v) := by
 obtain ⟨a, c, rfl⟩ := hv
 have hG := grown_of hb hg
 obtain ⟨ro', h1, h2⟩ := h.put Y l' a c hG hown (fun k hk' => (hk k hk').imp id (fun h => Nat.le_trans hb.size h))
 refine ⟨rfl, ?_, ro', h1, h2⟩
 refine Turn.setCell (A := fun b => ro b ≠ 0) ⟨hG.os, hG.tape, hG.output, hG.size, fun k hk' hne => hG.block k hk' (fun e => hne (h.ne k e.symm).2)⟩ (p := ⟨b, o, none⟩) h.rob _
theorem hvals_take (l : List Nat) (k : Nat) : hvals (l.take k) = (hvals l).take k := by simp [hvals]
theorem hvals_drop (l : List Nat) (k : Nat) : hvals (l.drop k) = (hvals l).drop k := by simp [hvals]
theorem unlink_any (w : World) (ro : Nat -> Nat) (db : Nat) (D : Dc) (n : Nat) (s : Sl) (hd : PDoc w ro db D) (hw : WF D) (hs : sl D n = some s) :
  Calls Tryz.prog 52 #[.pointer (some ⟨db, 0, none⟩), .int .u64 (n : Int)] w (LinkP w ro db (outD D n s)) := by
 obtain ⟨hnl, _, i, ha, hi, _⟩ := hw.lt hs
 have hmem := hw.up n s hs
 obtain ⟨k, hk, hkn, hkl⟩ := idxH_mem hmem
 have hpp : s.parent = 0 \/ ∃ q, sl D s.parent = some q := by
  obtain ⟨lv, hl⟩ := hw.lev
  exact (dep_par hl hs).2
 have hpl : s.parent < 18446744073709551616 := by
  rcases hpp with e | ⟨q, e⟩
  ·omega
  ·exact (hw.lt e).1
 obtain ⟨b, o, la, lc, hla, hlc⟩ := list_at hd hw.fits hpl hpp
 have hll := lst_len hw hpp
 obtain ⟨sa, scap, ra, rcap, L, hpd⟩ := hd
 obtain ⟨g, q, rfl, hg2, hq, hcap, hhd, hcl⟩ := hpd.slot hi
 have hfd := find_some w _ db D n i hpd.view hw.fits hnl ha g 0 scap hhd
 rw [Nat.zero_add] at hfd
 have hgl := hpd.lt g (by omega)
 obtain ⟨c6, f6⟩ := hcl 6 _ rfl
 have HO : Hid (outD D n s = setL D s.parent ((lst D s.parent).take k ++ (lst D s.parent).drop (k + 1))) := by
  show _ = _
  unfold outD
  rw [hk]
  simp
 rw [HO.out]
 have HLA : Hid (ListAt w ro db D s.parent b o la lc) := hla
 have Hk : Hid (idxH (lst D s.parent) n = (k : Int)) := hk
 have HLC : Hid (∀ W, Below w.heap.size w W -> Calls Tryz.prog 84 #[.pointer (some ⟨db, 0, none⟩), .int .u64 (s.parent : Int)] W (ListP W b o)) := hlc
 have hb1 := hvals_one (lst D s.parent)
 have hvl := hvals_length (lst D s.parent)
 clear hpd hla hk hlc hcl hhd hkn hmem hs
 go_enter Tryz.func52, Tryz.ntmps52
 go_wp2_with fail
 refine hfd.mono ?_
 rintro e w1 ⟨rfl, hb⟩
 have c6' : w1.cell? ⟨g, i * 8 + 6, none⟩ = some (.int .u64 (s.parent : Int)) := (hb.cell (p := ⟨g, i * 8 + 6, none⟩) hgl).trans c6
 have HB1 : Hid (Below w.heap.size w w1) := hb
 have hl1 := HLC.out w1 hb
 clear hfd hb c6
 go_wp2_with fail
 refine hl1.mono ?_
 rintro e w2 ⟨rfl, hb2⟩
 have HB2 : Hid (Below w.heap.size w w2) := HB1.out.trans (hb2.mono HB1.out.size)
 obtain ⟨d1, d2, d3⟩ := HLA.out.below HB2.out
 obtain ⟨ha2, hc2, e2, hc3, hat⟩ := hands_row (R := fun _ => True) d3 (fun _ _ => trivial)
 cases e2
 have hix := index_any w2 _ la (lst D s.parent) lc n hat (by omega) (k : Int) Hk.out
 have hdel := H.delete_any w2 0 la (lst D s.parent).length lc k (hvals (lst D s.parent)) d3 hb1 (by omega) hkl
 have HD3 : Hid (w2.ownsRow 0 32 1 (.slice la (lst D s.parent).length lc) (lst D s.parent).length (hvals (lst D s.parent))) := d3
 have Hat : Hid (HandsAt w2 (fun _ => True) la (lst D s.parent)) := hat
 have hk8 : (k : Int) < 4096 := by omega
 clear hl1 hb2 d3 hat
 go_wp2_with fail
 refine hix.mono ?_
 rintro e w2' ⟨rfl, rfl⟩
 clear hix
 go_wp2_with fail
 refine hdel.mono ?_
 rintro e w3 ⟨rfl, k1, k2⟩
 have hblt := HLA.out.lt
 have hbn : (Value.slice la (lst D s.parent).length lc).ownBlock ≠ some b := fun e => (HLA.out.ne b e).1 rfl
 have e3 : w3.cell? ⟨b, o, none⟩ = some (.slice la (lst D s.parent).length lc) := (World.cell?_of_block (w := w2') (a := ⟨b, o, none⟩) (k2.block b (Nat.lt_of_lt_of_le hblt HB2.out.size) (fun e => hbn e.symm))).trans d1
 have f3 : w3.frozen? ⟨b, o, none⟩ = false := (World.frozen?_of_block (w := w2') (a := ⟨b, o, none⟩) (k2.block b (Nat.lt_of_lt_of_le hblt HB2.out.size) (fun e => hbn e.symm))).trans d2
 have HK1 : Hid (w3.ownsRow 0 32 1 (.slice la ((lst D s.parent).length - 1) lc) ((lst D s.parent).length - 1) (hvals ((lst D s.parent).take k ++ (lst D s.parent).drop (k + 1)))) := by
  show World.ownsRow _ _ _ _ _ _ _
  rw [hvals_append, hvals_take, hvals_drop]
  simpa using k1
 have HK2 : Hid (w2'.grownBy w3 (Value.slice la (lst D s.parent).length lc).ownBlock) := k2
 have HLn : Hid (((lst D s.parent).take k ++ (lst D s.parent).drop (k + 1)).length = (lst D s.parent).length - 1) := by show _ = _; simp; omega
 have HBK : Hid (∀ j, (Value.slice la ((lst D s.parent).length - 1) lc).ownBlock = some j -> (Value.slice la (lst D s.parent).length lc).ownBlock = some j \/ w2'.heap.size <= j) := fun j hj => .inl (by
  cases la with
  | none => exact hj
  | some ad => exact hj)
 clear hdel k1 k2 hbn
 go_wp2
 go_end0
 have h1 := HK1.out
 rw [<- HLn.out] at h1
 have h2 := HBK.out
 rw [<- HLn.out] at h2 ⊢
 exact HLA.out.stored HB2.out ⟨_, _, rfl⟩ HK2.out h1 h2
theorem link_first (w : World) (ro : Nat -> Nat) (db : Nat) (D : Dc) (n a p : Nat) (hd : PDoc w ro db D) (hf : Fits D) (hal : a < 18446744073709551616) (hpl : p < 18446744073709551616) (hpp : p = 0 \/ ∃ s, sl D p = some s) (hll : (lst D p).length <= 4096) (har : arD D 1 a = p) :
  Calls Tryz.prog 48 #[.pointer (some ⟨db, 0, none⟩), .int .u64 (n : Int), .int .i64 1, .int .u64 (a : Int)] w (LinkP w ro db (setL D p (ins (lst D p) 0 n))) := by
 obtain ⟨b, o, la, lc, hla, hlc⟩ := list_at hd hf hpl hpp
 have har' := around_any w _ db D 1 a hd.view hf hal (fun h => by rcases h with h | h <;> cases h)
 rw [har] at har'
 have HLA : Hid (ListAt w ro db D p b o la lc) := hla
 have HLC : Hid (∀ W, Below w.heap.size w W -> Calls Tryz.prog 84 #[.pointer (some ⟨db, 0, none⟩), .int .u64 (p : Int)] W (ListP W b o)) := hlc
 have hb1 := hvals_one (lst D p)
 have hvl := hvals_length (lst D p)
 clear hla hlc hd har
 go_enter Tryz.func48, Tryz.ntmps48
 go_wp2_with fail
 refine har'.mono ?_
 rintro e w1 ⟨rfl, hb⟩
 have HB1 : Hid (Below w.heap.size w w1) := hb
 have hl1 := HLC.out w1 hb
 clear har' hb
 go_wp2_with fail
 refine hl1.mono ?_
 rintro e w2 ⟨rfl, hb2⟩
 have HB2 : Hid (Below w.heap.size w w2) := HB1.out.trans (hb2.mono HB1.out.size)
 obtain ⟨d1, d2, d3⟩ := HLA.out.below HB2.out
 have hll' : ((lst D p).length : Int) <= 4096 := by omega
 have hbl : b < w2.heap.size := Nat.lt_of_lt_of_le HLA.out.lt HB2.out.size
 have hX : (w2.alloc (.cells #[.int .u64 (n : Int)] 32)).heap[w2.heap.size]? = some (.cells [.int .u64 (n : Int)].toArray 32 (0, 0)) := heap_alloc_new w2 _
 have hins := H.insert_any (w2.alloc (.cells #[.int .u64 (n : Int)] 32)) 0 la (lst D p).length lc w2.heap.size 0 (hvals (lst D p)) [.int .u64 (n : Int)] (own_of_block d3 (fun k hk => Below.heap_alloc _ _ _ (own_block_lt d3 k hk).2)) hX rfl (by intro u hu; simp at hu; subst hu; rfl) hb1 (by omega) (Nat.zero_le _) (by omega) (fun e => by have := (own_block_lt d3 _ e).2; omega)
 have HBX : Hid (Below w.heap.size w (w2.alloc (.cells #[.int .u64 (n : Int)] 32))) := HB2.out.alloc HB2.out.size _
 have hbn : (Value.slice la (lst D p).length lc).ownBlock ≠ some b := fun e => (HLA.out.ne b e).1 rfl
 have HFin : Hid (∀ e w4, H.InsP (w2.alloc (.cells #[.int .u64 (n : Int)] 32)) 0 (.slice la (lst D p).length lc) (lst D p).length 0 (hvals (lst D p)) [.int .u64 (n : Int)] e w4 -> ∃ va vc, e = .returned (.slice va ((lst D p).length + 1) vc) /\ w4.cell? ⟨b, o, none⟩ = some (.slice la (lst D p).length lc) /\ w4.frozen? ⟨b, o, none⟩ = false /\ LinkP w ro db (setL D p (ins (lst D p) 0 n)) (.returned (.tuple #[])) (w4.setCell ⟨b, o, none⟩ (.slice va ((lst D p).length + 1) vc))) := fun e w4 h => by
  obtain ⟨v, he, k1, k2, k3⟩ := h
  obtain ⟨va, vc, rfl⟩ := own_slice k1
  have hbk := k2.block b (by simp; omega) (fun e => hbn e.symm)
  have hlen : (ins (lst D p) 0 n).length = (lst D p).length + 1 := by simp [ins] <;> omega
  refine ⟨va, vc, he, (World.cell?_of_block (w := w2) (a := ⟨b, o, none⟩) (hbk.trans (Below.heap_alloc _ _ _ hbl))).trans d1, (World.frozen?_of_block (w := w2) (a := ⟨b, o, none⟩) (hbk.trans (Below.heap_alloc _ _ _ hbl))).trans d2, HLA.out.stored HBX.out ⟨va, vc, by rw [hlen]⟩ k2 ?_ (fun j hj => ?_)⟩
  ·rw [hlen, ins, hvals_append, hvals_append, hvals_take, hvals_drop]
   simpa [hvals] using k1
  ·rcases k3 with k3 | k3
   ·exact .inl (by rw [<- k3]; exact hj)
   ·rw [k3] at hj
    cases hj
    exact .inr (Nat.le_refl _)
 clear hl1 hb2 d2 d3 hX hbn
 go_wp2_with fail
 refine hins.mono ?_
 rintro e w4 h4
 obtain ⟨va, vc, rfl, c4, f4, h5⟩ := HFin.out e w4 h4
 have H5 : Hid (LinkP w ro db _ (.returned (.tuple #[])) (w4.setCell ⟨b, o, none⟩ (.slice va ((lst D p).length + 1) vc))) := h5
 clear hins h4 h5 HFin d1
 go_wp2
 go_end0
 exact H5.out
theorem link_last (w : World) (ro : Nat -> Nat) (db : Nat) (D : Dc) (n a p : Nat) (hd : PDoc w ro db D) (hf : Fits D) (hal : a < 18446744073709551616) (hpl : p < 18446744073709551616) (hpp : p = 0 \/ ∃ s, sl D p = some s) (hll : (lst D p).length <= 4096) (har : arD D 2 a = p) :
  Calls Tryz.prog 48 #[.pointer (some ⟨db, 0, none⟩), .int .u64 (n : Int), .int .i64 2, .int .u64 (a : Int)] w (LinkP w ro db (setL D p (ins (lst D p) (lst D p).length n))) := by
 obtain ⟨b, o, la, lc, hla, hlc⟩ := list_at hd hf hpl hpp
 have har' := around_any w _ db D 2 a hd.view hf hal (fun h => by rcases h with h | h <;> cases h)
 rw [har] at har'
 have HLA : Hid (ListAt w ro db D p b o la lc) := hla
 have HLC : Hid (∀ W, Below w.heap.size w W -> Calls Tryz.prog 84 #[.pointer (some ⟨db, 0, none⟩), .int .u64 (p : Int)] W (ListP W b o)) := hlc
 have hb1 := hvals_one (lst D p)
 have hvl := hvals_length (lst D p)
 clear hla hlc hd har
 go_enter Tryz.func48, Tryz.ntmps48
 go_wp2_with fail
 refine har'.mono ?_
 rintro e w1 ⟨rfl, hb⟩
 have HB1 : Hid (Below w.heap.size w w1) := hb
 have hl1 := HLC.out w1 hb
 clear har' hb
 go_wp2_with fail
 refine hl1.mono ?_
 rintro e w2 ⟨rfl, hb2⟩
 have HB2 : Hid (Below w.heap.size w w2) := HB1.out.trans (hb2.mono HB1.out.size)
 obtain ⟨d1, d2, d3⟩ := HLA.out.below HB2.out
 have hll' : ((lst D p).length : Int) <= 4096 := by omega
 have hbl : b < w2.heap.size := Nat.lt_of_lt_of_le HLA.out.lt HB2.out.size
 have hX : (w2.alloc (.cells #[.int .u64 (n : Int)] 32)).heap[w2.heap.size]? = some (.cells [.int .u64 (n : Int)].toArray 32 (0, 0)) := heap_alloc_new w2 _
 have hins := H.insert_any (w2.alloc (.cells #[.int .u64 (n : Int)] 32)) 0 la (lst D p).length lc w2.heap.size (lst D p).length (hvals (lst D p)) [.int .u64 (n : Int)] (own_of_block d3 (fun k hk => Below.heap_alloc _ _ _ (own_block_lt d3 k hk).2)) hX rfl (by intro u hu; simp at hu; subst hu; rfl) hb1 (by omega) (Nat.zero_le _) (by omega) (fun e => by have := (own_block_lt d3 _ e).2; omega)
 have HBX : Hid (Below w.heap.size w (w2.alloc (.cells #[.int .u64 (n : Int)] 32))) := HB2.out.alloc HB2.out.size _
 have hbn : (Value.slice la (lst D p).length lc).ownBlock ≠ some b := fun e => (HLA.out.ne b e).1 rfl
 have HFin : Hid (∀ e w4, H.InsP (w2.alloc (.cells #[.int .u64 (n : Int)] 32)) 0 (.slice la (lst D p).length lc) (lst D p).length (lst D p).length (hvals (lst D p)) [.int .u64 (n : Int)] e w4 -> ∃ va vc, e = .returned (.slice va ((lst D p).length + 1) vc) /\ w4.cell? ⟨b, o, none⟩ = some (.slice la (lst D p).length lc) /\ w4.frozen? ⟨b, o, none⟩ = false /\ LinkP w ro db (setL D p (ins (lst D p) (lst D p).length n)) (.returned (.tuple #[])) (w4.setCell ⟨b, o, none⟩ (.slice va ((lst D p).length + 1) vc))) := fun e w4 h => by
  obtain ⟨v, he, k1, k2, k3⟩ := h
  obtain ⟨va, vc, rfl⟩ := own_slice k1
  have hbk := k2.block b (by simp; omega) (fun e => hbn e.symm)
  have hlen : (ins (lst D p) (lst D p).length n).length = (lst D p).length + 1 := by simp [ins] <;> omega
  refine ⟨va, vc, he, (World.cell?_of_block (w := w2) (a := ⟨b, o, none⟩) (hbk.trans (Below.heap_alloc _ _ _ hbl))).trans d1, (World.frozen?_of_block (w := w2) (a := ⟨b, o, none⟩) (hbk.trans (Below.heap_alloc _ _ _ hbl))).trans d2, HLA.out.stored HBX.out ⟨va, vc, by rw [hlen]⟩ k2 ?_ (fun j hj => ?_)⟩
  ·rw [hlen, ins, hvals_append, hvals_append, hvals_take, hvals_drop]
   simpa [hvals] using k1
  ·rcases k3 with k3 | k3
   ·exact .inl (by rw [<- k3]; exact hj)
   ·rw [k3] at hj
    cases hj
    exact .inr (Nat.le_refl _)
 clear hl1 hb2 d2 d3 hX hbn
 go_wp2_with fail
 refine hins.mono ?_
 rintro e w4 h4
 obtain ⟨va, vc, rfl, c4, f4, h5⟩ := HFin.out e w4 h4
 have H5 : Hid (LinkP w ro db _ (.returned (.tuple #[])) (w4.setCell ⟨b, o, none⟩ (.slice va ((lst D p).length + 1) vc))) := h5
 clear hins h4 h5 HFin d1
 go_wp2
 go_end0
 exact H5.out
theorem link_before (w : World) (ro : Nat -> Nat) (db : Nat) (D : Dc) (n a p : Nat) (hd : PDoc w ro db D) (hf : Fits D) (hal : a < 18446744073709551616) (hpl : p < 18446744073709551616) (hpp : p = 0 \/ ∃ s, sl D p = some s) (hll : (lst D p).length <= 4096) (har : arD D 3 a = p) (hmem : a ∈ lst D p) (hsa : ∃ s, sl D a = some s) :
  Calls Tryz.prog 48 #[.pointer (some ⟨db, 0, none⟩), .int .u64 (n : Int), .int .i64 3, .int .u64 (a : Int)] w (LinkP w ro db (setL D p (ins (lst D p) (idxH (lst D p) a).toNat n))) := by
 obtain ⟨b, o, la, lc, hla, hlc⟩ := list_at hd hf hpl hpp
 obtain ⟨k, hk, hkn, hkl⟩ := idxH_mem hmem
 have Hk : Hid (idxH (lst D p) a = (k : Int)) := hk
 have e0 : (idxH (lst D p) a).toNat = k := by rw [hk]; simp
 rw [e0]
 clear hk e0
 have har' := around_any w _ db D 3 a hd.view hf hal (fun _ => hsa)
 rw [har] at har'
 have HLA : Hid (ListAt w ro db D p b o la lc) := hla
 have HLC : Hid (∀ W, Below w.heap.size w W -> Calls Tryz.prog 84 #[.pointer (some ⟨db, 0, none⟩), .int .u64 (p : Int)] W (ListP W b o)) := hlc
 have hb1 := hvals_one (lst D p)
 have hvl := hvals_length (lst D p)
 clear hla hlc hd har
 go_enter Tryz.func48, Tryz.ntmps48
 go_wp2_with fail
 refine har'.mono ?_
 rintro e w1 ⟨rfl, hb⟩
 have HB1 : Hid (Below w.heap.size w w1) := hb
 have hl1 := HLC.out w1 hb
 clear har' hb
 go_wp2_with fail
 refine hl1.mono ?_
 rintro e w2 ⟨rfl, hb2⟩
 have HB2 : Hid (Below w.heap.size w w2) := HB1.out.trans (hb2.mono HB1.out.size)
 obtain ⟨d1, d2, d3⟩ := HLA.out.below HB2.out
 have hll' : ((lst D p).length : Int) <= 4096 := by omega
 obtain ⟨ha2, hc2, e2, hc3, hat⟩ := hands_row (R := fun _ => True) d3 (fun _ _ => trivial)
 cases e2
 have hix := index_any w2 _ la (lst D p) lc a hat (by omega) (k : Int) Hk.out
 have hk8 : (k : Int) < 4096 := by omega
 clear hat
 have hbl : b < w2.heap.size := Nat.lt_of_lt_of_le HLA.out.lt HB2.out.size
 have hX : (w2.alloc (.cells #[.int .u64 (n : Int)] 32)).heap[w2.heap.size]? = some (.cells [.int .u64 (n : Int)].toArray 32 (0, 0)) := heap_alloc_new w2 _
 have hins := H.insert_any (w2.alloc (.cells #[.int .u64 (n : Int)] 32)) 0 la (lst D p).length lc w2.heap.size k (hvals (lst D p)) [.int .u64 (n : Int)] (own_of_block d3 (fun k hk => Below.heap_alloc _ _ _ (own_block_lt d3 k hk).2)) hX rfl (by intro u hu; simp at hu; subst hu; rfl) hb1 (by omega) (Nat.zero_le _) (by omega) (fun e => by have := (own_block_lt d3 _ e).2; omega)
 have HBX : Hid (Below w.heap.size w (w2.alloc (.cells #[.int .u64 (n : Int)] 32))) := HB2.out.alloc HB2.out.size _
 have hbn : (Value.slice la (lst D p).length lc).ownBlock ≠ some b := fun e => (HLA.out.ne b e).1 rfl
 have HFin : Hid (∀ e w4, H.InsP (w2.alloc (.cells #[.int .u64 (n : Int)] 32)) 0 (.slice la (lst D p).length lc) (lst D p).length k (hvals (lst D p)) [.int .u64 (n : Int)] e w4 -> ∃ va vc, e = .returned (.slice va ((lst D p).length + 1) vc) /\ w4.cell? ⟨b, o, none⟩ = some (.slice la (lst D p).length lc) /\ w4.frozen? ⟨b, o, none⟩ = false /\ LinkP w ro db (setL D p (ins (lst D p) k n)) (.returned (.tuple #[])) (w4.setCell ⟨b, o, none⟩ (.slice va ((lst D p).length + 1) vc))) := fun e w4 h => by
  obtain ⟨v, he, k1, k2, k3⟩ := h
  obtain ⟨va, vc, rfl⟩ := own_slice k1
  have hbk := k2.block b (by simp; omega) (fun e => hbn e.symm)
  have hlen : (ins (lst D p) k n).length = (lst D p).length + 1 := by simp [ins] <;> omega
  refine ⟨va, vc, he, (World.cell?_of_block (w := w2) (a := ⟨b, o, none⟩) (hbk.trans (Below.heap_alloc _ _ _ hbl))).trans d1, (World.frozen?_of_block (w := w2) (a := ⟨b, o, none⟩) (hbk.trans (Below.heap_alloc _ _ _ hbl))).trans d2, HLA.out.stored HBX.out ⟨va, vc, by rw [hlen]⟩ k2 ?_ (fun j hj => ?_)⟩
  ·rw [hlen, ins, hvals_append, hvals_append, hvals_take, hvals_drop]
   simpa [hvals] using k1
  ·rcases k3 with k3 | k3
   ·exact .inl (by rw [<- k3]; exact hj)
   ·rw [k3] at hj
    cases hj
    exact .inr (Nat.le_refl _)
 clear hl1 hb2 d2 d3 hX hbn
 go_wp2_with fail
 refine hix.mono ?_
 rintro e w2' ⟨rfl, rfl⟩
 clear hix
 go_wp2_with fail
 refine hins.mono ?_
 rintro e w4 h4
 obtain ⟨va, vc, rfl, c4, f4, h5⟩ := HFin.out e w4 h4
 have H5 : Hid (LinkP w ro db _ (.returned (.tuple #[])) (w4.setCell ⟨b, o, none⟩ (.slice va ((lst D p).length + 1) vc))) := h5
 clear hins h4 h5 HFin d1
 go_wp2
 go_end0
 exact H5.out
theorem link_after (w : World) (ro : Nat -> Nat) (db : Nat) (D : Dc) (n a p : Nat) (hd : PDoc w ro db D) (hf : Fits D) (hal : a < 18446744073709551616) (hpl : p < 18446744073709551616) (hpp : p = 0 \/ ∃ s, sl D p = some s) (hll : (lst D p).length <= 4096) (har : arD D 4 a = p) (hmem : a ∈ lst D p) (hsa : ∃ s, sl D a = some s) :
  Calls Tryz.prog 48 #[.pointer (some ⟨db, 0, none⟩), .int .u64 (n : Int), .int .i64 4, .int .u64 (a : Int)] w (LinkP w ro db (setL D p (ins (lst D p) ((idxH (lst D p) a).toNat + 1) n))) := by
 obtain ⟨b, o, la, lc, hla, hlc⟩ := list_at hd hf hpl hpp
 obtain ⟨k, hk, hkn, hkl⟩ := idxH_mem hmem
 have Hk : Hid (idxH (lst D p) a = (k : Int)) := hk
 have e0 : (idxH (lst D p) a).toNat = k := by rw [hk]; simp
 rw [e0]
 clear hk e0
 have har' := around_any w _ db D 4 a hd.view hf hal (fun _ => hsa)
 rw [har] at har'
 have HLA : Hid (ListAt w ro db D p b o la lc) := hla
 have HLC : Hid (∀ W, Below w.heap.size w W -> Calls Tryz.prog 84 #[.pointer (some ⟨db, 0, none⟩), .int .u64 (p : Int)] W (ListP W b o)) := hlc
 have hb1 := hvals_one (lst D p)
 have hvl := hvals_length (lst D p)
 clear hla hlc hd har
 go_enter Tryz.func48, Tryz.ntmps48
 go_wp2_with fail
 refine har'.mono ?_
 rintro e w1 ⟨rfl, hb⟩
 have HB1 : Hid (Below w.heap.size w w1) := hb
 have hl1 := HLC.out w1 hb
 clear har' hb
 go_wp2_with fail
 refine hl1.mono ?_
 rintro e w2 ⟨rfl, hb2⟩
 have HB2 : Hid (Below w.heap.size w w2) := HB1.out.trans (hb2.mono HB1.out.size)
 obtain ⟨d1, d2, d3⟩ := HLA.out.below HB2.out
 have hll' : ((lst D p).length : Int) <= 4096 := by omega
 obtain ⟨ha2, hc2, e2, hc3, hat⟩ := hands_row (R := fun _ => True) d3 (fun _ _ => trivial)
 cases e2
 have hix := index_any w2 _ la (lst D p) lc a hat (by omega) (k : Int) Hk.out
 have hk8 : (k : Int) < 4096 := by omega
 clear hat
 have hbl : b < w2.heap.size := Nat.lt_of_lt_of_le HLA.out.lt HB2.out.size
 have hX : (w2.alloc (.cells #[.int .u64 (n : Int)] 32)).heap[w2.heap.size]? = some (.cells [.int .u64 (n : Int)].toArray 32 (0, 0)) := heap_alloc_new w2 _
 have hins := H.insert_any (w2.alloc (.cells #[.int .u64 (n : Int)] 32)) 0 la (lst D p).length lc w2.heap.size (k + 1) (hvals (lst D p)) [.int .u64 (n : Int)] (own_of_block d3 (fun k hk => Below.heap_alloc _ _ _ (own_block_lt d3 k hk).2)) hX rfl (by intro u hu; simp at hu; subst hu; rfl) hb1 (by omega) (Nat.zero_le _) (by omega) (fun e => by have := (own_block_lt d3 _ e).2; omega)
 have HBX : Hid (Below w.heap.size w (w2.alloc (.cells #[.int .u64 (n : Int)] 32))) := HB2.out.alloc HB2.out.size _
 have hbn : (Value.slice la (lst D p).length lc).ownBlock ≠ some b := fun e => (HLA.out.ne b e).1 rfl
 have HFin : Hid (∀ e w4, H.InsP (w2.alloc (.cells #[.int .u64 (n : Int)] 32)) 0 (.slice la (lst D p).length lc) (lst D p).length (k + 1) (hvals (lst D p)) [.int .u64 (n : Int)] e w4 -> ∃ va vc, e = .returned (.slice va ((lst D p).length + 1) vc) /\ w4.cell? ⟨b, o, none⟩ = some (.slice la (lst D p).length lc) /\ w4.frozen? ⟨b, o, none⟩ = false /\ LinkP w ro db (setL D p (ins (lst D p) (k + 1) n)) (.returned (.tuple #[])) (w4.setCell ⟨b, o, none⟩ (.slice va ((lst D p).length + 1) vc))) := fun e w4 h => by
  obtain ⟨v, he, k1, k2, k3⟩ := h
  obtain ⟨va, vc, rfl⟩ := own_slice k1
  have hbk := k2.block b (by simp; omega) (fun e => hbn e.symm)
  have hlen : (ins (lst D p) (k + 1) n).length = (lst D p).length + 1 := by simp [ins] <;> omega
  refine ⟨va, vc, he, (World.cell?_of_block (w := w2) (a := ⟨b, o, none⟩) (hbk.trans (Below.heap_alloc _ _ _ hbl))).trans d1, (World.frozen?_of_block (w := w2) (a := ⟨b, o, none⟩) (hbk.trans (Below.heap_alloc _ _ _ hbl))).trans d2, HLA.out.stored HBX.out ⟨va, vc, by rw [hlen]⟩ k2 ?_ (fun j hj => ?_)⟩
  ·rw [hlen, ins, hvals_append, hvals_append, hvals_take, hvals_drop]
   simpa [hvals] using k1
  ·rcases k3 with k3 | k3
   ·exact .inl (by rw [<- k3]; exact hj)
   ·rw [k3] at hj
    cases hj
    exact .inr (Nat.le_refl _)
 clear hl1 hb2 d2 d3 hX hbn
 go_wp2_with fail
 refine hix.mono ?_
 rintro e w2' ⟨rfl, rfl⟩
 clear hix
 go_wp2_with fail
 refine hins.mono ?_
 rintro e w4 h4
 obtain ⟨va, vc, rfl, c4, f4, h5⟩ := HFin.out e w4 h4
 have H5 : Hid (LinkP w ro db _ (.returned (.tuple #[])) (w4.setCell ⟨b, o, none⟩ (.slice va ((lst D p).length + 1) vc))) := h5
 clear hins h4 h5 HFin d1
 go_wp2
 go_end0
 exact H5.out
def movD (D : Dc) (n : Nat) (wh : Int) (a : Nat) : Dc × Int :=
 if isPlaceB wh a = false then (D, 1) else match sl D n with
 | none => (D, 8)
 | some s => if (placeE D wh a).2 = 8 then (D, 8) else if (ups D a).contains n = true then (D, 34) else if (placeE D wh a).2 ≠ 0 then (D, (placeE D wh a).2)
  else if 64 < (ups D (placeE D wh a).1).length + hgt D n then (D, 32) else (putD (outD D n s) n (placeE D wh a).1 wh a, 0)
theorem placeE_live {D : Dc} (hw : WF D) {wh : Int} {a : Nat} (he : (placeE D wh a).2 = 0) : ((placeE D wh a).1 = 0 \/ ∃ s, sl D (placeE D wh a).1 = some s) /\ (a = 0 \/ ∃ s, sl D a = some s) /\ (¬ wh <= 2 -> a ≠ 0 -> a ∈ lst D (placeE D wh a).1) := by
 unfold placeE at *
 by_cases h0 : a = 0
 ·rw [if_pos h0]
  exact ⟨.inl rfl, .inl h0, fun _ h => absurd h0 h⟩
 ·rw [if_neg h0] at he ⊢
  cases hs : sl D a with
  | none => rw [hs] at he; simp at he
  | some s =>
   rw [hs] at he
   simp only at he ⊢
   refine ⟨?_, .inr ⟨s, rfl⟩, ?_⟩
   ·by_cases h2 : wh <= 2
    ·rw [if_pos h2] at he ⊢
     by_cases h3 : s.kind = 2
     ·rw [if_pos h3] at he; simp at he
     ·rw [if_neg h3]; exact .inr ⟨s, hs⟩
    ·rw [if_neg h2]
     obtain ⟨lv, hl⟩ := hw.lev
     exact (dep_par hl hs).2
   ·intro h2 _
    rw [if_neg h2]
    exact hw.up a s hs
theorem rmov_ok (w : World) (Q : Nat -> Prop) (rb : Nat) (D : Dc) (n : Nat) (wh : Int) (a : Nat) (s : Sl) (p : Nat) (hd : RDoc w Q rb D) (hw : WF D) (hh : n < 18446744073709551616) (hal : a < 18446744073709551616) (hs : sl D n = some s) (hpl : isPlaceB wh a = true) (hpe : placeE D wh a = (p, 0)) (hup : (ups D a).contains n = false) (hht : ¬ 64 < (ups D p).length + hgt D n) :
  Calls Tryz.prog 32 #[.pointer (some ⟨rb, 0, none⟩), .int .u64 (n : Int), .int .i64 wh, .int .u64 (a : Int)] w (RPost w Q rb (putD (outD D n s) n p wh a) 0) := by
 obtain ⟨lv, hl⟩ := hw.lev
 have hpz := placeE_live hw (wh := wh) (a := a) (by rw [hpe])
 rw [hpe] at hpz
 obtain ⟨hp1, ha1, hin⟩ := hpz
 replace hp1 : p = 0 \/ ∃ s, sl D p = some s := hp1
 replace hin : ¬ wh <= 2 -> a ≠ 0 -> a ∈ lst D p := hin
 obtain ⟨-, hn0, i, hai, hsi, -⟩ := hw.lt hs
 have hpl2 := hw.ltz hp1
 obtain ⟨k, hk, hkx, hkl⟩ := idxH_mem (hw.up n s hs)
 have hsm : (atI D.S n).isSome = true := by simp [hai]
 have hplc := rplace_any w _ rb D wh a hd.view hw hal hpl
 rw [hpe] at hplc
 have HLV : Hid (∀ W, Below w.heap.size w W -> Calls Tryz.prog 68 #[.pointer (some ⟨rb, 0, none⟩), .int .u64 (n : Int)] W fun e w' => e = .returned (.bool true) /\ w' = W) := fun W hb => by
  have := rlive_any W _ rb D n (hd.view.below hb) hw.fits hh
  rw [hsm] at this
  exact this
 have HWI : Hid (∀ W, Below w.heap.size w W -> Calls Tryz.prog 69 #[.pointer (some ⟨rb, 0, none⟩), .int .u64 (a : Int), .int .u64 (n : Int)] W fun e w' => e = .returned (.bool false) /\ Below W.heap.size W w') := fun W hb => rwithin_any W _ rb D a n (hd.view.below hb) hw ha1 (by omega) false hup
 have HSU : Hid (∀ W, Below w.heap.size w W -> Calls Tryz.prog 38 #[.pointer (some ⟨rb, 0, none⟩), .int .u64 (n : Int)] W (SubP W (fun b => Q b \/ b = rb) 64 (subT D 63 n))) := fun W hb => rsub_any D _ rb lv hw hl 63 W n s (hd.view.below hb) hs (by omega)
 have HLE : Hid (∀ W, Below w.heap.size w W -> Calls Tryz.prog 64 #[.pointer (some ⟨rb, 0, none⟩), .int .u64 (p : Int)] W fun e w' => e = .returned (.int .i64 (((ups D p).length : Int) - 1)) /\ Below W.heap.size W w') := fun W hb => rlevel_any W _ rb D p (hd.view.below hb) hw hp1
 have HCO := sub_counts hw hl 63 n s hs (by omega)
 obtain ⟨HOK, HNDE, HHTE⟩ := HCO
 have hnd : ndT 64 (subT D 63 n) <= 4096 := by rw [HNDE]; exact (kids_len hw hs).2
 have hhg : hgt D n <= 64 := hgts_le D 64 n
 have HSZ : Hid (∀ (W : World) (v : Array Value) (hi : Nat), TreeAt W 0 hi 64 v (subT D 63 n) -> hi <= W.heap.size -> Calls Tryz.prog 63 #[.agg v] W (MeaP W (ndT 64 (subT D 63 n)) (hgt D n))) := fun W v hi ht hle => by
  have := rsizeT_any 64 W v (subT D 63 n) 0 hi ht hle HOK hnd (by rw [HHTE]; omega)
  rw [HHTE] at this
  exact this
 have e1 : outD D n s = setL D s.parent ((lst D s.parent).take k ++ (lst D s.parent).drop (k + 1)) := by unfold outD; rw [hk, Int.toNat_natCast]
 have hsp := (dep_par hl hs).2
 have HROUT : Hid (∀ w base Q rb g cap ra rcap L, RdS w base Q rb D g cap ra rcap L -> Calls Tryz.prog 70 #[.pointer (some ⟨rb, 0, none⟩), .int .u64 (n : Int)] w (OutP w base Q rb (outD D n s) g cap)) := fun w base Q rb g cap ra rcap L hr => by
  rw [e1]
  exact rout_any w base Q rb D g cap ra rcap L n s k hr hw hs hk hkl
 have hmem : ∀ x ∈ lst D p, x ≠ n -> x ∈ lst (outD D n s) p := fun x hx hxn => by
  rw [e1]
  by_cases hps : p = s.parent
  ·rw [hps, lst_setL_eq hsp]
   exact mem_cut hkx (by rw [<- hps]; exact hx) hxn
  ·rw [lst_setL_ne hps]
   exact hx
 have hlen : (lst (outD D n s) p).length <= 4096 := by
  have hlp : (lst D p).length <= 4096 := lst_len hw hp1
  rw [e1]
  by_cases hps : p = s.parent
  ·rw [hps, lst_setL_eq hsp]
   rw [hps] at hlp
   simp only [List.length_append, List.length_take, List.length_drop]
   omega
  ·rw [lst_setL_ne hps]
   exact hlp
 have hlive : ∀ x, (∃ t, sl D x = some t) -> ∃ t, sl (outD D n s) x = some t := fun x ⟨t, ht⟩ => by
  obtain ⟨t', h1, _⟩ := sl_setL (p := s.parent) (l' := (lst D s.parent).take k ++ (lst D s.parent).drop (k + 1)) ht
  rw [e1]
  exact ⟨t', h1⟩
 obtain ⟨sn, hsn⟩ := hlive n ⟨s, hs⟩
 obtain ⟨i1, hai1, -, -, -⟩ := sl_live hsn
 have hwh : wh = 1 \/ wh = 2 \/ ((wh = 3 \/ wh = 4) /\ a ∈ lst (outD D n s) p) := by
  simp only [isPlaceB, decide_eq_true_eq] at hpl
  rcases hpl with h | h | ⟨h, ha0⟩
  ·exact .inl h
  ·exact .inr (.inl h)
  ·refine .inr (.inr ⟨h, hmem a (hin (by omega) ha0) ?_⟩)
   rintro rfl
   rw [ups_step hl hs] at hup
   simp at hup
 have hpp1 : p = 0 \/ ∃ t, sl (outD D n s) p = some t := by
  rcases hp1 with h | h
  ·exact .inl h
  ·exact .inr (hlive p h)
 have HRPUT : Hid (∀ w base Q rb g cap ra rcap L, RdS w base Q rb (outD D n s) g cap ra rcap L -> Calls Tryz.prog 67 #[.pointer (some ⟨rb, 0, none⟩), .int .u64 (n : Int), .int .u64 (p : Int), .int .i64 wh, .int .u64 (a : Int)] w (OutP w base Q rb (putD (outD D n s) n p wh a) g cap)) := fun w base Q rb g cap ra rcap L hr =>
  rput_any w base Q rb (outD D n s) g cap ra rcap L n p a i1 wh hr (by rw [e1]; exact hw.fits.setL _ _) hpp1 hpl2 hh hlen hai1 hwh
 have hul : (ups D p).length <= 64 := by rw [ups_length hl hp1]; exact dep_le hl hp1
 have hl4 := hw.fits.len
 have hrb := hd.rbl
 have HQL : Hid (∀ b, Q b -> b < w.heap.size) := hd.lt
 have HNRB : Hid (¬ Q rb) := hd.nrb
 have HDB : Hid (∀ W, Below w.heap.size w W -> RDoc W Q rb D) := fun W hb => hd.below hb
 clear hd hai hsi hsm hs hkx hk hw hkl hl hp1 ha1 hin HOK HNDE HHTE hmem hlen hlive hsn hai1 hwh hpp1 e1 hsp hpe hpl hup
 generalize putD (outD D n s) n p wh a = E2 at *
 generalize outD D n s = E1 at *
 generalize subT D 63 n = tr at *
 generalize hUU : (ups D p).length = U at *
 generalize hgt D n = HG at *
 generalize ndT 64 tr = ND at *
 clear hUU
 by_cases h0 : a = 0
 ·have hz : ((a : Int) != 0) = false := by simp [h0]
  clear h0
  go_enter Tryz.func32, Tryz.ntmps32
  go_wp2_with fail
  refine hplc.mono ?_
  rintro e w1 ⟨rfl, hb1⟩
  have hlv := HLV.out w1 hb1
  have HB1 : Hid (Below w.heap.size w w1) := hb1
  have hs1 := hb1.size
  clear hb1 hplc
  go_wp2_with fail
  refine hlv.mono ?_
  rintro e w2 ⟨rfl, rfl⟩
  clear hlv
  have hsu := HSU.out w2 HB1.out
  go_wp2_with fail
  refine hsu.mono ?_
  rintro e w4 ⟨u, rfl, htu, hb4⟩
  have hsz0 := HB1.out.size
  have hs4 := hb4.size
  have HB4 : Hid (Below w.heap.size w w4) := HB1.out.trans (hb4.mono hsz0)
  have htat : TreeAt w4 0 w4.heap.size 64 u tr := (htu.to (R' := fun b => 0 <= b /\ b < w4.heap.size) (fun b hb => ⟨Nat.zero_le _, by
   rcases hb with (hb | hb) | hb
   ·have := HQL.out b hb; omega
   ·omega
   ·exact hb.2⟩) (fun _ _ _ => rfl)).toAt
  obtain ⟨kk', nm', a'', al'', ac'', tx', ka3, kl3, kc3, rfl⟩ := htu.form
  have hsz := HSZ.out (w4.alloc (.cells #[.int .i64 kk', .string nm', .slice a'' al'' ac'', .string tx', .slice ka3 kl3 kc3] 35)) _ w4.heap.size (htat.below (below_new' w4 _) (Nat.le_refl _)) (by simp)
  clear htu htat hb4 hsu
  go_wp2_with fail
  refine hsz.mono ?_
  rintro e w5 ⟨rfl, hb5⟩
  have hs5 : w4.heap.size + 1 <= w5.heap.size := by have := hb5.size; simpa using this
  have HB5 : Hid (Below w.heap.size w w5) := (HB4.out.alloc (by omega) _).trans (hb5.mono (by simp; omega))
  have hle := HLE.out w5 HB5.out
  clear hb5 hsz
  go_wp2_with fail
  refine hle.mono ?_
  rintro e w6 ⟨rfl, hb6⟩
  have hs6 := hb6.size
  have HB6 : Hid (Below w.heap.size w w6) := HB5.out.trans (hb6.mono (by omega))
  have hd1 := HDB.out w6 HB6.out
  obtain ⟨sa, scap, ra, rcap, hh1, hsc, hrc, hsl, hra⟩ := hd1.head
  obtain ⟨L, hL, hv, hnews⟩ := hsl.row
  have hz0 : w6.cell? ⟨rb, 0, none⟩ = some (.slice sa D.S.length scap) := by rw [hh1.cell]; rfl
  have HD : Hid (RDoc w6 Q rb D) := hd1
  have HH : Hid (IsCells w6 rb #[.slice sa D.S.length scap, .slice ra D.roots.length rcap]) := hh1
  have HRA : Hid (HandsAt w6 Q ra D.roots) := hra
  have HV : Hid (∀ (i : Nat) (s : Sl) (p : Value × Value), D.S[i]? = some s -> L[i]? = some p -> SlotVals w6 Q s p) := hv
  have HL : Hid (L.length = D.S.length) := hL
  have HN : Hid (∀ j u, (rowOf D.S L)[j]? = some u -> ∃ ad, sa = some ad /\ (w6.alloc (.cells #[] 90)).cell? (ad.add j) = some u) := fun j u hu => by
   obtain ⟨ad, e1, e2⟩ := hnews j u hu
   refine ⟨ad, e1, ?_⟩
   rw [World.cell?_of_block (w := w6) (Below.heap_alloc _ _ _ (World.block_lt_of_cell? w6 _ e2))]
   exact e2
  clear hd1 hh1 hra hv hL hnews hsl hb6 HDB hle HLE HSZ HSU HWI HLV
  have hrb1 : rb < w6.heap.size := by omega
  have tok : True := trivial
  go_wp2_with (at_builtin; have _t := tok; refine wpList_app rfl _ _ rfl Tryz.underlying55 info75 rfl (by decide) w6.heap.size (.slice (some ⟨w6.heap.size, 0, none⟩) 0 0) 0 [] rfl (own_new w6 90 8) sa D.S.length scap (rowOf D.S L) rfl (rowOf_len HL.out) HN.out (rows_vals HV.out) (by unfold maxLen; omega) (by omega) (by simp) ?_; intro v1 w7 hown1 hg1 hnil1 hat1; clear tok _t; rw [Nat.zero_add, List.nil_append] at hown1; obtain ⟨g, cap2, hv1, hrds, htn, hhd⟩ := HD.out.copied HH.out hrc HRA.out HL.out HV.out (below_new' w6 _) (fun k hk => by simp only [Value.ownBlock, Option.some.injEq] at hk; omega) (by simp) hown1 hg1 hnil1; subst hv1; have hc0 := hhd.cell; have hf0 := hhd.frozen; have HRS : Hid (RdS (w7.setCell ⟨rb, 0, none⟩ (.slice (some ⟨g, 0, none⟩) D.S.length cap2)) w6.heap.size Q rb D g cap2 ra rcap L) := hrds; have HT : Hid (Turn (fun b => b = rb) w6 (w7.setCell ⟨rb, 0, none⟩ (.slice (some ⟨g, 0, none⟩) D.S.length cap2))) := htn; have hgb := hrds.gb; clear hrds htn hown1 hg1 hnil1 hat1 hhd)
  refine (HROUT.out _ _ _ _ _ _ _ _ _ HRS.out).mono ?_
  rintro e w8 ⟨rfl, ⟨Q', ra', rcap', L', hr8, hq8⟩, ht8⟩
  have hsz2 := HT.out.size
  have hsz8 := ht8.size
  have HT8 : Hid (Turn (fun b => b = rb) w6 w8) := ((HT.out.mono (B := fun b => b = rb \/ b = g) (fun _ _ h => .inl h)).trans ht8).mono (fun b hb h => by
   rcases h with h | h
   ·exact h
   ·omega)
  have HQ8 : Hid (∀ b, Q' b -> Q b \/ w.heap.size <= b) := fun b hb => by
   rcases hq8 b hb with h | h
   ·exact .inl h
   ·exact .inr (by omega)
  have hput := HRPUT.out _ _ _ _ _ _ _ _ _ hr8
  clear hr8 hq8 ht8 HRS HT HROUT hc0 hf0 HN HL HV HRA HH HD hz0 hrc hsc
  go_wp2_with fail
  refine hput.mono ?_
  rintro e w9 ⟨rfl, ⟨Q9, ra9, rcap9, L9, hr9, hq9⟩, ht9⟩
  have hsz9 := ht9.size
  have HT9 : Hid (Turn (fun b => b = rb) w6 w9) := ((HT8.out.mono (B := fun b => b = rb \/ b = g) (fun _ _ h => .inl h)).trans ht9).mono (fun b hb h => by
   rcases h with h | h
   ·exact h
   ·omega)
  have HQ9 : Hid (∀ b, Q9 b -> Q b \/ w.heap.size <= b) := fun b hb => by
   rcases hq9 b hb with h | h
   ·exact HQ8.out b h
   ·exact .inr (by omega)
  have HR9 : Hid (RdS w9 w6.heap.size Q9 rb E2 g cap2 ra9 rcap9 L9) := hr9
  clear hr9 hq9 ht9 hput HRPUT
  go_wp2
  go_ret
  exact HR9.out.close HB6.out HT9.out HQ9.out HQL.out HNRB.out hrb
 ·have hz : ((a : Int) != 0) = true := by simp; omega
  clear h0
  go_enter Tryz.func32, Tryz.ntmps32
  go_wp2_with fail
  refine hplc.mono ?_
  rintro e w1 ⟨rfl, hb1⟩
  have hlv := HLV.out w1 hb1
  have HB1 : Hid (Below w.heap.size w w1) := hb1
  have hs1 := hb1.size
  clear hb1 hplc
  go_wp2_with fail
  refine hlv.mono ?_
  rintro e w2 ⟨rfl, rfl⟩
  clear hlv
  have hwi := HWI.out w2 HB1.out
  go_wp2_with fail
  refine hwi.mono ?_
  rintro e w3 ⟨rfl, hb3⟩
  have hs3 := hb3.size
  have HB3 : Hid (Below w.heap.size w w3) := HB1.out.trans (hb3.mono hs1)
  clear hb3 hwi
  have hsu := HSU.out w3 HB3.out
  go_wp2_with fail
  refine hsu.mono ?_
  rintro e w4 ⟨u, rfl, htu, hb4⟩
  have hsz0 := HB3.out.size
  have hs4 := hb4.size
  have HB4 : Hid (Below w.heap.size w w4) := HB3.out.trans (hb4.mono hsz0)
  have htat : TreeAt w4 0 w4.heap.size 64 u tr := (htu.to (R' := fun b => 0 <= b /\ b < w4.heap.size) (fun b hb => ⟨Nat.zero_le _, by
   rcases hb with (hb | hb) | hb
   ·have := HQL.out b hb; omega
   ·omega
   ·exact hb.2⟩) (fun _ _ _ => rfl)).toAt
  obtain ⟨kk', nm', a'', al'', ac'', tx', ka3, kl3, kc3, rfl⟩ := htu.form
  have hsz := HSZ.out (w4.alloc (.cells #[.int .i64 kk', .string nm', .slice a'' al'' ac'', .string tx', .slice ka3 kl3 kc3] 35)) _ w4.heap.size (htat.below (below_new' w4 _) (Nat.le_refl _)) (by simp)
  clear htu htat hb4 hsu
  go_wp2_with fail
  refine hsz.mono ?_
  rintro e w5 ⟨rfl, hb5⟩
  have hs5 : w4.heap.size + 1 <= w5.heap.size := by have := hb5.size; simpa using this
  have HB5 : Hid (Below w.heap.size w w5) := (HB4.out.alloc (by omega) _).trans (hb5.mono (by simp; omega))
  have hle := HLE.out w5 HB5.out
  clear hb5 hsz
  go_wp2_with fail
  refine hle.mono ?_
  rintro e w6 ⟨rfl, hb6⟩
  have hs6 := hb6.size
  have HB6 : Hid (Below w.heap.size w w6) := HB5.out.trans (hb6.mono (by omega))
  have hd1 := HDB.out w6 HB6.out
  obtain ⟨sa, scap, ra, rcap, hh1, hsc, hrc, hsl, hra⟩ := hd1.head
  obtain ⟨L, hL, hv, hnews⟩ := hsl.row
  have hz0 : w6.cell? ⟨rb, 0, none⟩ = some (.slice sa D.S.length scap) := by rw [hh1.cell]; rfl
  have HD : Hid (RDoc w6 Q rb D) := hd1
  have HH : Hid (IsCells w6 rb #[.slice sa D.S.length scap, .slice ra D.roots.length rcap]) := hh1
  have HRA : Hid (HandsAt w6 Q ra D.roots) := hra
  have HV : Hid (∀ (i : Nat) (s : Sl) (p : Value × Value), D.S[i]? = some s -> L[i]? = some p -> SlotVals w6 Q s p) := hv
  have HL : Hid (L.length = D.S.length) := hL
  have HN : Hid (∀ j u, (rowOf D.S L)[j]? = some u -> ∃ ad, sa = some ad /\ (w6.alloc (.cells #[] 90)).cell? (ad.add j) = some u) := fun j u hu => by
   obtain ⟨ad, e1, e2⟩ := hnews j u hu
   refine ⟨ad, e1, ?_⟩
   rw [World.cell?_of_block (w := w6) (Below.heap_alloc _ _ _ (World.block_lt_of_cell? w6 _ e2))]
   exact e2
  clear hd1 hh1 hra hv hL hnews hsl hb6 HDB hle HLE HSZ HSU HWI HLV
  have hrb1 : rb < w6.heap.size := by omega
  have tok : True := trivial
  go_wp2_with (at_builtin; have _t := tok; refine wpList_app rfl _ _ rfl Tryz.underlying55 info75 rfl (by decide) w6.heap.size (.slice (some ⟨w6.heap.size, 0, none⟩) 0 0) 0 [] rfl (own_new w6 90 8) sa D.S.length scap (rowOf D.S L) rfl (rowOf_len HL.out) HN.out (rows_vals HV.out) (by unfold maxLen; omega) (by omega) (by simp) ?_; intro v1 w7 hown1 hg1 hnil1 hat1; clear tok _t; rw [Nat.zero_add, List.nil_append] at hown1; obtain ⟨g, cap2, hv1, hrds, htn, hhd⟩ := HD.out.copied HH.out hrc HRA.out HL.out HV.out (below_new' w6 _) (fun k hk => by simp only [Value.ownBlock, Option.some.injEq] at hk; omega) (by simp) hown1 hg1 hnil1; subst hv1; have hc0 := hhd.cell; have hf0 := hhd.frozen; have HRS : Hid (RdS (w7.setCell ⟨rb, 0, none⟩ (.slice (some ⟨g, 0, none⟩) D.S.length cap2)) w6.heap.size Q rb D g cap2 ra rcap L) := hrds; have HT : Hid (Turn (fun b => b = rb) w6 (w7.setCell ⟨rb, 0, none⟩ (.slice (some ⟨g, 0, none⟩) D.S.length cap2))) := htn; have hgb := hrds.gb; clear hrds htn hown1 hg1 hnil1 hat1 hhd)
  refine (HROUT.out _ _ _ _ _ _ _ _ _ HRS.out).mono ?_
  rintro e w8 ⟨rfl, ⟨Q', ra', rcap', L', hr8, hq8⟩, ht8⟩
  have hsz2 := HT.out.size
  have hsz8 := ht8.size
  have HT8 : Hid (Turn (fun b => b = rb) w6 w8) := ((HT.out.mono (B := fun b => b = rb \/ b = g) (fun _ _ h => .inl h)).trans ht8).mono (fun b hb h => by
   rcases h with h | h
   ·exact h
   ·omega)
  have HQ8 : Hid (∀ b, Q' b -> Q b \/ w.heap.size <= b) := fun b hb => by
   rcases hq8 b hb with h | h
   ·exact .inl h
   ·exact .inr (by omega)
  have hput := HRPUT.out _ _ _ _ _ _ _ _ _ hr8
  clear hr8 hq8 ht8 HRS HT HROUT hc0 hf0 HN HL HV HRA HH HD hz0 hrc hsc
  go_wp2_with fail
  refine hput.mono ?_
  rintro e w9 ⟨rfl, ⟨Q9, ra9, rcap9, L9, hr9, hq9⟩, ht9⟩
  have hsz9 := ht9.size
  have HT9 : Hid (Turn (fun b => b = rb) w6 w9) := ((HT8.out.mono (B := fun b => b = rb \/ b = g) (fun _ _ h => .inl h)).trans ht9).mono (fun b hb h => by
   rcases h with h | h
   ·exact h
   ·omega)
  have HQ9 : Hid (∀ b, Q9 b -> Q b \/ w.heap.size <= b) := fun b hb => by
   rcases hq9 b hb with h | h
   ·exact HQ8.out b h
   ·exact .inr (by omega)
  have HR9 : Hid (RdS w9 w6.heap.size Q9 rb E2 g cap2 ra9 rcap9 L9) := hr9
  clear hr9 hq9 ht9 hput HRPUT
  go_wp2
  go_ret
  exact HR9.out.close HB6.out HT9.out HQ9.out HQL.out HNRB.out hrb
theorem placeE_err (D : Dc) (wh : Int) (a : Nat) : (placeE D wh a).2 = 0 \/ (placeE D wh a).2 = 8 \/ (placeE D wh a).2 = 31 := by
 unfold placeE
 split
 ·exact .inl rfl
 ·split
  ·exact .inr (.inl rfl)
  ·split
   ·split
    ·exact .inr (.inr rfl)
    ·exact .inl rfl
   ·exact .inl rfl
theorem placeE_at {D : Dc} {wh : Int} {a : Nat} (h : (placeE D wh a).2 ≠ 8) : a = 0 \/ ∃ s, sl D a = some s := by
 unfold placeE at h
 by_cases h0 : a = 0
 ·exact .inl h0
 ·rw [if_neg h0] at h
  cases hs : sl D a with
  | none => rw [hs] at h; simp at h
  | some s => exact .inr ⟨s, rfl⟩
theorem rmov_arg (w : World) (Q : Nat -> Prop) (rb : Nat) (D : Dc) (n : Nat) (wh : Int) (a : Nat) (hd : RDoc w Q rb D) (hpl : isPlaceB wh a = false) :
  Calls Tryz.prog 32 #[.pointer (some ⟨rb, 0, none⟩), .int .u64 (n : Int), .int .i64 wh, .int .u64 (a : Int)] w (RPost w Q rb D 1) := by
 have hplc := rplace_arg w rb wh a hpl
 have HD : Hid (RDoc w Q rb D) := hd
 clear hd hpl
 go_enter Tryz.func32, Tryz.ntmps32
 go_wp2_with fail
 refine hplc.mono ?_
 rintro e w1 ⟨rfl, hb1⟩
 have HB1 : Hid (Below w.heap.size w w1) := hb1
 clear hb1 hplc
 go_wp2
 go_ret
 exact rpost_same HD.out HB1.out
theorem rmov_dead (w : World) (Q : Nat -> Prop) (rb : Nat) (D : Dc) (n : Nat) (wh : Int) (a : Nat) (hd : RDoc w Q rb D) (hw : WF D) (hh : n < 18446744073709551616) (hal : a < 18446744073709551616) (hpl : isPlaceB wh a = true) (hs : sl D n = none) :
  Calls Tryz.prog 32 #[.pointer (some ⟨rb, 0, none⟩), .int .u64 (n : Int), .int .i64 wh, .int .u64 (a : Int)] w (RPost w Q rb D 8) := by
 have hplc := rplace_any w _ rb D wh a hd.view hw hal hpl
 have hz1 : ((placeE D wh a).2 == 1) = false := by have := placeE_err D wh a; simp; omega
 have HLV : Hid (∀ W, Below w.heap.size w W -> Calls Tryz.prog 68 #[.pointer (some ⟨rb, 0, none⟩), .int .u64 (n : Int)] W fun e w' => e = .returned (.bool false) /\ w' = W) := fun W hb => by
  have := rlive_any W _ rb D n (hd.view.below hb) hw.fits hh
  rw [sl_none hs] at this
  exact this
 have HD : Hid (RDoc w Q rb D) := hd
 clear hd hpl hw hs
 generalize (placeE D wh a).1 = p at *
 generalize (placeE D wh a).2 = z at *
 go_enter Tryz.func32, Tryz.ntmps32
 go_wp2_with fail
 refine hplc.mono ?_
 rintro e w1 ⟨rfl, hb1⟩
 have hlv := HLV.out w1 hb1
 have HB1 : Hid (Below w.heap.size w w1) := hb1
 clear hb1 hplc
 go_wp2_with fail
 refine hlv.mono ?_
 rintro e w2 ⟨rfl, rfl⟩
 go_wp2
 go_ret
 exact rpost_same HD.out HB1.out
theorem rmov_node (w : World) (Q : Nat -> Prop) (rb : Nat) (D : Dc) (n : Nat) (wh : Int) (a : Nat) (s : Sl) (hd : RDoc w Q rb D) (hw : WF D) (hh : n < 18446744073709551616) (hal : a < 18446744073709551616) (hpl : isPlaceB wh a = true) (hs : sl D n = some s) (hz : (placeE D wh a).2 = 8) :
  Calls Tryz.prog 32 #[.pointer (some ⟨rb, 0, none⟩), .int .u64 (n : Int), .int .i64 wh, .int .u64 (a : Int)] w (RPost w Q rb D 8) := by
 obtain ⟨i, hai, -, -, -⟩ := sl_live hs
 have hplc := rplace_any w _ rb D wh a hd.view hw hal hpl
 rw [hz] at hplc
 have HLV : Hid (∀ W, Below w.heap.size w W -> Calls Tryz.prog 68 #[.pointer (some ⟨rb, 0, none⟩), .int .u64 (n : Int)] W fun e w' => e = .returned (.bool true) /\ w' = W) := fun W hb => by
  have := rlive_any W _ rb D n (hd.view.below hb) hw.fits hh
  rw [hai] at this
  exact this
 have HD : Hid (RDoc w Q rb D) := hd
 clear hd hpl hw hs hz hai
 generalize (placeE D wh a).1 = p at *
 go_enter Tryz.func32, Tryz.ntmps32
 go_wp2_with fail
 refine hplc.mono ?_
 rintro e w1 ⟨rfl, hb1⟩
 have hlv := HLV.out w1 hb1
 have HB1 : Hid (Below w.heap.size w w1) := hb1
 clear hb1 hplc
 go_wp2_with fail
 refine hlv.mono ?_
 rintro e w2 ⟨rfl, rfl⟩
 go_wp2
 go_ret
 exact rpost_same HD.out HB1.out
theorem rmov_into (w : World) (Q : Nat -> Prop) (rb : Nat) (D : Dc) (n : Nat) (wh : Int) (a : Nat) (s : Sl) (b : Bool) (hd : RDoc w Q rb D) (hw : WF D) (hh : n < 18446744073709551616) (hal : a < 18446744073709551616) (hpl : isPlaceB wh a = true) (hs : sl D n = some s) (hz : (placeE D wh a).2 ≠ 8) (h0 : a ≠ 0) (hup : (ups D a).contains n = b) (hb : b = true \/ (placeE D wh a).2 = 31) :
  Calls Tryz.prog 32 #[.pointer (some ⟨rb, 0, none⟩), .int .u64 (n : Int), .int .i64 wh, .int .u64 (a : Int)] w (RPost w Q rb D (if b = true then 34 else 31)) := by
 obtain ⟨-, hn0, i, hai, -, -⟩ := hw.lt hs
 have hplc := rplace_any w _ rb D wh a hd.view hw hal hpl
 have hz1 : ((placeE D wh a).2 == 1) = false := by have := placeE_err D wh a; simp; omega
 have hz8 : ((placeE D wh a).2 == 8) = false := by simp; exact hz
 have ha0 : ((a : Int) != 0) = true := by simp; omega
 have HLV : Hid (∀ W, Below w.heap.size w W -> Calls Tryz.prog 68 #[.pointer (some ⟨rb, 0, none⟩), .int .u64 (n : Int)] W fun e w' => e = .returned (.bool true) /\ w' = W) := fun W hb => by
  have := rlive_any W _ rb D n (hd.view.below hb) hw.fits hh
  rw [hai] at this
  exact this
 have HWI : Hid (∀ W, Below w.heap.size w W -> Calls Tryz.prog 69 #[.pointer (some ⟨rb, 0, none⟩), .int .u64 (a : Int), .int .u64 (n : Int)] W fun e w' => e = .returned (.bool b) /\ Below W.heap.size W w') := fun W hb => rwithin_any W _ rb D a n (hd.view.below hb) hw (placeE_at hz) (by omega) b hup
 have HD : Hid (RDoc w Q rb D) := hd
 clear hd hpl hw hs hz hai h0 hup
 generalize (placeE D wh a).1 = p at *
 generalize (placeE D wh a).2 = z at *
 cases b
 ·have hz31 : z = 31 := by
   rcases hb with h | h
   ·cases h
   ·exact h
  subst hz31
  clear hb hz1 hz8
  go_enter Tryz.func32, Tryz.ntmps32
  go_wp2_with fail
  refine hplc.mono ?_
  rintro e w1 ⟨rfl, hb1⟩
  have hlv := HLV.out w1 hb1
  have HB1 : Hid (Below w.heap.size w w1) := hb1
  clear hb1 hplc
  go_wp2_with fail
  refine hlv.mono ?_
  rintro e w2 ⟨rfl, rfl⟩
  have hwi := HWI.out w2 HB1.out
  have hs2 := HB1.out.size
  go_wp2_with fail
  refine hwi.mono ?_
  rintro e w3 ⟨rfl, hb3⟩
  have HB3 : Hid (Below w.heap.size w w3) := HB1.out.trans (hb3.mono hs2)
  clear hb3 hwi
  go_wp2
  go_ret
  exact rpost_same HD.out HB3.out
 ·clear hb
  go_enter Tryz.func32, Tryz.ntmps32
  go_wp2_with fail
  refine hplc.mono ?_
  rintro e w1 ⟨rfl, hb1⟩
  have hlv := HLV.out w1 hb1
  have HB1 : Hid (Below w.heap.size w w1) := hb1
  clear hb1 hplc
  go_wp2_with fail
  refine hlv.mono ?_
  rintro e w2 ⟨rfl, rfl⟩
  have hwi := HWI.out w2 HB1.out
  have hs2 := HB1.out.size
  go_wp2_with fail
  refine hwi.mono ?_
  rintro e w3 ⟨rfl, hb3⟩
  have HB3 : Hid (Below w.heap.size w w3) := HB1.out.trans (hb3.mono hs2)
  clear hb3 hwi
  go_wp2
  go_ret
  exact rpost_same HD.out HB3.out
end Go.Proofs.YtmapmkogjhinmaaGreat
