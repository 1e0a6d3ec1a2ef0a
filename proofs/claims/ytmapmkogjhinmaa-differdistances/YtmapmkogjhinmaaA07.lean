/- link and unlink of the program: a handle put into a list, and taken out. -/
import Derived.Test.YtmapmkogjhinmaaA06
import Derived.Deep.RegionHeld3
namespace Go.Proofs.Ytmapmkogjhinmaa
open Go.RowKit
set_option maxRecDepth 100000
set_option maxHeartbeats 2000000
set_option linter.unusedVariables false
set_option linter.unusedSimpArgs false
structure ListAt (w : World) (ro : Nat -> Nat) (db : Nat) (D : Dc) (p b o : Nat) (la : Option Addr) (lc : Nat) : Prop where
 cell : w.cell? ⟨b, o, none⟩ = some (.slice la (lst D p).length lc)
 fz : w.frozen? ⟨b, o, none⟩ = false
 own : w.ownsRow 0 67 1 (.slice la (lst D p).length lc) (lst D p).length (hvals (lst D p))
 rob : ro b ≠ 0
 lt : b < w.heap.size
 ne : ∀ k, (Value.slice la (lst D p).length lc).ownBlock = some k -> k ≠ b /\ ro k ≠ 0
 put : ∀ w' l' a' c', w.grownBy w' (Value.slice la (lst D p).length lc).ownBlock -> w'.ownsRow 0 67 1 (.slice a' l'.length c') l'.length (hvals l') -> (∀ k, (Value.slice a' l'.length c').ownBlock = some k -> (Value.slice la (lst D p).length lc).ownBlock = some k \/ w.heap.size <= k) ->
  ∃ ro', PDoc (w'.setCell ⟨b, o, none⟩ (.slice a' l'.length c')) ro' db (setL D p l') /\ ∀ k, ro' k ≠ 0 -> ro k ≠ 0 \/ w.heap.size <= k
def ListP (w : World) (b o : Nat) (e : Ending) (w' : World) : Prop := e = .returned (.pointer (some ⟨b, o, none⟩)) /\ Below w.heap.size w w'
theorem list_at {w : World} {ro : Nat -> Nat} {db : Nat} {D : Dc} (hd : PDoc w ro db D) (hf : Fits D) {p : Nat} (hpl : p < 18446744073709551616) (hp : p = 0 \/ ∃ s, sl D p = some s) :
  ∃ b o la lc, ListAt w ro db D p b o la lc /\ ∀ W, Below w.heap.size w W -> Calls Try.prog 52 #[.pointer (some ⟨db, 0, none⟩), .int .u64 (p : Int)] W (ListP W b o) := by
 obtain ⟨sa, scap, ra, rcap, L, h⟩ := hd
 by_cases h0 : p = 0
 ·subst h0
  have hl : lst D 0 = D.roots := by simp [lst]
  refine ⟨db, 1, ra, rcap, ⟨by rw [hl, h.head.cell]; rfl, h.head.frozen 1, by rw [hl]; exact h.roots, by rw [h.rdb]; omega, h.head.lt, fun k hk => ?_, fun w' l' a' c' h1 h2 h3 => ?_⟩, fun W hW => ?_⟩
  ·rw [hl] at hk
   have := h.rr k hk
   exact ⟨by rintro rfl; rw [h.rdb] at this; omega, by omega⟩
  ·rw [hl] at h1 h3
   refine ⟨_, ⟨_, _, _, _, _, (by rw [setL_zero]; exact h.newRoots h1 h2 h3)⟩, fun k hk => roN_from (by omega) h.rr h3 hk⟩
  ·clear h
   go_enter Try.func52, Try.ntmps52
   go_wp2
   go_ret
   exact ⟨rfl, Below.refl _ _⟩
 ·obtain ⟨s, hs⟩ := hp.resolve_left h0
  obtain ⟨i, ha, hi, -, -⟩ := sl_live hs
  obtain ⟨g, q, rfl, hg2, hq, hcap, hhd, hcl⟩ := h.slot hi
  have hl : lst D p = s.kids := by simp [lst, h0, hs]
  obtain ⟨v1, v2⟩ := h.vals i s q hi hq
  obtain ⟨ka, kc, e2⟩ := own_slice v2
  obtain ⟨c7, f7⟩ := hcl 7 _ rfl
  rw [e2] at c7
  refine ⟨g, i * 8 + 7, ka, kc, ⟨by rw [hl]; exact c7, f7, by rw [hl, <- e2]; exact v2, by omega, h.lt g (by omega), fun k hk => ?_, fun w' l' a' c' h1 h2 h3 => ?_⟩, fun W hW => ?_⟩
  ·rw [hl, <- e2] at hk
   have := h.rk i q k hq hk
   exact ⟨by rintro rfl; omega, by omega⟩
  ·rw [hl, <- e2] at h1 h3
   refine ⟨_, ⟨_, _, _, _, _, (by rw [setL_some h0 ha hi]; exact h.newKids hi hq h1 h2 h3)⟩, fun k hk => roN_from (by omega) (fun b hb => h.rk i q b hq hb) h3 hk⟩
  ·have hfd := find_some W _ db D p i (h.view.below hW) hf hpl ha g 0 scap ((hW.cell (p := ⟨db, 0, none⟩) h.head.lt).trans hhd)
   rw [Nat.zero_add] at hfd
   have hq0 : decide ((p : Int) = 0) = false := by simp; omega
   have hq1 : ¬ ((p : Int) = 0) := by omega
   have hq2 : ((p : Int) == 0) = false := by simp; omega
   clear h hcl v1 v2 c7 f7 hhd
   go_enter Try.func52, Try.ntmps52
   go_wp2_with fail
   refine hfd.mono ?_
   rintro e w1 ⟨rfl, hb⟩
   have HB : Hid (Below W.heap.size W w1) := hb
   clear hfd hb
   go_wp2
   go_ret
   exact ⟨rfl, HB.out⟩
theorem ListAt.below {w W : World} {ro : Nat -> Nat} {db : Nat} {D : Dc} {p b o : Nat} {la : Option Addr} {lc : Nat} (h : ListAt w ro db D p b o la lc) (hb : Below w.heap.size w W) :
  W.cell? ⟨b, o, none⟩ = some (.slice la (lst D p).length lc) /\ W.frozen? ⟨b, o, none⟩ = false /\ W.ownsRow 0 67 1 (.slice la (lst D p).length lc) (lst D p).length (hvals (lst D p)) :=
 ⟨(hb.cell (p := ⟨b, o, none⟩) h.lt).trans h.cell, (hb.frozen (p := ⟨b, o, none⟩) h.lt).trans h.fz, own_of_block h.own (fun k hk => hb.block k (own_block_lt h.own k hk).2)⟩
def LinkP (w : World) (ro : Nat -> Nat) (db : Nat) (D' : Dc) (e : Ending) (w' : World) : Prop :=
 e = .returned (.tuple #[]) /\ Turn (fun b => ro b ≠ 0) w w' /\ ∃ ro', PDoc w' ro' db D' /\ ∀ b, ro' b ≠ 0 -> ro b ≠ 0 \/ w.heap.size <= b
theorem grown_of {a b c : World} {k : Option Nat} (h : Below a.heap.size a b) (g : b.grownBy c k) : a.grownBy c k :=
 ⟨g.os.trans h.os, g.tape.trans h.tape, g.output.trans h.output, Nat.le_trans h.size g.size, fun j hj hne => (g.block j (Nat.lt_of_lt_of_le hj h.size) hne).trans (h.block j hj)⟩
theorem ListAt.stored {w X Y : World} {ro : Nat -> Nat} {db : Nat} {D : Dc} {p b o : Nat} {la : Option Addr} {lc : Nat} (h : ListAt w ro db D p b o la lc) (hb : Below w.heap.size w X) {l' : List Nat} {v : Value} (hv : ∃ a c, v = .slice a l'.length c) (hg : X.grownBy Y (Value.slice la (lst D p).length lc).ownBlock) (hown : Y.ownsRow 0 67 1 v l'.length (hvals l'))
  (hk : ∀ k, v.ownBlock = some k -> (Value.slice la (lst D p).length lc).ownBlock = some k \/ X.heap.size <= k) : LinkP w ro db (setL D p l') (.returned (.tuple #[])) (Y.setCell ⟨b, o, none⟩ v) := by
 obtain ⟨a, c, rfl⟩ := hv
 have hG := grown_of hb hg
 obtain ⟨ro', h1, h2⟩ := h.put Y l' a c hG hown (fun k hk' => (hk k hk').imp id (fun h => Nat.le_trans hb.size h))
 refine ⟨rfl, ?_, ro', h1, h2⟩
 refine Turn.setCell (A := fun b => ro b ≠ 0) ⟨hG.os, hG.tape, hG.output, hG.size, fun k hk' hne => hG.block k hk' (fun e => hne (h.ne k e.symm).2)⟩ (p := ⟨b, o, none⟩) h.rob _
theorem hvals_take (l : List Nat) (k : Nat) : hvals (l.take k) = (hvals l).take k := by simp [hvals]
theorem hvals_drop (l : List Nat) (k : Nat) : hvals (l.drop k) = (hvals l).drop k := by simp [hvals]
theorem link_first (w : World) (ro : Nat -> Nat) (db : Nat) (D : Dc) (n a p : Nat) (hd : PDoc w ro db D) (hf : Fits D) (hal : a < 18446744073709551616) (hpl : p < 18446744073709551616) (hpp : p = 0 \/ ∃ s, sl D p = some s) (hll : (lst D p).length <= 4096) (har : arD D 1 a = p) :
  Calls Try.prog 39 #[.pointer (some ⟨db, 0, none⟩), .int .u64 (n : Int), .int .i64 1, .int .u64 (a : Int)] w (LinkP w ro db (setL D p (ins (lst D p) 0 n))) := by
 obtain ⟨b, o, la, lc, hla, hlc⟩ := list_at hd hf hpl hpp
 have har' := around_any w _ db D 1 a hd.view hf hal (fun h => by rcases h with h | h <;> cases h)
 rw [har] at har'
 have HLA : Hid (ListAt w ro db D p b o la lc) := hla
 have HLC : Hid (∀ W, Below w.heap.size w W -> Calls Try.prog 52 #[.pointer (some ⟨db, 0, none⟩), .int .u64 (p : Int)] W (ListP W b o)) := hlc
 have hb1 := hvals_one (lst D p)
 have hvl := hvals_length (lst D p)
 clear hla hlc hd har
 go_enter Try.func39, Try.ntmps39
 go_wp2_with fail
 refine har'.mono ?_
 rintro e w1 ⟨rfl, hb⟩
 have HB1 : Hid (Below w.heap.size w w1) := hb
 have hl1 := HLC.out w1 hb
 clear har' hb
 go_wp2_with fail
 refine hl1.mono ?_
 rintro e w2 ⟨rfl, hb2⟩
 have HB2 : Hid (Below w.heap.size w w2) := HB1.out.trans (hb2.mono HB1.out.size)
 obtain ⟨d1, d2, d3⟩ := HLA.out.below HB2.out
 have hll' : ((lst D p).length : Int) <= 4096 := by omega
 have hbl : b < w2.heap.size := Nat.lt_of_lt_of_le HLA.out.lt HB2.out.size
 have hX : (w2.alloc (.cells #[.int .u64 (n : Int)] 67)).heap[w2.heap.size]? = some (.cells [.int .u64 (n : Int)].toArray 67 (0, 0)) := heap_alloc_new w2 _
 have hins := H.insert_any (w2.alloc (.cells #[.int .u64 (n : Int)] 67)) 0 la (lst D p).length lc w2.heap.size 0 (hvals (lst D p)) [.int .u64 (n : Int)] (own_of_block d3 (fun k hk => Below.heap_alloc _ _ _ (own_block_lt d3 k hk).2)) hX rfl (by intro u hu; simp at hu; subst hu; rfl) hb1 (by omega) (Nat.zero_le _) (by omega) (fun e => by have := (own_block_lt d3 _ e).2; omega)
 have HBX : Hid (Below w.heap.size w (w2.alloc (.cells #[.int .u64 (n : Int)] 67))) := HB2.out.alloc HB2.out.size _
 have hbn : (Value.slice la (lst D p).length lc).ownBlock ≠ some b := fun e => (HLA.out.ne b e).1 rfl
 have HFin : Hid (∀ e w4, H.InsP (w2.alloc (.cells #[.int .u64 (n : Int)] 67)) 0 (.slice la (lst D p).length lc) (lst D p).length 0 (hvals (lst D p)) [.int .u64 (n : Int)] e w4 -> ∃ va vc, e = .returned (.slice va ((lst D p).length + 1) vc) /\ w4.cell? ⟨b, o, none⟩ = some (.slice la (lst D p).length lc) /\ w4.frozen? ⟨b, o, none⟩ = false /\ LinkP w ro db (setL D p (ins (lst D p) 0 n)) (.returned (.tuple #[])) (w4.setCell ⟨b, o, none⟩ (.slice va ((lst D p).length + 1) vc))) := fun e w4 h => by
  obtain ⟨v, he, k1, k2, k3⟩ := h
  obtain ⟨va, vc, rfl⟩ := own_slice k1
  have hbk := k2.block b (by simp; omega) (fun e => hbn e.symm)
  have hlen : (ins (lst D p) 0 n).length = (lst D p).length + 1 := by simp [ins] <;> omega
  refine ⟨va, vc, he, (World.cell?_of_block (w := w2) (a := ⟨b, o, none⟩) (hbk.trans (Below.heap_alloc _ _ _ hbl))).trans d1, (World.frozen?_of_block (w := w2) (a := ⟨b, o, none⟩) (hbk.trans (Below.heap_alloc _ _ _ hbl))).trans d2, HLA.out.stored HBX.out ⟨va, vc, by rw [hlen]⟩ k2 ?_ (fun j hj => ?_)⟩
  ·rw [hlen, ins, hvals_append, hvals_append, hvals_take, hvals_drop]
   simpa [hvals] using k1
  ·rcases k3 with k3 | k3
   ·exact .inl (by rw [<- k3]; exact hj)
   ·rw [k3] at hj
    cases hj
    exact .inr (Nat.le_refl _)
 clear hl1 hb2 d2 d3 hX hbn
 go_wp2_with fail
 refine hins.mono ?_
 rintro e w4 h4
 obtain ⟨va, vc, rfl, c4, f4, h5⟩ := HFin.out e w4 h4
 have H5 : Hid (LinkP w ro db _ (.returned (.tuple #[])) (w4.setCell ⟨b, o, none⟩ (.slice va ((lst D p).length + 1) vc))) := h5
 clear hins h4 h5 HFin d1
 go_wp2
 go_end0
 exact H5.out
theorem link_last (w : World) (ro : Nat -> Nat) (db : Nat) (D : Dc) (n a p : Nat) (hd : PDoc w ro db D) (hf : Fits D) (hal : a < 18446744073709551616) (hpl : p < 18446744073709551616) (hpp : p = 0 \/ ∃ s, sl D p = some s) (hll : (lst D p).length <= 4096) (har : arD D 2 a = p) :
  Calls Try.prog 39 #[.pointer (some ⟨db, 0, none⟩), .int .u64 (n : Int), .int .i64 2, .int .u64 (a : Int)] w (LinkP w ro db (setL D p (ins (lst D p) (lst D p).length n))) := by
 obtain ⟨b, o, la, lc, hla, hlc⟩ := list_at hd hf hpl hpp
 have har' := around_any w _ db D 2 a hd.view hf hal (fun h => by rcases h with h | h <;> cases h)
 rw [har] at har'
 have HLA : Hid (ListAt w ro db D p b o la lc) := hla
 have HLC : Hid (∀ W, Below w.heap.size w W -> Calls Try.prog 52 #[.pointer (some ⟨db, 0, none⟩), .int .u64 (p : Int)] W (ListP W b o)) := hlc
 have hb1 := hvals_one (lst D p)
 have hvl := hvals_length (lst D p)
 clear hla hlc hd har
 go_enter Try.func39, Try.ntmps39
 go_wp2_with fail
 refine har'.mono ?_
 rintro e w1 ⟨rfl, hb⟩
 have HB1 : Hid (Below w.heap.size w w1) := hb
 have hl1 := HLC.out w1 hb
 clear har' hb
 go_wp2_with fail
 refine hl1.mono ?_
 rintro e w2 ⟨rfl, hb2⟩
 have HB2 : Hid (Below w.heap.size w w2) := HB1.out.trans (hb2.mono HB1.out.size)
 obtain ⟨d1, d2, d3⟩ := HLA.out.below HB2.out
 have hll' : ((lst D p).length : Int) <= 4096 := by omega
 have hbl : b < w2.heap.size := Nat.lt_of_lt_of_le HLA.out.lt HB2.out.size
 have hX : (w2.alloc (.cells #[.int .u64 (n : Int)] 67)).heap[w2.heap.size]? = some (.cells [.int .u64 (n : Int)].toArray 67 (0, 0)) := heap_alloc_new w2 _
 have hins := H.insert_any (w2.alloc (.cells #[.int .u64 (n : Int)] 67)) 0 la (lst D p).length lc w2.heap.size (lst D p).length (hvals (lst D p)) [.int .u64 (n : Int)] (own_of_block d3 (fun k hk => Below.heap_alloc _ _ _ (own_block_lt d3 k hk).2)) hX rfl (by intro u hu; simp at hu; subst hu; rfl) hb1 (by omega) (Nat.zero_le _) (by omega) (fun e => by have := (own_block_lt d3 _ e).2; omega)
 have HBX : Hid (Below w.heap.size w (w2.alloc (.cells #[.int .u64 (n : Int)] 67))) := HB2.out.alloc HB2.out.size _
 have hbn : (Value.slice la (lst D p).length lc).ownBlock ≠ some b := fun e => (HLA.out.ne b e).1 rfl
 have HFin : Hid (∀ e w4, H.InsP (w2.alloc (.cells #[.int .u64 (n : Int)] 67)) 0 (.slice la (lst D p).length lc) (lst D p).length (lst D p).length (hvals (lst D p)) [.int .u64 (n : Int)] e w4 -> ∃ va vc, e = .returned (.slice va ((lst D p).length + 1) vc) /\ w4.cell? ⟨b, o, none⟩ = some (.slice la (lst D p).length lc) /\ w4.frozen? ⟨b, o, none⟩ = false /\ LinkP w ro db (setL D p (ins (lst D p) (lst D p).length n)) (.returned (.tuple #[])) (w4.setCell ⟨b, o, none⟩ (.slice va ((lst D p).length + 1) vc))) := fun e w4 h => by
  obtain ⟨v, he, k1, k2, k3⟩ := h
  obtain ⟨va, vc, rfl⟩ := own_slice k1
  have hbk := k2.block b (by simp; omega) (fun e => hbn e.symm)
  have hlen : (ins (lst D p) (lst D p).length n).length = (lst D p).length + 1 := by simp [ins] <;> omega
  refine ⟨va, vc, he, (World.cell?_of_block (w := w2) (a := ⟨b, o, none⟩) (hbk.trans (Below.heap_alloc _ _ _ hbl))).trans d1, (World.frozen?_of_block (w := w2) (a := ⟨b, o, none⟩) (hbk.trans (Below.heap_alloc _ _ _ hbl))).trans d2, HLA.out.stored HBX.out ⟨va, vc, by rw [hlen]⟩ k2 ?_ (fun j hj => ?_)⟩
  ·rw [hlen, ins, hvals_append, hvals_append, hvals_take, hvals_drop]
   simpa [hvals] using k1
  ·rcases k3 with k3 | k3
   ·exact .inl (by rw [<- k3]; exact hj)
   ·rw [k3] at hj
    cases hj
    exact .inr (Nat.le_refl _)
 clear hl1 hb2 d2 d3 hX hbn
 go_wp2_with fail
 refine hins.mono ?_
 rintro e w4 h4
 obtain ⟨va, vc, rfl, c4, f4, h5⟩ := HFin.out e w4 h4
 have H5 : Hid (LinkP w ro db _ (.returned (.tuple #[])) (w4.setCell ⟨b, o, none⟩ (.slice va ((lst D p).length + 1) vc))) := h5
 clear hins h4 h5 HFin d1
 go_wp2
 go_end0
 exact H5.out
theorem link_before (w : World) (ro : Nat -> Nat) (db : Nat) (D : Dc) (n a p : Nat) (hd : PDoc w ro db D) (hf : Fits D) (hal : a < 18446744073709551616) (hpl : p < 18446744073709551616) (hpp : p = 0 \/ ∃ s, sl D p = some s) (hll : (lst D p).length <= 4096) (har : arD D 3 a = p) (hmem : a ∈ lst D p) (hsa : ∃ s, sl D a = some s) :
  Calls Try.prog 39 #[.pointer (some ⟨db, 0, none⟩), .int .u64 (n : Int), .int .i64 3, .int .u64 (a : Int)] w (LinkP w ro db (setL D p (ins (lst D p) (idxH (lst D p) a).toNat n))) := by
 obtain ⟨b, o, la, lc, hla, hlc⟩ := list_at hd hf hpl hpp
 obtain ⟨k, hk, hkn, hkl⟩ := idxH_mem hmem
 have Hk : Hid (idxH (lst D p) a = (k : Int)) := hk
 have e0 : (idxH (lst D p) a).toNat = k := by rw [hk]; simp
 rw [e0]
 clear hk e0
 have har' := around_any w _ db D 3 a hd.view hf hal (fun _ => hsa)
 rw [har] at har'
 have HLA : Hid (ListAt w ro db D p b o la lc) := hla
 have HLC : Hid (∀ W, Below w.heap.size w W -> Calls Try.prog 52 #[.pointer (some ⟨db, 0, none⟩), .int .u64 (p : Int)] W (ListP W b o)) := hlc
 have hb1 := hvals_one (lst D p)
 have hvl := hvals_length (lst D p)
 clear hla hlc hd har
 go_enter Try.func39, Try.ntmps39
 go_wp2_with fail
 refine har'.mono ?_
 rintro e w1 ⟨rfl, hb⟩
 have HB1 : Hid (Below w.heap.size w w1) := hb
 have hl1 := HLC.out w1 hb
 clear har' hb
 go_wp2_with fail
 refine hl1.mono ?_
 rintro e w2 ⟨rfl, hb2⟩
 have HB2 : Hid (Below w.heap.size w w2) := HB1.out.trans (hb2.mono HB1.out.size)
 obtain ⟨d1, d2, d3⟩ := HLA.out.below HB2.out
 have hll' : ((lst D p).length : Int) <= 4096 := by omega
 obtain ⟨ha2, hc2, e2, hc3, hat⟩ := hands_row (R := fun _ => True) d3 (fun _ _ => trivial)
 cases e2
 have hix := index_any w2 _ la (lst D p) lc a hat (by omega) (k : Int) Hk.out
 have hk8 : (k : Int) < 4096 := by omega
 clear hat
 have hbl : b < w2.heap.size := Nat.lt_of_lt_of_le HLA.out.lt HB2.out.size
 have hX : (w2.alloc (.cells #[.int .u64 (n : Int)] 67)).heap[w2.heap.size]? = some (.cells [.int .u64 (n : Int)].toArray 67 (0, 0)) := heap_alloc_new w2 _
 have hins := H.insert_any (w2.alloc (.cells #[.int .u64 (n : Int)] 67)) 0 la (lst D p).length lc w2.heap.size k (hvals (lst D p)) [.int .u64 (n : Int)] (own_of_block d3 (fun k hk => Below.heap_alloc _ _ _ (own_block_lt d3 k hk).2)) hX rfl (by intro u hu; simp at hu; subst hu; rfl) hb1 (by omega) (Nat.zero_le _) (by omega) (fun e => by have := (own_block_lt d3 _ e).2; omega)
 have HBX : Hid (Below w.heap.size w (w2.alloc (.cells #[.int .u64 (n : Int)] 67))) := HB2.out.alloc HB2.out.size _
 have hbn : (Value.slice la (lst D p).length lc).ownBlock ≠ some b := fun e => (HLA.out.ne b e).1 rfl
 have HFin : Hid (∀ e w4, H.InsP (w2.alloc (.cells #[.int .u64 (n : Int)] 67)) 0 (.slice la (lst D p).length lc) (lst D p).length k (hvals (lst D p)) [.int .u64 (n : Int)] e w4 -> ∃ va vc, e = .returned (.slice va ((lst D p).length + 1) vc) /\ w4.cell? ⟨b, o, none⟩ = some (.slice la (lst D p).length lc) /\ w4.frozen? ⟨b, o, none⟩ = false /\ LinkP w ro db (setL D p (ins (lst D p) k n)) (.returned (.tuple #[])) (w4.setCell ⟨b, o, none⟩ (.slice va ((lst D p).length + 1) vc))) := fun e w4 h => by
  obtain ⟨v, he, k1, k2, k3⟩ := h
  obtain ⟨va, vc, rfl⟩ := own_slice k1
  have hbk := k2.block b (by simp; omega) (fun e => hbn e.symm)
  have hlen : (ins (lst D p) k n).length = (lst D p).length + 1 := by simp [ins] <;> omega
  refine ⟨va, vc, he, (World.cell?_of_block (w := w2) (a := ⟨b, o, none⟩) (hbk.trans (Below.heap_alloc _ _ _ hbl))).trans d1, (World.frozen?_of_block (w := w2) (a := ⟨b, o, none⟩) (hbk.trans (Below.heap_alloc _ _ _ hbl))).trans d2, HLA.out.stored HBX.out ⟨va, vc, by rw [hlen]⟩ k2 ?_ (fun j hj => ?_)⟩
  ·rw [hlen, ins, hvals_append, hvals_append, hvals_take, hvals_drop]
   simpa [hvals] using k1
  ·rcases k3 with k3 | k3
   ·exact .inl (by rw [<- k3]; exact hj)
   ·rw [k3] at hj
    cases hj
    exact .inr (Nat.le_refl _)
 clear hl1 hb2 d2 d3 hX hbn
 go_wp2_with fail
 refine hix.mono ?_
 rintro e w2' ⟨rfl, rfl⟩
 clear hix
 go_wp2_with fail
 refine hins.mono ?_
 rintro e w4 h4
 obtain ⟨va, vc, rfl, c4, f4, h5⟩ := HFin.out e w4 h4
 have H5 : Hid (LinkP w ro db _ (.returned (.tuple #[])) (w4.setCell ⟨b, o, none⟩ (.slice va ((lst D p).length + 1) vc))) := h5
 clear hins h4 h5 HFin d1
 go_wp2
 go_end0
 exact H5.out
theorem link_after (w : World) (ro : Nat -> Nat) (db : Nat) (D : Dc) (n a p : Nat) (hd : PDoc w ro db D) (hf : Fits D) (hal : a < 18446744073709551616) (hpl : p < 18446744073709551616) (hpp : p = 0 \/ ∃ s, sl D p = some s) (hll : (lst D p).length <= 4096) (har : arD D 4 a = p) (hmem : a ∈ lst D p) (hsa : ∃ s, sl D a = some s) :
  Calls Try.prog 39 #[.pointer (some ⟨db, 0, none⟩), .int .u64 (n : Int), .int .i64 4, .int .u64 (a : Int)] w (LinkP w ro db (setL D p (ins (lst D p) ((idxH (lst D p) a).toNat + 1) n))) := by
 obtain ⟨b, o, la, lc, hla, hlc⟩ := list_at hd hf hpl hpp
 obtain ⟨k, hk, hkn, hkl⟩ := idxH_mem hmem
 have Hk : Hid (idxH (lst D p) a = (k : Int)) := hk
 have e0 : (idxH (lst D p) a).toNat = k := by rw [hk]; simp
 rw [e0]
 clear hk e0
 have har' := around_any w _ db D 4 a hd.view hf hal (fun _ => hsa)
 rw [har] at har'
 have HLA : Hid (ListAt w ro db D p b o la lc) := hla
 have HLC : Hid (∀ W, Below w.heap.size w W -> Calls Try.prog 52 #[.pointer (some ⟨db, 0, none⟩), .int .u64 (p : Int)] W (ListP W b o)) := hlc
 have hb1 := hvals_one (lst D p)
 have hvl := hvals_length (lst D p)
 clear hla hlc hd har
 go_enter Try.func39, Try.ntmps39
 go_wp2_with fail
 refine har'.mono ?_
 rintro e w1 ⟨rfl, hb⟩
 have HB1 : Hid (Below w.heap.size w w1) := hb
 have hl1 := HLC.out w1 hb
 clear har' hb
 go_wp2_with fail
 refine hl1.mono ?_
 rintro e w2 ⟨rfl, hb2⟩
 have HB2 : Hid (Below w.heap.size w w2) := HB1.out.trans (hb2.mono HB1.out.size)
 obtain ⟨d1, d2, d3⟩ := HLA.out.below HB2.out
 have hll' : ((lst D p).length : Int) <= 4096 := by omega
 obtain ⟨ha2, hc2, e2, hc3, hat⟩ := hands_row (R := fun _ => True) d3 (fun _ _ => trivial)
 cases e2
 have hix := index_any w2 _ la (lst D p) lc a hat (by omega) (k : Int) Hk.out
 have hk8 : (k : Int) < 4096 := by omega
 clear hat
 have hbl : b < w2.heap.size := Nat.lt_of_lt_of_le HLA.out.lt HB2.out.size
 have hX : (w2.alloc (.cells #[.int .u64 (n : Int)] 67)).heap[w2.heap.size]? = some (.cells [.int .u64 (n : Int)].toArray 67 (0, 0)) := heap_alloc_new w2 _
 have hins := H.insert_any (w2.alloc (.cells #[.int .u64 (n : Int)] 67)) 0 la (lst D p).length lc w2.heap.size (k + 1) (hvals (lst D p)) [.int .u64 (n : Int)] (own_of_block d3 (fun k hk => Below.heap_alloc _ _ _ (own_block_lt d3 k hk).2)) hX rfl (by intro u hu; simp at hu; subst hu; rfl) hb1 (by omega) (Nat.zero_le _) (by omega) (fun e => by have := (own_block_lt d3 _ e).2; omega)
 have HBX : Hid (Below w.heap.size w (w2.alloc (.cells #[.int .u64 (n : Int)] 67))) := HB2.out.alloc HB2.out.size _
 have hbn : (Value.slice la (lst D p).length lc).ownBlock ≠ some b := fun e => (HLA.out.ne b e).1 rfl
 have HFin : Hid (∀ e w4, H.InsP (w2.alloc (.cells #[.int .u64 (n : Int)] 67)) 0 (.slice la (lst D p).length lc) (lst D p).length (k + 1) (hvals (lst D p)) [.int .u64 (n : Int)] e w4 -> ∃ va vc, e = .returned (.slice va ((lst D p).length + 1) vc) /\ w4.cell? ⟨b, o, none⟩ = some (.slice la (lst D p).length lc) /\ w4.frozen? ⟨b, o, none⟩ = false /\ LinkP w ro db (setL D p (ins (lst D p) (k + 1) n)) (.returned (.tuple #[])) (w4.setCell ⟨b, o, none⟩ (.slice va ((lst D p).length + 1) vc))) := fun e w4 h => by
  obtain ⟨v, he, k1, k2, k3⟩ := h
  obtain ⟨va, vc, rfl⟩ := own_slice k1
  have hbk := k2.block b (by simp; omega) (fun e => hbn e.symm)
  have hlen : (ins (lst D p) (k + 1) n).length = (lst D p).length + 1 := by simp [ins] <;> omega
  refine ⟨va, vc, he, (World.cell?_of_block (w := w2) (a := ⟨b, o, none⟩) (hbk.trans (Below.heap_alloc _ _ _ hbl))).trans d1, (World.frozen?_of_block (w := w2) (a := ⟨b, o, none⟩) (hbk.trans (Below.heap_alloc _ _ _ hbl))).trans d2, HLA.out.stored HBX.out ⟨va, vc, by rw [hlen]⟩ k2 ?_ (fun j hj => ?_)⟩
  ·rw [hlen, ins, hvals_append, hvals_append, hvals_take, hvals_drop]
   simpa [hvals] using k1
  ·rcases k3 with k3 | k3
   ·exact .inl (by rw [<- k3]; exact hj)
   ·rw [k3] at hj
    cases hj
    exact .inr (Nat.le_refl _)
 clear hl1 hb2 d2 d3 hX hbn
 go_wp2_with fail
 refine hix.mono ?_
 rintro e w2' ⟨rfl, rfl⟩
 clear hix
 go_wp2_with fail
 refine hins.mono ?_
 rintro e w4 h4
 obtain ⟨va, vc, rfl, c4, f4, h5⟩ := HFin.out e w4 h4
 have H5 : Hid (LinkP w ro db _ (.returned (.tuple #[])) (w4.setCell ⟨b, o, none⟩ (.slice va ((lst D p).length + 1) vc))) := h5
 clear hins h4 h5 HFin d1
 go_wp2
 go_end0
 exact H5.out
theorem placeE_live {D : Dc} (hw : WF D) {wh : Int} {a : Nat} (he : (placeE D wh a).2 = 0) : ((placeE D wh a).1 = 0 \/ ∃ s, sl D (placeE D wh a).1 = some s) /\ (a = 0 \/ ∃ s, sl D a = some s) /\ (¬ wh <= 2 -> a ≠ 0 -> a ∈ lst D (placeE D wh a).1) := by
 unfold placeE at *
 by_cases h0 : a = 0
 ·rw [if_pos h0]
  exact ⟨.inl rfl, .inl h0, fun _ h => absurd h0 h⟩
 ·rw [if_neg h0] at he ⊢
  cases hs : sl D a with
  | none => rw [hs] at he; simp at he
  | some s =>
   rw [hs] at he
   simp only at he ⊢
   refine ⟨?_, .inr ⟨s, rfl⟩, ?_⟩
   ·by_cases h2 : wh <= 2
    ·rw [if_pos h2] at he ⊢
     by_cases h3 : s.kind = 2
     ·rw [if_pos h3] at he; simp at he
     ·rw [if_neg h3]; exact .inr ⟨s, hs⟩
    ·rw [if_neg h2]
     obtain ⟨lv, hl⟩ := hw.lev
     exact (dep_par hl hs).2
   ·intro h2 _
    rw [if_neg h2]
    exact hw.up a s hs
theorem placeE_err (D : Dc) (wh : Int) (a : Nat) : (placeE D wh a).2 = 0 \/ (placeE D wh a).2 = 8 \/ (placeE D wh a).2 = 31 := by
 unfold placeE
 split
 ·exact .inl rfl
 ·split
  ·exact .inr (.inl rfl)
  ·split
   ·split
    ·exact .inr (.inr rfl)
    ·exact .inl rfl
   ·exact .inl rfl
end Go.Proofs.Ytmapmkogjhinmaa
/- The least index that no node has, by the document. -/
namespace Go.Proofs.Ytmapmkogjhinmaa
open Go.RowKit
set_option maxRecDepth 100000
set_option maxHeartbeats 2000000
set_option linter.unusedVariables false
set_option linter.unusedSimpArgs false
def freeB (s : Sl) : Bool := !s.live && decide (s.gen < 4294967295)
def freeD (D : Dc) : Nat × Dc := match D.S.findIdx? freeB with
 | some i => (i, D)
 | none => (D.S.length, { D with S := D.S ++ [zeroSl 0] })
theorem rowOf_snoc {S : List Sl} {L : List (Value × Value)} (h : L.length = S.length) (s : Sl) (p : Value × Value) : rowOf (S ++ [s]) (L ++ [p]) = rowOf S L ++ slotCells s p := by
 unfold rowOf
 rw [List.zip_append h.symm, List.flatMap_append]
 simp
end Go.Proofs.Ytmapmkogjhinmaa
/- DropAttr, by the document. -/
namespace Go.Proofs.Ytmapmkogjhinmaa
open Go.RowKit
set_option maxRecDepth 100000
set_option maxHeartbeats 2000000
set_option linter.unusedVariables false
set_option linter.unusedSimpArgs false
def sliceAt2 (b o c k : Nat) : Option Addr := if c = k then some ⟨b, o, none⟩ else some ⟨b, o + k * 2, none⟩
theorem ite_sliceAt2 (b o c k : Nat) : (if c = k then some (⟨b, o, none⟩ : Addr) else some ⟨b, o + k * 2, none⟩) = sliceAt2 b o c k := rfl
attribute [local go_sem] ite_sliceAt2
end Go.Proofs.Ytmapmkogjhinmaa
/- What is the same is told to be the same: trees, forests. -/
namespace Go.Proofs.Ytmapmkogjhinmaa
open Go.RowKit
set_option maxRecDepth 100000
set_option maxHeartbeats 2000000
set_option linter.unusedVariables false
set_option linter.unusedSimpArgs false
attribute [local go_sem] Bel.cell Bel.fz
theorem ForR.get {w : World} {R : Nat -> Prop} {n : Nat} {a : Option Addr} {L : List (T n)} (h : ForR w R n a L) {i : Nat} {k : T n} (hk : L[i]? = some k) : ∃ (b o : Nat) (kk : Int) (nm : ByteArray) (a' : Option Addr) (al ac : Nat) (tx : ByteArray) (ka : Option Addr) (kl kc : Nat), a = some ⟨b, o, none⟩ /\ R b /\
  w.cell? ⟨b, o + i * 5, none⟩ = some (.int .i64 kk) /\ w.cell? ⟨b, o + i * 5 + 1, none⟩ = some (.string nm) /\ w.cell? ⟨b, o + i * 5 + 2, none⟩ = some (.slice a' al ac) /\ w.cell? ⟨b, o + i * 5 + 3, none⟩ = some (.string tx) /\ w.cell? ⟨b, o + i * 5 + 4, none⟩ = some (.slice ka kl kc) /\ TreeR w R n #[.int .i64 kk, .string nm, .slice a' al ac, .string tx, .slice ka kl kc] k := by
 obtain ⟨b, o, u, h1, h2, h3, h4, h5⟩ := h i k hk
 obtain ⟨kk, nm, a', al, ac, tx, ka, kl, kc, rfl⟩ := h5.form
 exact ⟨b, o, kk, nm, a', al, ac, tx, ka, kl, kc, h1, h2, h4 0 (by omega), h4 1 (by omega), h4 2 (by omega), h4 3 (by omega), h4 4 (by omega), h5⟩
theorem ForR.to {w w' : World} {R R' : Nat -> Prop} {n : Nat} {a : Option Addr} {L : List (T n)} (h : ForR w R n a L) (hR : ∀ b, R b -> R' b) (hc : ∀ b o, R b -> w'.cell? ⟨b, o, none⟩ = w.cell? ⟨b, o, none⟩) : ForR w' R' n a L := by
 intro i k hk
 obtain ⟨b, o, u, h1, h2, h3, h4, h5⟩ := h i k hk
 exact ⟨b, o, u, h1, hR _ h2, h3, fun j hj => (hc _ _ h2).trans (h4 j hj), h5.to hR hc⟩
end Go.Proofs.Ytmapmkogjhinmaa
/- A slot as a node without its children: the program's. -/
namespace Go.Proofs.Ytmapmkogjhinmaa
open Go.RowKit
set_option maxRecDepth 100000
set_option maxHeartbeats 2000000
set_option linter.unusedVariables false
set_option linter.unusedSimpArgs false
end Go.Proofs.Ytmapmkogjhinmaa
/- What every document keeps, kept: a slot's own words changed. -/
namespace Go.Proofs.Ytmapmkogjhinmaa
open Go.RowKit
set_option maxRecDepth 100000
set_option maxHeartbeats 2000000
set_option linter.unusedVariables false
set_option linter.unusedSimpArgs false
def setS (D : Dc) (i : Nat) (s' : Sl) : Dc := { D with S := D.S.set i s' }
theorem sl_setS {D : Dc} {i : Nat} {s s' : Sl} (hs : D.S[i]? = some s) (hl : s'.live = s.live) (hg : s'.gen = s.gen) (h : Nat) : sl (setS D i s') h = if atI D.S h = some i then some s' else sl D h := by
 have h1 := atI_set_same (h := h) (j := 0) hs hl hg
 unfold sl setS
 simp only [h1]
 cases ha : atI D.S h with
 | none => simp
 | some j =>
  simp only [Option.bind_some, Option.some.injEq]
  by_cases e : j = i
  ·subst e
   rw [if_pos rfl, List.getElem?_set_self (List.getElem?_eq_some_iff.1 hs).1]
  ·rw [if_neg e, List.getElem?_set_ne (Ne.symm e)]
theorem sl_setS_some {D : Dc} {i : Nat} {s s' : Sl} (hs : D.S[i]? = some s) (hl : s'.live = s.live) (hg : s'.gen = s.gen) (hp : s'.parent = s.parent) (hk : s'.kids = s.kids) {h : Nat} {t : Sl} (ht : sl (setS D i s') h = some t) : ∃ t0, sl D h = some t0 /\ t.parent = t0.parent /\ t.kids = t0.kids := by
 rw [sl_setS hs hl hg] at ht
 by_cases e : atI D.S h = some i
 ·rw [if_pos e] at ht
  cases ht
  exact ⟨s, by simp [sl, e, hs], hp, hk⟩
 ·rw [if_neg e] at ht
  exact ⟨t, ht, rfl, rfl⟩
theorem sl_setS_to {D : Dc} {i : Nat} {s s' : Sl} (hs : D.S[i]? = some s) (hl : s'.live = s.live) (hg : s'.gen = s.gen) (hp : s'.parent = s.parent) (hk : s'.kids = s.kids) {h : Nat} {t : Sl} (ht : sl D h = some t) : ∃ t', sl (setS D i s') h = some t' /\ t'.parent = t.parent /\ t'.kids = t.kids := by
 rw [sl_setS hs hl hg]
 by_cases e : atI D.S h = some i
 ·rw [if_pos e]
  have : sl D h = some s := by simp [sl, e, hs]
  rw [this] at ht
  cases ht
  exact ⟨s', rfl, hp, hk⟩
 ·rw [if_neg e]
  exact ⟨t, ht, rfl, rfl⟩
theorem lst_setS {D : Dc} {i : Nat} {s s' : Sl} (hs : D.S[i]? = some s) (hl : s'.live = s.live) (hg : s'.gen = s.gen) (hp : s'.parent = s.parent) (hk : s'.kids = s.kids) (p : Nat) : lst (setS D i s') p = lst D p := by
 unfold lst
 by_cases h0 : p = 0
 ·rw [if_pos h0, if_pos h0]; rfl
 ·rw [if_neg h0, if_neg h0]
  cases hd : sl D p with
  | none =>
   cases hd' : sl (setS D i s') p with
   | none => rfl
   | some t =>
    obtain ⟨t0, h1, _⟩ := sl_setS_some hs hl hg hp hk hd'
    rw [hd] at h1
    cases h1
  | some t =>
   obtain ⟨t', h1, _, h2⟩ := sl_setS_to hs hl hg hp hk hd
   rw [h1]
   exact h2
theorem WF.setS {D : Dc} (hw : WF D) {i : Nat} {s s' : Sl} (hs : D.S[i]? = some s) (hlv : s.live = true) (hl : s'.live = s.live) (hg : s'.gen = s.gen) (hp : s'.parent = s.parent) (hk : s'.kids = s.kids) (ho : ownE (ndOf s') = 0) (hu : (s'.kind = 2 -> s'.kids = [] /\ s'.name = ⟨#[]⟩ /\ s'.attrs = []) /\ (s'.kind = 1 -> s'.text = ⟨#[]⟩)) : WF (setS D i s') := by
 have hget : ∀ (j : Nat) (t : Sl), (Ytmapmkogjhinmaa.setS D i s').S[j]? = some t -> (j = i /\ t = s') \/ D.S[j]? = some t := fun j t ht => by
  have ht' : (D.S.set i s')[j]? = some t := ht
  by_cases e : i = j
  ·subst e
   rw [List.getElem?_set_self (List.getElem?_eq_some_iff.1 hs).1] at ht'
   cases ht'
   exact .inl ⟨rfl, rfl⟩
  ·rw [List.getElem?_set_ne e] at ht'
   exact .inr ht'
 refine ⟨⟨by show (D.S.set i s').length <= 4096; simpa using hw.fits.len, fun j t ht => ?_⟩, fun j t ht => ?_, fun j t ht hd => ?_, fun j t ht hd => ?_, fun j t ht hd => ?_, ?_, fun h t ht => ?_, fun p hp' h hh => ?_, fun p => ?_⟩
 ·rcases hget j t ht with ⟨_, rfl⟩ | h
  ·rw [hg]; exact hw.fits.gen i s hs
  ·exact hw.fits.gen j t h
 ·rcases hget j t ht with ⟨_, rfl⟩ | h
  ·rw [hg]; exact hw.gen1 i s hs
  ·exact hw.gen1 j t h
 ·rcases hget j t ht with ⟨_, rfl⟩ | h
  ·rw [hl, hlv] at hd; cases hd
  ·exact hw.dead j t h hd
 ·rcases hget j t ht with ⟨_, rfl⟩ | h
  ·exact ho
  ·exact hw.own j t h hd
 ·rcases hget j t ht with ⟨_, rfl⟩ | h
  ·exact hu
  ·exact hw.used j t h hd
 ·obtain ⟨lv, hlev⟩ := hw.lev
  refine ⟨lv, fun h t ht => ?_⟩
  obtain ⟨t0, h1, h2, _⟩ := sl_setS_some hs hl hg hp hk ht
  obtain ⟨g1, g2⟩ := hlev h t0 h1
  refine ⟨g1, ?_⟩
  rw [h2]
  rcases g2 with g2 | ⟨q, g2, g3⟩
  ·exact .inl g2
  ·obtain ⟨q', e1, _⟩ := sl_setS_to hs hl hg hp hk g2
   exact .inr ⟨q', e1, g3⟩
 ·obtain ⟨t0, h1, h2, _⟩ := sl_setS_some hs hl hg hp hk ht
  rw [h2, lst_setS hs hl hg hp hk]
  exact hw.up h t0 h1
 ·rw [lst_setS hs hl hg hp hk] at hh
  have hp0 : p = 0 \/ ∃ q, sl D p = some q := by
   rcases hp' with h0 | ⟨q, hq⟩
   ·exact .inl h0
   ·obtain ⟨t0, h1, _⟩ := sl_setS_some hs hl hg hp hk hq
    exact .inr ⟨t0, h1⟩
  obtain ⟨t, h1, h2⟩ := hw.down p hp0 h hh
  obtain ⟨t', e1, e2, _⟩ := sl_setS_to hs hl hg hp hk h1
  exact ⟨t', e1, e2.trans h2⟩
 ·rw [lst_setS hs hl hg hp hk]
  exact hw.nodup p
end Go.Proofs.Ytmapmkogjhinmaa
/- What every document keeps, kept: Delete. -/
namespace Go.Proofs.Ytmapmkogjhinmaa
open Go.RowKit
set_option maxRecDepth 100000
set_option maxHeartbeats 2000000
set_option linter.unusedVariables false
set_option linter.unusedSimpArgs false
theorem slots_setL {D : Dc} {p : Nat} {l' : List Nat} : (setL D p l').S.length = D.S.length /\ ∀ (j : Nat) (t : Sl), (setL D p l').S[j]? = some t -> ∃ t1, D.S[j]? = some t1 /\ (t = t1 \/ (sl D p = some t1 /\ p ≠ 0 /\ t = { t1 with kids := l' })) := by
 by_cases h0 : p = 0
 ·subst h0; rw [setL_zero]; exact ⟨rfl, fun j t ht => ⟨t, ht, .inl rfl⟩⟩
 ·cases ha : atI D.S p with
  | none =>
   have e : setL D p l' = D := by simp only [setL, if_neg h0, ha]
   rw [e]
   exact ⟨rfl, fun j t ht => ⟨t, ht, .inl rfl⟩⟩
  | some i =>
   obtain ⟨s, hs, _⟩ := atI_some ha
   rw [setL_some h0 ha hs]
   refine ⟨by simp, fun j t ht => ?_⟩
   have ht' : (D.S.set i { s with kids := l' })[j]? = some t := ht
   by_cases e : i = j
   ·subst e
    rw [List.getElem?_set_self (List.getElem?_eq_some_iff.1 hs).1] at ht'
    cases ht'
    exact ⟨s, hs, .inr ⟨by simp [sl, ha, hs], h0, rfl⟩⟩
   ·rw [List.getElem?_set_ne e] at ht'
    exact ⟨t, ht', .inl rfl⟩
theorem sl_setL_from {D : Dc} {p x : Nat} {l' : List Nat} {t : Sl} (h : sl (setL D p l') x = some t) : ∃ t0, sl D x = some t0 /\ t.parent = t0.parent := by
 by_cases e : x = p
 ·subst e
  cases hd : sl D x with
  | none =>
   by_cases h0 : x = 0
   ·rw [h0, setL_zero] at h
    have : sl D 0 = some t := h
    rw [sl_zero] at this; cases this
   ·have e2 : setL D x l' = D := by simp only [setL, if_neg h0, sl_none hd]
    rw [e2, hd] at h; cases h
  | some t0 =>
   rw [sl_setL_eq hd] at h
   cases h
   exact ⟨t0, rfl, rfl⟩
 ·rw [sl_setL_ne e] at h
  exact ⟨t, h, rfl⟩
theorem sl_setL_into {D : Dc} {p x : Nat} {l' : List Nat} {t0 : Sl} (h : sl D x = some t0) : ∃ t, sl (setL D p l') x = some t /\ t.parent = t0.parent := by
 by_cases e : x = p
 ·subst e
  exact ⟨_, sl_setL_eq h, rfl⟩
 ·exact ⟨t0, by rw [sl_setL_ne e]; exact h, rfl⟩
theorem setPar_of {D : Dc} {n p : Nat} {s : Sl} (hs : sl D n = some s) : ∃ i, atI D.S n = some i /\ D.S[i]? = some s /\ setPar D n p = setS D i { s with parent := p } := by
 obtain ⟨i, ha, hi⟩ := sl_some hs
 refine ⟨i, ha, hi, ?_⟩
 simp only [setPar, ha, hi, setS]
theorem at_same {D : Dc} {n x i : Nat} (ha : atI D.S n = some i) (hx : atI D.S x = some i) : x = n := by
 obtain ⟨s, h1, _, _, _, _, e1⟩ := atI_some ha
 obtain ⟨s', h2, _, _, _, _, e2⟩ := atI_some hx
 rw [h1] at h2
 cases h2
 rw [e1, e2]
theorem sl_setPar {D : Dc} {n p : Nat} {s : Sl} (hs : sl D n = some s) (x : Nat) : sl (setPar D n p) x = if x = n then some { s with parent := p } else sl D x := by
 obtain ⟨i, ha, hi, e⟩ := setPar_of (p := p) hs
 rw [e, sl_setS (s' := { s with parent := p }) hi rfl rfl]
 by_cases hx : x = n
 ·subst hx
  rw [if_pos ha, if_pos rfl]
 ·rw [if_neg (fun h => hx (at_same ha h)), if_neg hx]
theorem lst_setPar {D : Dc} {n p : Nat} {s : Sl} (hs : sl D n = some s) (q : Nat) : lst (setPar D n p) q = lst D q := by
 obtain ⟨i, ha, hi, e⟩ := setPar_of (p := p) hs
 unfold lst
 by_cases h0 : q = 0
 ·rw [if_pos h0, if_pos h0, e]
  rfl
 ·rw [if_neg h0, if_neg h0, sl_setPar hs]
  by_cases hq : q = n
  ·subst hq
   rw [if_pos rfl, hs]
  ·rw [if_neg hq]
theorem cut_facts {l : List Nat} {n k : Nat} (hnod : l.Nodup) (hkx : l[k]? = some n) :
  (∀ x, x ∈ l.take k ++ l.drop (k + 1) ↔ x ∈ l /\ x ≠ n) /\ (l.take k ++ l.drop (k + 1)).Nodup := by
 have hsl : List.Sublist (l.take k ++ l.drop (k + 1)) l := by
  have h1 : List.Sublist (l.drop (k + 1)) (l.drop k) := by
   rw [<- List.drop_drop]
   exact List.drop_sublist 1 _
  have h2 := List.Sublist.append (List.Sublist.refl (l.take k)) h1
  rwa [List.take_append_drop] at h2
 refine ⟨fun x => ⟨fun hx => ⟨hsl.subset hx, ?_⟩, fun hx => mem_cut hkx hx.1 hx.2⟩, List.Sublist.nodup hsl hnod⟩
 rintro rfl
 rw [List.mem_append] at hx
 rcases hx with hx | hx
 ·exact not_mem_take hnod hkx hx
 ·obtain ⟨j, hj⟩ := List.getElem?_of_mem hx
  rw [List.getElem?_drop] at hj
  have := (List.getElem?_inj (List.getElem?_eq_some_iff.1 hj).1 hnod).1 (hj.trans hkx.symm)
  omega
theorem ins_facts {l : List Nat} {n k : Nat} (hnod : l.Nodup) (hn : n ∉ l) : (∀ x, x ∈ ins l k n ↔ x = n \/ x ∈ l) /\ (ins l k n).Nodup := by
 have hp : (ins l k n).Perm (n :: l) := by
  unfold ins
  have h1 : (l.take k ++ [n] ++ l.drop k).Perm ([n] ++ l.take k ++ l.drop k) := List.Perm.append_right _ List.perm_append_comm
  have h2 : [n] ++ l.take k ++ l.drop k = n :: l := by simp
  rw [h2] at h1
  exact h1
 refine ⟨fun x => by rw [hp.mem_iff, List.mem_cons], ?_⟩
 rw [hp.nodup_iff, List.nodup_cons]
 exact ⟨hn, hnod⟩
theorem within_hgt {D : Dc} (hw : WF D) {lv : Nat -> Nat} (hl : Lev D lv) {n : Nat} {s : Sl} (hs : sl D n = some s) : ∀ (m x : Nat) (t : Sl), sl D x = some t -> lv x <= m -> n ∈ ups D x -> ∀ k, k = lv x - lv n -> k + hgt D x <= hgt D n
 | 0, x, t, hx, hm, hn, k, hk => by
  rw [ups_step hl hx] at hn
  rcases List.mem_cons.1 hn with e | hn
  ·subst e
   omega
  ·have h1 := dep_par hl hx
   rcases h1.2 with e | ⟨q, hq⟩
   ·rw [e, ups_zero] at hn; cases hn
   ·have := (hl x t hx).2
    rcases this with h | ⟨q', hq', h⟩
    ·rw [h.1, sl_zero] at hq; cases hq
    ·omega
 | m + 1, x, t, hx, hm, hn, k, hk => by
  have hnx := hn
  rw [ups_step hl hx] at hn
  rcases List.mem_cons.1 hn with e | hn
  ·subst e
   omega
  ·have h1 := dep_par hl hx
   rcases h1.2 with e | ⟨q, hq⟩
   ·rw [e, ups_zero] at hn; cases hn
   ·have hlv : lv x = lv t.parent + 1 := by
     rcases (hl x t hx).2 with h | ⟨q', hq', h⟩
     ·rw [h.1, sl_zero] at hq; cases hq
     ·exact h
    have hge := (ups_one hl (lv t.parent) t.parent q hq (Nat.le_refl _)).1 n hn
    have ih := within_hgt hw hl hs m t.parent q hq (by omega) hn (lv t.parent - lv n) rfl
    have hst := hgt_step hw hq
    have hmem : x ∈ lst D t.parent := hw.up x t hx
    have hmx : hgt D x <= ((lst D t.parent).map (hgt D)).foldl max 0 := (foldl_max_ge _ 0).2 _ (List.mem_map.2 ⟨x, hmem, rfl⟩)
    omega
theorem hgt_pos {D : Dc} (hw : WF D) {x : Nat} {t : Sl} (hx : sl D x = some t) : 1 <= hgt D x := by
 rw [hgt_step hw hx]
 omega
theorem slots_setPar {D : Dc} {n p : Nat} {s : Sl} (hs : sl D n = some s) : (setPar D n p).S.length = D.S.length /\ ∀ (j : Nat) (t : Sl), (setPar D n p).S[j]? = some t -> ∃ t1, D.S[j]? = some t1 /\ (t = t1 \/ (t1.live = true /\ t = { t1 with parent := p })) := by
 obtain ⟨i, ha, hi, e⟩ := setPar_of (p := p) hs
 rw [e]
 refine ⟨by simp [setS], fun j t ht => ?_⟩
 have ht' : (D.S.set i { s with parent := p })[j]? = some t := ht
 by_cases e : i = j
 ·subst e
  rw [List.getElem?_set_self (List.getElem?_eq_some_iff.1 hi).1] at ht'
  cases ht'
  obtain ⟨_, _, _, hlv, _⟩ := sl_live hs
  exact ⟨s, hi, .inr ⟨hlv, rfl⟩⟩
 ·rw [List.getElem?_set_ne e] at ht'
  exact ⟨t, ht', .inl rfl⟩
theorem WF.put {D : Dc} (hw : WF D) {n p k : Nat} {s : Sl} (hs : sl D n = some s) (hp : p = 0 \/ ∃ q, sl D p = some q) (hup : n ∉ ups D p) (hkd : ∀ q, sl D p = some q -> q.kind ≠ 2) (hht : (ups D p).length + hgt D n <= 64) :
  WF (setPar (setL (outD D n s) p (ins (lst (outD D n s) p) k n)) n p) := by
 obtain ⟨lv, hl⟩ := hw.lev
 obtain ⟨kk, hk, hkx, hkl⟩ := idxH_mem (hw.up n s hs)
 have hsp := (dep_par hl hs).2
 obtain ⟨hcut, hcnd⟩ := cut_facts (hw.nodup s.parent) hkx
 have hE : outD D n s = setL D s.parent ((lst D s.parent).take kk ++ (lst D s.parent).drop (kk + 1)) := by
  unfold outD
  rw [hk, Int.toNat_natCast]
 rw [hE]
 generalize hl' : (lst D s.parent).take kk ++ (lst D s.parent).drop (kk + 1) = l' at *
 have hlE : ∀ q, lst (setL D s.parent l') q = if q = s.parent then l' else lst D q := fun q => by
  by_cases e : q = s.parent
  ·rw [if_pos e, e, lst_setL_eq hsp]
  ·rw [if_neg e, lst_setL_ne e]
 have hspl : s.parent ≠ 0 -> ∀ t1, sl D s.parent = some t1 -> t1.kids ≠ [] := fun h0 t1 ht1 he => by
  have := hw.up n s hs
  rw [lst, if_neg h0, ht1] at this
  simp only [he] at this
  simp at this
 obtain ⟨sE, hsE, hsEp⟩ := sl_setL_into (p := s.parent) (l' := l') hs
 have hpE : p = 0 \/ ∃ q, sl (setL D s.parent l') p = some q := hp.imp id (fun ⟨q, hq⟩ => by obtain ⟨q', h1, _⟩ := sl_setL_into (p := s.parent) (l' := l') hq; exact ⟨q', h1⟩)
 have hnE : n ∉ lst (setL D s.parent l') p := fun hm => by
  rw [hlE] at hm
  by_cases e : p = s.parent
  ·rw [if_pos e] at hm
   exact ((hcut n).1 hm).2 rfl
  ·rw [if_neg e] at hm
   obtain ⟨t, h1, h2⟩ := hw.down p hp n hm
   rw [hs] at h1
   cases h1
   exact e h2.symm
 have hndE : (lst (setL D s.parent l') p).Nodup := by
  rw [hlE]
  split
  ·exact hcnd
  ·exact hw.nodup p
 obtain ⟨hins, hind⟩ := ins_facts (k := k) hndE hnE
 generalize hl2 : ins (lst (setL D s.parent l') p) k n = l2 at *
 obtain ⟨s2, hs2, hs2p⟩ := sl_setL_into (p := p) (l' := l2) hsE
 have hlF : ∀ q, lst (setPar (setL (setL D s.parent l') p l2) n p) q = if q = p then l2 else lst (setL D s.parent l') q := fun q => by
  rw [lst_setPar hs2]
  by_cases e : q = p
  ·rw [if_pos e, e, lst_setL_eq hpE]
  ·rw [if_neg e, lst_setL_ne e]
 have hfrom : ∀ x t, sl (setPar (setL (setL D s.parent l') p l2) n p) x = some t -> ∃ t0, sl D x = some t0 /\ t.parent = if x = n then p else t0.parent := fun x t ht => by
  rw [sl_setPar hs2] at ht
  by_cases e : x = n
  ·rw [if_pos e] at ht
   cases ht
   exact ⟨s, by rw [e]; exact hs, by rw [if_pos e]⟩
  ·rw [if_neg e] at ht
   obtain ⟨t1, h1, h2⟩ := sl_setL_from ht
   obtain ⟨t0, h3, h4⟩ := sl_setL_from h1
   exact ⟨t0, h3, by rw [if_neg e, h2, h4]⟩
 have hinto : ∀ x t0, sl D x = some t0 -> ∃ t, sl (setPar (setL (setL D s.parent l') p l2) n p) x = some t /\ t.parent = if x = n then p else t0.parent := fun x t0 ht => by
  rw [sl_setPar hs2]
  by_cases e : x = n
  ·rw [if_pos e, if_pos e]
   exact ⟨_, rfl, rfl⟩
  ·rw [if_neg e, if_neg e]
   obtain ⟨t1, h1, h2⟩ := sl_setL_into (p := s.parent) (l' := l') ht
   obtain ⟨t2, h3, h4⟩ := sl_setL_into (p := p) (l' := l2) h1
   exact ⟨t2, h3, by rw [h4, h2]⟩
 obtain ⟨c1, c2⟩ := slots_setPar (p := p) hs2
 obtain ⟨d1, d2⟩ := slots_setL (D := setL D s.parent l') (p := p) (l' := l2)
 obtain ⟨f1, f2⟩ := slots_setL (D := D) (p := s.parent) (l' := l')
 have hS : ∀ (j : Nat) (t : Sl), (setPar (setL (setL D s.parent l') p l2) n p).S[j]? = some t -> ∃ t1, D.S[j]? = some t1 /\ t.gen = t1.gen /\ t.live = t1.live /\ t.kind = t1.kind /\ t.name = t1.name /\ t.attrs = t1.attrs /\ t.text = t1.text /\ (t = t1 \/ t1.live = true) /\ (t.kids = t1.kids \/ t1.kind ≠ 2) := fun j t ht => by
  obtain ⟨t3, g1, g2⟩ := c2 j t ht
  obtain ⟨t2, k1, k2⟩ := d2 j t3 g1
  obtain ⟨t1, m1, m2⟩ := f2 j t2 k1
  have hA : t2.gen = t1.gen /\ t2.live = t1.live /\ t2.kind = t1.kind /\ t2.name = t1.name /\ t2.attrs = t1.attrs /\ t2.text = t1.text /\ (t2 = t1 \/ t1.live = true) /\ (t2.kids = t1.kids \/ t1.kind ≠ 2) := by
   rcases m2 with rfl | ⟨e1, e0, rfl⟩
   ·exact ⟨rfl, rfl, rfl, rfl, rfl, rfl, .inl rfl, .inl rfl⟩
   ·obtain ⟨_, _, h3, h4, _⟩ := sl_live e1
    refine ⟨rfl, rfl, rfl, rfl, rfl, rfl, .inr h4, .inr (fun h2 => ?_)⟩
    exact hspl e0 t1 e1 (((hw.used j t1 m1 h4).1 h2).1)
  have hB : t3.gen = t2.gen /\ t3.live = t2.live /\ t3.kind = t2.kind /\ t3.name = t2.name /\ t3.attrs = t2.attrs /\ t3.text = t2.text /\ (t3 = t2 \/ t2.live = true) /\ (t3.kids = t2.kids \/ t2.kind ≠ 2) := by
   rcases k2 with rfl | ⟨e1, e0, rfl⟩
   ·exact ⟨rfl, rfl, rfl, rfl, rfl, rfl, .inl rfl, .inl rfl⟩
   ·obtain ⟨_, _, _, h4, _⟩ := sl_live e1
    refine ⟨rfl, rfl, rfl, rfl, rfl, rfl, .inr h4, .inr (fun h2 => ?_)⟩
    obtain ⟨q, hq⟩ := hp.resolve_left e0
    by_cases ep : p = s.parent
    ·rw [<- ep, sl_setL_eq hq] at e1
     cases e1
     exact hkd q hq h2
    ·rw [sl_setL_ne ep, hq] at e1
     cases e1
     exact hkd t2 hq h2
  obtain ⟨a1, a2, a3, a4, a5, a6, a7, a8⟩ := hA
  obtain ⟨b1, b2, b3, b4, b5, b6, b7, b8⟩ := hB
  have hC : t.gen = t3.gen /\ t.live = t3.live /\ t.kind = t3.kind /\ t.name = t3.name /\ t.attrs = t3.attrs /\ t.text = t3.text /\ (t = t3 \/ t3.live = true) /\ t.kids = t3.kids := by
   rcases g2 with rfl | ⟨h1, rfl⟩
   ·exact ⟨rfl, rfl, rfl, rfl, rfl, rfl, .inl rfl, rfl⟩
   ·exact ⟨rfl, rfl, rfl, rfl, rfl, rfl, .inr h1, rfl⟩
  obtain ⟨q1, q2, q3, q4, q5, q6, q7, q8⟩ := hC
  refine ⟨t1, m1, q1.trans (b1.trans a1), q2.trans (b2.trans a2), q3.trans (b3.trans a3), q4.trans (b4.trans a4), q5.trans (b5.trans a5), q6.trans (b6.trans a6), ?_, ?_⟩
  ·rcases q7 with rfl | h
   ·rcases b7 with rfl | h
    ·exact a7
    ·exact .inr (by rw [<- a2]; exact h)
   ·exact .inr (by rw [<- a2, <- b2]; exact h)
  ·rcases b8 with h | h
   ·rcases a8 with h' | h'
    ·exact .inl (q8.trans (h.trans h'))
    ·exact .inr h'
   ·exact .inr (by rw [<- a3]; exact h)
 have hdp : (ups D p).length = dep lv p := ups_length hl hp
 have hge : ∀ x t, sl D x = some t -> n ∈ ups D x -> lv n <= lv x := fun x t hx hn => (ups_one hl (lv x) x t hx (Nat.le_refl _)).1 n hn
 have hself : n ∈ ups D n := by rw [ups_step hl hs]; simp
 refine ⟨⟨by rw [c1, d1, f1]; exact hw.fits.len, fun j t ht => ?_⟩, fun j t ht => ?_, fun j t ht hd => ?_, fun j t ht hd => ?_, fun j t ht hd => ?_, ⟨fun x => if n ∈ ups D x then lv x - lv n + dep lv p else lv x, fun x t ht => ?_⟩, fun x t ht => ?_, fun q hq x hx => ?_, fun q => ?_⟩
 ·obtain ⟨t1, h1, h2, _⟩ := hS j t ht
  rw [h2]; exact hw.fits.gen j t1 h1
 ·obtain ⟨t1, h1, h2, _⟩ := hS j t ht
  rw [h2]; exact hw.gen1 j t1 h1
 ·obtain ⟨t1, h1, h2, h3, _, _, _, _, h8, _⟩ := hS j t ht
  rcases h8 with rfl | h8
  ·exact hw.dead j t h1 hd
  ·rw [h3, h8] at hd; cases hd
 ·obtain ⟨t1, h1, h2, h3, h4, h5, h6, h7, _, _⟩ := hS j t ht
  have := hw.own j t1 h1 (by rw [<- h3]; exact hd)
  have e : ndOf t = ndOf t1 := by simp [ndOf, h4, h5, h6, h7]
  rw [e]; exact this
 ·obtain ⟨t1, h1, h2, h3, h4, h5, h6, h7, _, h9⟩ := hS j t ht
  obtain ⟨u1, u2⟩ := hw.used j t1 h1 (by rw [<- h3]; exact hd)
  refine ⟨fun h => ?_, fun h => by rw [h7]; exact u2 (by rw [<- h4]; exact h)⟩
  rw [h4] at h
  obtain ⟨v1, v2, v3⟩ := u1 h
  rcases h9 with h9 | h9
  ·exact ⟨by rw [h9]; exact v1, by rw [h5]; exact v2, by rw [h6]; exact v3⟩
  ·exact absurd h h9
 ·obtain ⟨t0, h1, h2⟩ := hfrom x t ht
  by_cases hxn : x = n
  ·subst hxn
   rw [if_pos rfl] at h2
   rw [hs] at h1
   cases h1
   simp only [if_pos hself, Nat.sub_self, Nat.zero_add]
   have hb := hgt_pos hw hs
   refine ⟨by omega, ?_⟩
   rw [h2]
   rcases hp with rfl | ⟨q, hq⟩
   ·exact .inl ⟨rfl, rfl⟩
   ·right
    obtain ⟨q', e1, _⟩ := hinto p q hq
    refine ⟨q', e1, ?_⟩
    rw [if_neg hup]
    have h0 : p ≠ 0 := fun e => by rw [e, sl_zero] at hq; cases hq
    simp [dep, h0]
  ·rw [if_neg hxn] at h2
   obtain ⟨g1, g2⟩ := hl x t0 h1
   by_cases hin : n ∈ ups D x
   ·simp only [if_pos hin]
    have hin2 := hin
    rw [ups_step hl h1] at hin2
    have hin3 : n ∈ ups D t0.parent := by
     rcases List.mem_cons.1 hin2 with e | h
     ·exact absurd e.symm hxn
     ·exact h
    have h0 : t0.parent ≠ 0 := fun e => by rw [e, ups_zero] at hin3; cases hin3
    rcases g2 with g2 | ⟨q, hq, g3⟩
    ·exact absurd g2.1 h0
    ·have hq1 := hge t0.parent q hq hin3
     have hw1 := within_hgt hw hl hs (lv x) x t0 h1 (Nat.le_refl _) hin _ rfl
     have hp1 := hgt_pos hw h1
     refine ⟨by omega, .inr ?_⟩
     obtain ⟨q', e1, _⟩ := hinto t0.parent q hq
     rw [h2]
     refine ⟨q', e1, ?_⟩
     rw [if_pos hin3]
     omega
   ·simp only [if_neg hin]
    refine ⟨g1, ?_⟩
    rw [h2]
    rcases g2 with g2 | ⟨q, hq, g3⟩
    ·exact .inl g2
    ·right
     obtain ⟨q', e1, _⟩ := hinto t0.parent q hq
     refine ⟨q', e1, ?_⟩
     have hnin : n ∉ ups D t0.parent := fun h => hin (by rw [ups_step hl h1]; exact List.mem_cons_of_mem _ h)
     rw [if_neg hnin]
     exact g3
 ·obtain ⟨t0, h1, h2⟩ := hfrom x t ht
  rw [h2]
  by_cases hxn : x = n
  ·rw [if_pos hxn, hlF, if_pos rfl, hins]
   exact .inl hxn
  ·rw [if_neg hxn, hlF]
   have hu := hw.up x t0 h1
   have hxE : x ∈ lst (setL D s.parent l') t0.parent := by
    rw [hlE]
    by_cases e : t0.parent = s.parent
    ·rw [if_pos e, hcut]
     exact ⟨by rw [<- e]; exact hu, hxn⟩
    ·rw [if_neg e]; exact hu
   by_cases e : t0.parent = p
   ·rw [if_pos e, hins]
    exact .inr (by rw [<- e]; exact hxE)
   ·rw [if_neg e]; exact hxE
 ·have hq0 : q = 0 \/ ∃ t, sl D q = some t := hq.imp id (fun ⟨t, ht⟩ => by obtain ⟨t0, h1, _⟩ := hfrom q t ht; exact ⟨t0, h1⟩)
  have old : ∀ q, (q = 0 \/ ∃ t, sl D q = some t) -> x ∈ lst (setL D s.parent l') q -> x ≠ n -> ∃ t, sl (setPar (setL (setL D s.parent l') p l2) n p) x = some t /\ t.parent = q := fun q hq0 hxE hxn => by
   have hxD : x ∈ lst D q := by
    rw [hlE] at hxE
    by_cases e : q = s.parent
    ·rw [if_pos e] at hxE
     rw [e]; exact ((hcut x).1 hxE).1
    ·rw [if_neg e] at hxE; exact hxE
   obtain ⟨t0, h1, h2⟩ := hw.down q hq0 x hxD
   obtain ⟨t, h3, h4⟩ := hinto x t0 h1
   exact ⟨t, h3, by rw [h4, if_neg hxn, h2]⟩
  rw [hlF] at hx
  by_cases e : q = p
  ·rw [if_pos e, hins] at hx
   rcases hx with rfl | hx
   ·obtain ⟨t, h3, h4⟩ := hinto x s hs
    exact ⟨t, h3, by rw [h4, if_pos rfl, e]⟩
   ·exact old q hq0 (by rw [e]; exact hx) (fun h => hnE (h ▸ hx))
  ·rw [if_neg e] at hx
   refine old q hq0 hx (fun h => ?_)
   subst h
   rw [hlE] at hx
   by_cases e2 : q = s.parent
   ·rw [if_pos e2] at hx
    exact ((hcut x).1 hx).2 rfl
   ·rw [if_neg e2] at hx
    obtain ⟨t0, h1, h2⟩ := hw.down q hq0 x hx
    rw [hs] at h1
    cases h1
    exact e2 h2.symm
 ·rw [hlF]
  by_cases e : q = p
  ·rw [if_pos e]; exact hind
  ·rw [if_neg e, hlE]
   split
   ·exact hcnd
   ·exact hw.nodup q
theorem place_facts {D : Dc} (hw : WF D) {wh : Int} {a : Nat} (he : (placeE D wh a).2 = 0) (hpl : isPlaceB wh a = true) :
  (∀ q, sl D (placeE D wh a).1 = some q -> q.kind ≠ 2) /\ (∀ n, n ∉ ups D a -> n ∉ ups D (placeE D wh a).1) /\ (placeE D wh a).1 = arD D wh a /\ (wh = 1 \/ wh = 2 \/ ((wh = 3 \/ wh = 4) /\ a ∈ lst D (placeE D wh a).1)) := by
 obtain ⟨lv, hl⟩ := hw.lev
 have hpl' : wh = 1 \/ wh = 2 \/ ((wh = 3 \/ wh = 4) /\ a ≠ 0) := by simpa [isPlaceB] using hpl
 by_cases h0 : a = 0
 ·subst h0
  have e : placeE D wh 0 = (0, 0) := by simp [placeE]
  rw [e]
  refine ⟨(by intro q hq; rw [sl_zero] at hq; cases hq), fun n hn => hn, ?_, ?_⟩
  ·unfold arD
   split
   ·rename_i h
    rcases hpl' with h' | h' | h'
    ·omega
    ·omega
    ·exact absurd rfl h'.2
   ·rfl
  ·rcases hpl' with h' | h' | h'
   ·exact .inl h'
   ·exact .inr (.inl h')
   ·exact absurd rfl h'.2
 ·cases hs : sl D a with
  | none =>
   have e : placeE D wh a = (0, 8) := by simp [placeE, h0, hs]
   rw [e] at he
   cases he
  | some s =>
   by_cases hwh : wh <= 2
   ·by_cases hk : s.kind = 2
    ·have e : placeE D wh a = (0, 31) := by simp [placeE, h0, hs, hwh, hk]
     rw [e] at he
     cases he
    ·have e : placeE D wh a = (a, 0) := by simp [placeE, h0, hs, hwh, hk]
     rw [e]
     refine ⟨fun q hq => by rw [hs] at hq; cases hq; exact hk, fun n hn => hn, ?_, ?_⟩
     ·unfold arD
      rw [if_neg (by omega)]
     ·rcases hpl' with h' | h' | h'
      ·exact .inl h'
      ·exact .inr (.inl h')
      ·omega
   ·have e : placeE D wh a = (s.parent, 0) := by simp [placeE, h0, hs, hwh]
    rw [e]
    have hu := hw.up a s hs
    refine ⟨fun q hq hk => ?_, fun n hn h => hn ?_, ?_, ?_⟩
    ·obtain ⟨i, _, hi, hlv, _⟩ := sl_live hq
     have := ((hw.used i q hi hlv).1 hk).1
     have hp0 : s.parent ≠ 0 := fun e => by rw [e, sl_zero] at hq; cases hq
     rw [lst, if_neg hp0, hq] at hu
     simp only [this] at hu
     cases hu
    ·rw [ups_step hl hs]
     exact List.mem_cons_of_mem _ h
    ·unfold arD
     rw [if_pos (by omega)]
     simp [par, hs]
    ·rcases hpl' with h' | h' | h'
     ·omega
     ·omega
     ·exact .inr (.inr ⟨h'.1, hu⟩)
theorem link_any (w : World) (ro : Nat -> Nat) (db : Nat) (D : Dc) (n a p : Nat) (wh : Int) (hd : PDoc w ro db D) (hf : Fits D) (hal : a < 18446744073709551616) (hpl : p < 18446744073709551616) (hpp : p = 0 \/ ∃ s, sl D p = some s) (hll : (lst D p).length <= 4096) (har : arD D wh a = p)
  (hwh : wh = 1 \/ wh = 2 \/ ((wh = 3 \/ wh = 4) /\ a ∈ lst D p /\ ∃ s, sl D a = some s)) :
  Calls Try.prog 39 #[.pointer (some ⟨db, 0, none⟩), .int .u64 (n : Int), .int .i64 wh, .int .u64 (a : Int)] w (LinkP w ro db (setL D p (ins (lst D p) (whereN (lst D p) wh a) n))) := by
 rcases hwh with rfl | rfl | ⟨rfl | rfl, hm, hs⟩
 ·exact link_first w ro db D n a p hd hf hal hpl hpp hll har
 ·exact link_last w ro db D n a p hd hf hal hpl hpp hll har
 ·exact link_before w ro db D n a p hd hf hal hpl hpp hll har hm hs
 ·exact link_after w ro db D n a p hd hf hal hpl hpp hll har hm hs
theorem Fits.setS {D : Dc} (hf : Fits D) {i : Nat} {s s' : Sl} (hs : D.S[i]? = some s) (hg : s'.gen = s.gen) : Fits (setS D i s') := by
 refine ⟨by simp [Ytmapmkogjhinmaa.setS]; exact hf.len, fun j t ht => ?_⟩
 have ht' : (D.S.set i s')[j]? = some t := ht
 by_cases e : i = j
 ·subst e
  rw [List.getElem?_set_self (List.getElem?_eq_some_iff.1 hs).1] at ht'
  cases ht'
  rw [hg]
  exact hf.gen i s hs
 ·rw [List.getElem?_set_ne e] at ht'
  exact hf.gen j t ht'
theorem PDoc.parent {w : World} {ro : Nat -> Nat} {db : Nat} {E : Dc} (hd : PDoc w ro db E) {n p i : Nat} {s : Sl} (hs : sl E n = some s) (ha : atI E.S n = some i) (hi : E.S[i]? = some s) :
  ∃ g scap, w.cell? ⟨db, 0, none⟩ = some (.slice (some ⟨g, 0, none⟩) E.S.length scap) /\ ro g ≠ 0 /\ g < w.heap.size /\ ∀ W, Below w.heap.size w W -> (∃ u, W.cell? ⟨g, i * 8 + 6, none⟩ = some (.int .u64 u)) /\ W.frozen? ⟨g, i * 8 + 6, none⟩ = false /\ PDoc (W.setCell ⟨g, i * 8 + 6, none⟩ (.int .u64 (p : Int))) ro db (setPar E n p) := by
 obtain ⟨sa, scap, ra, rcap, L, h⟩ := hd
 obtain ⟨g, q, rfl, hg2, hq, hcap, hhd, hcl⟩ := h.slot hi
 refine ⟨g, scap, hhd, by omega, h.lt g (by omega), fun W hW => ?_⟩
 have h' := h.below hW
 obtain ⟨g', q', e, _, hq', _, _, hcl'⟩ := h'.slot hi
 cases e
 obtain ⟨i', ha', hi', e⟩ := setPar_of (p := p) hs
 rw [ha] at ha'
 cases ha'
 refine ⟨⟨_, (hcl' 6 _ rfl).1⟩, (hcl' 6 _ rfl).2, ?_⟩
 rw [e]
 exact ⟨_, _, _, _, _, h'.store (s' := { s with parent := p }) hi hq' (by omega) rfl rfl rfl rfl⟩
structure PE (w : World) (ro : Nat -> Nat) (db : Nat) (D' : Dc) (w' : World) (ro' : Nat -> Nat) : Prop where
 turn : Turn (fun b => ro b ≠ 0) w w'
 doc : PDoc w' ro' db D'
 from' : ∀ b, ro' b ≠ 0 -> ro b ≠ 0 \/ w.heap.size <= b
theorem PE.refl {w w' : World} {ro : Nat -> Nat} {db : Nat} {D : Dc} (h : PDoc w ro db D) (hb : Below w.heap.size w w') : PE w ro db D w' ro := by
 obtain ⟨sa, scap, ra, rcap, L, h⟩ := h
 exact ⟨(below_turn hb).mono (fun _ _ h => h.elim), ⟨sa, scap, ra, rcap, L, h.below hb⟩, fun b hb => .inl hb⟩
theorem PE.trans {w w1 w2 : World} {ro ro1 ro2 : Nat -> Nat} {db : Nat} {D E : Dc} (h : PE w ro db D w1 ro1) (k : PE w1 ro1 db E w2 ro2) : PE w ro db E w2 ro2 := by
 refine ⟨⟨k.turn.os.trans h.turn.os, k.turn.tape.trans h.turn.tape, k.turn.output.trans h.turn.output, Nat.le_trans h.turn.size k.turn.size, fun b hb hn => ?_⟩, k.doc, fun b hb => ?_⟩
 ·rw [k.turn.block b (Nat.lt_of_lt_of_le hb h.turn.size) (fun h1 => ?_), h.turn.block b hb hn]
  rcases h.from' b h1 with h2 | h2
  ·exact hn h2
  ·omega
 ·rcases k.from' b hb with h1 | h1
  ·exact h.from' b h1
  ·exact .inr (Nat.le_trans h.turn.size h1)
theorem PE.below {w w1 w2 : World} {ro ro1 : Nat -> Nat} {db : Nat} {D : Dc} (h : PE w ro db D w1 ro1) (hb : Below w1.heap.size w1 w2) : PE w ro db D w2 ro1 := h.trans (PE.refl h.doc hb)
theorem PE.cell {w w1 : World} {ro ro1 : Nat -> Nat} {db : Nat} {D E : Dc} (h : PE w ro db D w1 ro1) {g o : Nat} {u : Value} (hg : ro1 g ≠ 0) (hd : PDoc (w1.setCell ⟨g, o, none⟩ u) ro1 db E) : PE w ro db E (w1.setCell ⟨g, o, none⟩ u) ro1 :=
 h.trans ⟨Turn.setCell (A := fun b => ro1 b ≠ 0) (Turn.refl _ _) (p := ⟨g, o, none⟩) hg _, hd, fun b hb => .inl hb⟩
end Go.Proofs.Ytmapmkogjhinmaa
