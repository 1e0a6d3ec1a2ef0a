/- Subtree, by the document. -/
import Derived.Test.YtjkgjckkglfokaaGreatU01
import Derived.Test.YtjkgjckkglfokaaGreatU08
import Derived.WalkSpells
import Derived.WalkLawsBesides
import Derived.Deep.QuietTactic
import Derived.BigQuiet
import Derived.Maps.AppendAt
import Derived.Deep.AppendSrc
import Derived.Deep.RegionHeld3
import Derived.Deep.RegionLaw
import Derived.OwnWalk
import Derived.Laws.CopyRow
import Derived.Lib.AppendZerosOnto
import Derived.Lib.Overlaps
import Derived.Laws.Externs
namespace Go.Proofs.YtjkgjckkglfokaaGreat.Gr
open Go.RowKit
set_option linter.unusedVariables false
set_option linter.unusedSimpArgs false
set_option maxRecDepth 100000
set_option maxHeartbeats 1000000
theorem WF.alen {D : Dc} (hw : WF D) {h : Nat} {s : Sl} (e : sl D h = some s) : s.attrs.length <= 32 := by
 obtain ⟨i, _, h2, h3, _⟩ := sl_live e
 rcases hw.kind e with hk | hk
 ·have ho := hw.own i s h2 h3
  unfold ownE ndOf at ho
  simp only [hk, if_true] at ho
  split at ho
  ·unfold attrsE at ho
   split at ho
   ·omega
   ·omega
  ·omega
 ·rw [((hw.used i s h2 h3).1 hk).2.2]
  simp
theorem grown_box {w3 w4 : World} {o o' : Obj} {bx : Nat} {row : Option Nat} (hg : ((w3.alloc o).alloc o').grownBy w4 row) (hbx : bx < w3.heap.size) (hne : some bx ≠ row) : w4.heap[bx]? = w3.heap[bx]? :=
 (hg.block bx (by simp; omega) hne).trans ((Below.heap_alloc _ _ _ (by simp; omega)).trans (Below.heap_alloc _ _ _ hbx))
theorem rsub_walk (w : World) (R : Nat -> Prop) (db : Nat) (D : Dc) (h : Nat) (s : Sl) (m : Nat) (L : List (T m)) (hv : View w R db D) (hw : WF D) (hs : sl D h = some s) (hL : L.length = (lst D h).length)
  (hK : ∀ (i x : Nat), (lst D h)[i]? = some x -> ∃ k, L[i]? = some k /\ ∀ W, View W R db D -> Calls Tryz.prog 78 #[.pointer (some ⟨db, 0, none⟩), .int .u64 (x : Int)] W (SubP W R m k)) :
  Calls Tryz.prog 78 #[.pointer (some ⟨db, 0, none⟩), .int .u64 (h : Int)] w (SubP w R (m + 1) (mkN s L : Nd (T m))) := by
 obtain ⟨hhl, h0, i, hai, hsi, -⟩ := hw.lt hs
 have hal := hw.alen hs
 have hll := lst_len hw (.inr ⟨s, hs⟩ : h = 0 \/ ∃ s, sl D h = some s)
 obtain ⟨aa, ac, hac, hat0, hget⟩ := rget_some (w.alloc (.cells #[.int .i64 0, .string ⟨#[]⟩, .slice none 0 0, .string ⟨#[]⟩, .slice none 0 0] 31)) R db D h i s (hv.below (below_new' w _)) hw.fits hhl hai hsi
 have HAT := hid (hat0.to (fun _ h => h) (fun b o hb => ((below_new' w _).cell (p := ⟨b, o, none⟩) (hv.lt b hb)).symm))
 have HLV : Hid (∀ W, Below w.heap.size w W -> ∃ a cap, (lst D h).length <= cap /\ HandsAt W R a (lst D h) /\ Calls Tryz.prog 32 #[.pointer (some ⟨db, 0, none⟩), .int .u64 (h : Int)] W fun e w' => e = .returned (.slice a (lst D h).length cap) /\ Below W.heap.size W w') := fun W hb => rlist_any W R db D h (hv.below hb) hw.fits hhl (.inr ⟨s, hs⟩)
 have HV := hid hv
 have HR := hid hv.lt
 have HK := hid hK
 have HL := hid hL
 clear hat0 hv hw hs hai hsi hK hL
 generalize lst D h = l at *
 unfold tv at hget
 go_enter Tryz.func78, Tryz.ntmps78
 go_wp2_with fail
 refine hget.mono ?_
 rintro e w1 ⟨rfl, hb1⟩
 have hs1 : w.heap.size + 1 <= w1.heap.size := by have := hb1.size; simpa using this
 have HB1 := hid ((below_new' w _).trans (hb1.mono (by simp)))
 have HRES := hid ((isCells_new w _ 31).of_block (hb1.block _ (by simp)))
 clear hb1 hget
 obtain ⟨ha, hcap, hlc, hlat, hcal⟩ := HLV.out (w1.alloc (.cells #[.int .i64 s.kind, .string s.name, .slice aa s.attrs.length ac, .string s.text, .slice none 0 0] 31)) (HB1.out.alloc (by omega) _)
 have HLA := hid (hlat.to (fun _ h => h) (fun b o hb => ((HB1.out.alloc (by omega) _).cell (p := ⟨b, o, none⟩) (HR.out b hb)).symm))
 clear hlat HLV
 go_wp2_with fail
 refine hcal.mono ?_
 rintro e w2 ⟨rfl, hb2⟩
 have hs2 : w1.heap.size + 1 <= w2.heap.size := by have := hb2.size; simpa using this
 have HST : Hid (SubSt w w2 R m s L aa ac w1.heap.size 0 none 0 []) :=
  ⟨(HRES.out.alloc _).of_block (hb2.block _ (by simp; omega)), (isCells_new w1 _ 31).of_block (hb2.block _ (by simp)), by omega, own_nil _ _ _ _, by rw [List.take_zero]; exact CopiesAt.nil _ _ _, (HB1.out.alloc (by omega) _).trans (hb2.mono (by simp; omega))⟩
 clear hb2 hcal HRES
 go_wp2
 go_loopw [9, 10, 11] (fun iv _ _ wr => ∃ (i : Nat) (la : Option Addr) (lcap : Nat) (xs : List Value), i <= l.length /\ iv = .int .i64 (i : Int) /\ Hid (SubSt w wr R m s L aa ac w1.heap.size i la lcap xs)) (fun iv _ _ _ => l.length - (intOf iv).toNat)
 case atStart => exact ⟨0, none, 0, [], Nat.zero_le _, rfl, HST⟩
 case round =>
  obtain ⟨j, la, lcap, xs, hj, rfl, hst⟩ := hrel
  have hc := hst.out.box.cell
  have hf := hst.out.box.frozen
  have hr := hst.out.res.cell
  have hrf := hst.out.res.frozen
  have hbs := hst.out.bel.size
  have hrl := hst.out.res.lt
  have hbl := hst.out.box.lt
  clear HST
  by_cases hlt : j < l.length
  ·obtain ⟨x, hx⟩ : ∃ x, l[j]? = some x := ⟨_, List.getElem?_eq_getElem hlt⟩
   obtain ⟨k, hk, hcalls⟩ := HK.out j x hx
   obtain ⟨b, o, rfl, hbR, hcx⟩ := HLA.out j x hx
   have hbb := HR.out b hbR
   have hcx' : wr.cell? ⟨b, o + j, none⟩ = some (.int .u64 (x : Int)) := (hst.out.bel.cell (p := ⟨b, _, none⟩) hbb).trans hcx
   have hbr : b < wr.heap.size := by omega
   have hcall := hcalls wr (HV.out.below hst.out.bel)
   have HKK := hid hk
   clear hk hcalls hx hcx
   go_wp2_with fail
   refine hcall.mono ?_
   rintro e w3 ⟨u, rfl, htu, hbu⟩
   obtain ⟨hcb, hfb⟩ := bcell hbu
   have hs3 := hbu.size
   obtain ⟨kk', nm', a'', al'', ac'', tx', ka3, kl3, kc3, rfl⟩ := htu.form
   have HTU := hid htu
   have HBU := hid hbu
   have hc4 : w3.cell? ⟨w1.heap.size, 4, none⟩ = some (.slice la j lcap) := by rw [hcb _ _ hbl, hc]; rfl
   have hf4 : w3.frozen? ⟨w1.heap.size, 4, none⟩ = false := by rw [hfb _ _ hbl, hf]
   have hb3 : w1.heap.size < w3.heap.size := by omega
   clear htu hbu hcall hcx' hc hf hcb hfb hr hrf
   have tok2 : True := trivial
   go_wp2_with (at_builtin; have _t := tok2; refine wpList_app rfl _ _ rfl Tryz.underlying29 info25 rfl (by decide) (w1.heap.size + 1) (.slice la j lcap) j xs rfl (own_of_block hst.out.own (fun k hk => (Below.heap_alloc _ _ _ (by have := (own_block_lt hst.out.own k hk).2; simp; omega)).trans ((Below.heap_alloc _ _ _ (by have := (own_block_lt hst.out.own k hk).2; omega)).trans (HBU.out.block k (own_block_lt hst.out.own k hk).2)))) (some ⟨w3.heap.size + 1, 0, none⟩) 1 1 [.int .i64 kk', .string nm', .slice a'' al'' ac'', .string tx', .slice ka3 kl3 kc3] rfl rfl (by have := news_new (w3.alloc (.cells #[.int .i64 kk', .string nm', .slice a'' al'' ac'', .string tx', .slice ka3 kl3 kc3] 31)) #[.int .i64 kk', .string nm', .slice a'' al'' ac'', .string tx', .slice ka3 kl3 kc3] 31; simpa using this) (tree_one _ _ _ _ _ _ _ _ _) (by unfold maxLen; omega) (by omega) (by simp; omega) ?_; intro v3 w4 hown3 hg3 _ hat3; clear tok2 _t; obtain ⟨la', lcap', hv3⟩ := own_slice hown3; subst hv3; have hgb := grown_box hg3 hb3 (fun e => by have := (own_block_lt hst.out.own _ e.symm).1; omega); have hc44 : w4.cell? ⟨w1.heap.size, 4, none⟩ = some (.slice la j lcap) := (World.cell?_of_block (w := w3) (a := ⟨w1.heap.size, 4, none⟩) hgb).trans hc4; have hf44 : w4.frozen? ⟨w1.heap.size, 4, none⟩ = false := (World.frozen?_of_block (w := w3) (a := ⟨w1.heap.size, 4, none⟩) hgb).trans hf4; have HST3 := hid (hst.out.step HR.out HKK.out HTU.out HBU.out hown3 hg3 (by simpa using hat3)); clear hown3 hg3 hat3 HTU HBU HKK hst hgb hc4 hf4)
   go_roundw
   case rel => exact ⟨j + 1, la', lcap', _, by omega, by go_num, HST3⟩
   case measure => simp [intOf]; omega
  ·have hje : j = l.length := by omega
   subst hje
   have hN := HL.out
   clear HK hlt
   go_wp2
   refine bodyPost_ret (v := .tuple #[.agg #[.int .i64 s.kind, .string s.name, .slice aa s.attrs.length ac, .string s.text, .slice la l.length lcap], .int .i64 0]) (by simp [results, Tryz.results78, go_sem, hr]) rfl ⟨_, rfl, ?_⟩
   have hs9 := hst.out
   rw [<- hN] at hs9 ⊢
   exact hs9.done HR.out HAT.out (by unfold maxA; omega) (by unfold maxK; omega) hac ((((((Turn.refl (fun b => b = w.heap.size) wr).setCell (A := fun b => b = w.heap.size) (p := ⟨w.heap.size, 0, none⟩) rfl _).setCell (A := fun b => b = w.heap.size) (p := ⟨w.heap.size, 1, none⟩) rfl _).setCell (A := fun b => b = w.heap.size) (p := ⟨w.heap.size, 2, none⟩) rfl _).setCell (A := fun b => b = w.heap.size) (p := ⟨w.heap.size, 3, none⟩) rfl _).setCell (A := fun b => b = w.heap.size) (p := ⟨w.heap.size, 4, none⟩) rfl _)
theorem kidT_succ (D : Dc) (m h : Nat) : kidT D (m + 1) h = (lst D h).map (subT D m) := rfl
theorem slD_of {D : Dc} {h : Nat} {s : Sl} (e : sl D h = some s) : slD D h = s := by simp [slD, e]
theorem rsub_any (D : Dc) (R : Nat -> Prop) (db : Nat) (lv : Nat -> Nat) (hw : WF D) (hl : Lev D lv) : ∀ (m : Nat) (w : World) (h : Nat) (s : Sl), View w R db D -> sl D h = some s -> 63 - lv h <= m ->
  Calls Tryz.prog 78 #[.pointer (some ⟨db, 0, none⟩), .int .u64 (h : Int)] w (SubP w R (m + 1) (subT D m h))
 | 0, w, h, s, hv, hs, hm => by
  have hnil : lst D h = [] := by
   cases he : lst D h with
   | nil => rfl
   | cons c r =>
    obtain ⟨s', h1, _, h2⟩ := hw.kid hl hs (c := c) (by rw [he]; simp)
    have := (hl c s' h1).1
    omega
  have := rsub_walk w R db D h s 0 (kidT D 0 h) hv hw hs (by rw [hnil]; rfl) (fun i x hx => by rw [hnil] at hx; simp at hx)
  unfold subT
  rw [slD_of hs]
  exact this
 | m + 1, w, h, s, hv, hs, hm => by
  have := rsub_walk w R db D h s (m + 1) (kidT D (m + 1) h) hv hw hs (by rw [kidT_succ, List.length_map]) (fun i x hx => by
   refine ⟨subT D m x, by rw [kidT_succ, List.getElem?_map, hx]; rfl, fun W hW => ?_⟩
   obtain ⟨s', h1, _, h2⟩ := hw.kid hl hs (List.mem_of_getElem? hx)
   exact rsub_any D R db lv hw hl m W x s' hW h1 (by omega))
  unfold subT
  rw [slD_of hs]
  exact this
end Go.Proofs.YtjkgjckkglfokaaGreat.Gr
/- Forest, by the document. -/
namespace Go.Proofs.YtjkgjckkglfokaaGreat.Gr
open Go.RowKit
set_option linter.unusedVariables false
set_option linter.unusedSimpArgs false
end Go.Proofs.YtjkgjckkglfokaaGreat.Gr
/- Lists set and read again; a node in plain counted; where a place lies. -/
namespace Go.Proofs.YtjkgjckkglfokaaGreat.Gr
open Go.RowKit
set_option linter.unusedVariables false
set_option linter.unusedSimpArgs false
theorem setL_zero (D : Dc) (l' : List Nat) : setL D 0 l' = { D with roots := l' } := by simp [setL]
theorem setL_some {D : Dc} {p i : Nat} {s : Sl} {l' : List Nat} (h0 : p ≠ 0) (ha : atI D.S p = some i) (hs : D.S[i]? = some s) : setL D p l' = { D with S := D.S.set i { s with kids := l' } } := by
 simp only [setL, if_neg h0, ha, hs]
theorem sl_setL_ne {D : Dc} {p q : Nat} {l' : List Nat} (hne : q ≠ p) : sl (setL D p l') q = sl D q := by
 by_cases h0 : p = 0
 ·subst h0; rw [setL_zero]; rfl
 ·cases ha : atI D.S p with
  | none => simp only [setL, if_neg h0, ha]
  | some i =>
   obtain ⟨s, hs, hl, _, _, _, hp⟩ := atI_some ha
   rw [setL_some h0 ha hs]
   have h1 := atI_set_same (h := q) (j := 0) (s' := { s with kids := l' }) hs rfl rfl
   simp only [sl, h1]
   cases hq : atI D.S q with
   | none => rfl
   | some j =>
    obtain ⟨t, ht, _, _, _, _, hqq⟩ := atI_some hq
    simp only [Option.bind_some]
    have hij : i ≠ j := by
     rintro rfl
     rw [hs] at ht
     cases ht
     exact hne (hqq.trans hp.symm)
    rw [List.getElem?_set_ne hij]
theorem sl_setL_eq {D : Dc} {p : Nat} {s : Sl} {l' : List Nat} (hs : sl D p = some s) : sl (setL D p l') p = some { s with kids := l' } := by
 have h0 : p ≠ 0 := by rintro rfl; rw [sl_zero] at hs; cases hs
 obtain ⟨i, ha, hsi, _, _⟩ := sl_live hs
 rw [setL_some h0 ha hsi]
 have h1 := atI_set_same (h := p) (j := 0) (s' := { s with kids := l' }) hsi rfl rfl
 simp only [sl, h1, ha, Option.bind_some]
 exact List.getElem?_set_self (List.getElem?_eq_some_iff.1 hsi).1
theorem lst_setL_eq {D : Dc} {p : Nat} {l' : List Nat} (hp : p = 0 \/ ∃ s, sl D p = some s) : lst (setL D p l') p = l' := by
 rcases hp with rfl | ⟨s, hs⟩
 ·rw [setL_zero]; rfl
 ·have h0 : p ≠ 0 := by rintro rfl; rw [sl_zero] at hs; cases hs
  simp only [lst, if_neg h0, sl_setL_eq hs]
theorem roots_setL {D : Dc} {p : Nat} {l' : List Nat} (h0 : p ≠ 0) : (setL D p l').roots = D.roots := by
 unfold setL
 rw [if_neg h0]
 split
 ·rfl
 ·split <;> rfl
theorem lst_setL_ne {D : Dc} {p q : Nat} {l' : List Nat} (hne : q ≠ p) : lst (setL D p l') q = lst D q := by
 unfold lst
 by_cases h0 : q = 0
 ·rw [if_pos h0, if_pos h0, roots_setL (by omega)]
 ·rw [if_neg h0, if_neg h0, sl_setL_ne hne]
def outD (D : Dc) (n : Nat) (s : Sl) : Dc := setL D s.parent ((lst D s.parent).take (idxH (lst D s.parent) n).toNat ++ (lst D s.parent).drop ((idxH (lst D s.parent) n).toNat + 1))
def putD (D : Dc) (n p : Nat) (wh : Int) (a : Nat) : Dc := setPar (setL D p (ins (lst D p) (whereN (lst D p) wh a) n)) n p
def placeE (D : Dc) (wh : Int) (a : Nat) : Nat × Int := if a = 0 then (0, 0) else match sl D a with
 | none => (0, 8)
 | some s => if wh <= 2 then (if s.kind = 2 then (0, 31) else (a, 0)) else (s.parent, 0)
theorem rplace_any (w : World) (R : Nat -> Prop) (db : Nat) (D : Dc) (wh : Int) (a : Nat) (hv : View w R db D) (hw : WF D) (hal : a < 18446744073709551616) (h : isPlaceB wh a = true) :
  Calls Tryz.prog 70 #[.pointer (some ⟨db, 0, none⟩), .int .i64 wh, .int .u64 (a : Int)] w (RplP w (placeE D wh a).1 (placeE D wh a).2) := by
 by_cases h0 : a = 0
 ·subst h0
  have e : placeE D wh 0 = (0, 0) := by simp [placeE]
  rw [e]
  simp only [isPlaceB, decide_eq_true_eq] at h
  exact rplace_zero w db wh (by omega)
 ·cases hs : sl D a with
  | none =>
   have e : placeE D wh a = (0, 8) := by simp only [placeE, if_neg h0, hs]
   rw [e]
   exact rplace_node w R db D wh a hv hw.fits hal h h0 (sl_none hs)
  | some s =>
   have e : placeE D wh a = if wh <= 2 then (if s.kind = 2 then (0, 31) else (a, 0)) else (s.parent, 0) := by simp only [placeE, if_neg h0, hs]
   rw [e]
   simp only [isPlaceB, decide_eq_true_eq] at h
   exact rplace_some w R db D wh a s hv hw (by omega) hs _ _ rfl
theorem mem_cut {l : List Nat} {k n a : Nat} (hk : l[k]? = some n) (ha : a ∈ l) (hne : a ≠ n) : a ∈ l.take k ++ l.drop (k + 1) := by
 obtain ⟨j, hj⟩ := List.getElem?_of_mem ha
 rw [List.mem_append]
 rcases Nat.lt_trichotomy j k with h | h | h
 ·exact .inl (List.mem_of_getElem? (i := j) (by rw [List.getElem?_take_of_lt h]; exact hj))
 ·subst h; rw [hj] at hk; cases hk; exact absurd rfl hne
 ·exact .inr (List.mem_of_getElem? (i := j - (k + 1)) (by rw [List.getElem?_drop, show k + 1 + (j - (k + 1)) = j from by omega]; exact hj))
theorem kids_sub {D : Dc} (hw : WF D) {h : Nat} {s : Sl} (hs : sl D h = some s) (m : Nat) : kidsT (subT D m h : Nd (T m)) = kidT D m h := by
 unfold kidsT
 have e : (subT D m h : Nd (T m)) = (mkN s (kidT D m h) : Nd (T m)) := by unfold subT; rw [slD_of hs]
 rw [e]
 show (if s.kind = 1 then kidT D m h else []) = kidT D m h
 rcases hw.kind hs with hk | hk
 ·rw [if_pos hk]
 ·rw [if_neg (by omega)]
  obtain ⟨i, _, h2, h3, _⟩ := sl_live hs
  have hnil := ((hw.used i s h2 h3).1 hk).1
  cases m with
  | zero => rfl
  | succ m =>
   have h0 : h ≠ 0 := by rintro rfl; rw [sl_zero] at hs; cases hs
   rw [kidT_succ]
   simp [lst, h0, hs, hnil]
theorem leaf_nil {D : Dc} (hw : WF D) {lv : Nat -> Nat} (hl : Lev D lv) {h : Nat} {s : Sl} (hs : sl D h = some s) (hm : 63 - lv h <= 0) : lst D h = [] := by
 cases he : lst D h with
 | nil => rfl
 | cons c r =>
  obtain ⟨s', h1, _, h2⟩ := hw.kid hl hs (c := c) (by rw [he]; simp)
  have := (hl c s' h1).1
  omega
theorem sub_own {D : Dc} (hw : WF D) {h : Nat} {s : Sl} (hs : sl D h = some s) (m : Nat) : ownE (subT D m h : Nd (T m)) = 0 := by
 obtain ⟨i, _, h2, h3, _⟩ := sl_live hs
 have e : (subT D m h : Nd (T m)) = (mkN s (kidT D m h) : Nd (T m)) := by unfold subT; rw [slD_of hs]
 rw [e]
 exact hw.own i s h2 h3
theorem sub_counts {D : Dc} (hw : WF D) {lv : Nat -> Nat} (hl : Lev D lv) : ∀ (m h : Nat) (s : Sl), sl D h = some s -> 63 - lv h <= m -> okT (m + 1) (subT D m h) /\ ndT (m + 1) (subT D m h) = (allH D h).length /\ htT (m + 1) (subT D m h) = hgt D h
 | 0, h, s, hs, hm => by
  have hn := leaf_nil hw hl hs hm
  rw [okT, ndT, htT, kids_sub hw hs, allH_step hw hs, hgt_step hw hs, hn]
  refine ⟨⟨sub_own hw hs 0, fun k hk => by simp [kidT] at hk⟩, ?_, ?_⟩
  ·simp [kidT]
  ·simp [kidT]
 | m + 1, h, s, hs, hm => by
  have ih : ∀ c ∈ lst D h, okT (m + 1) (subT D m c) /\ ndT (m + 1) (subT D m c) = (allH D c).length /\ htT (m + 1) (subT D m c) = hgt D c := fun c hc => by
   obtain ⟨s', h1, _, h2⟩ := hw.kid hl hs hc
   exact sub_counts hw hl m c s' h1 (by omega)
  rw [okT, ndT, htT, kids_sub hw hs, kidT_succ, allH_step hw hs, hgt_step hw hs]
  refine ⟨⟨sub_own hw hs (m + 1), fun k hk => ?_⟩, ?_, ?_⟩
  ·obtain ⟨c, hc, rfl⟩ := List.mem_map.1 hk
   exact (ih c hc).1
  ·rw [List.map_map, List.length_cons, List.length_flatMap]
   congr 2
   exact List.map_congr_left fun c hc => (ih c hc).2.1
  ·rw [List.map_map]
   congr 2
   exact List.map_congr_left fun c hc => (ih c hc).2.2
end Go.Proofs.YtjkgjckkglfokaaGreat.Gr
/- The program's documents: a list put in the place of another one. -/
namespace Go.Proofs.YtjkgjckkglfokaaGreat.Gr
open Go.RowKit
set_option linter.unusedVariables false
set_option linter.unusedSimpArgs false
def roN (ro : Nat -> Nat) (k : Nat) (v : Value) (b : Nat) : Nat := if v.ownBlock = some b then k else if ro b = k then 0 else ro b
theorem roN_other {ro : Nat -> Nat} {k N : Nat} {v vo : Value} (hlt : ∀ b, ro b ≠ 0 -> b < N) (ho : ∀ b, vo.ownBlock = some b -> ro b = k) (hb : ∀ b, v.ownBlock = some b -> vo.ownBlock = some b \/ N <= b) {b : Nat} (h1 : ro b ≠ 0) (h2 : ro b ≠ k) : roN ro k v b = ro b := by
 unfold roN
 rw [if_neg, if_neg h2]
 intro e
 rcases hb b e with h | h
 ·exact h2 (ho b h)
 ·have := hlt b h1; omega
theorem roN_same {ro : Nat -> Nat} {k : Nat} {v : Value} {b : Nat} (h : v.ownBlock = some b) : roN ro k v b = k := by
 unfold roN
 rw [if_pos h]
theorem roN_from {ro : Nat -> Nat} {k N : Nat} {v vo : Value} (hk : k ≠ 0) (ho : ∀ b, vo.ownBlock = some b -> ro b = k) (hb : ∀ b, v.ownBlock = some b -> vo.ownBlock = some b \/ N <= b) {b : Nat} (h : roN ro k v b ≠ 0) : ro b ≠ 0 \/ N <= b := by
 unfold roN at h
 split at h
 ·rename_i e
  rcases hb b e with h' | h'
  ·left
   rw [ho b h']
   exact hk
  ·exact .inr h'
 ·split at h
  ·exact absurd rfl h
  ·exact .inl h
section
variable {w w' : World} {ro : Nat -> Nat} {db : Nat} {D : Dc} {sa : Option Addr} {scap : Nat} {ra : Option Addr} {rcap : Nat} {L : List (Value × Value)}
theorem PdS.newRoots (h : PdS w ro db D sa scap ra rcap L) {l' : List Nat} {a' : Option Addr} {c' : Nat} (hg : w.grownBy w' (Value.slice ra D.roots.length rcap).ownBlock) (hown : w'.ownsRow 0 27 1 (.slice a' l'.length c') l'.length (hvals l'))
  (hb : ∀ b, (Value.slice a' l'.length c').ownBlock = some b -> (Value.slice ra D.roots.length rcap).ownBlock = some b \/ w.heap.size <= b) :
  PdS (w'.setCell ⟨db, 1, none⟩ (.slice a' l'.length c')) (roN ro 3 (.slice a' l'.length c')) db { D with roots := l' } sa scap a' c' L := by
 have ro1 : ∀ {b}, ro b ≠ 0 -> ro b ≠ 3 -> roN ro 3 (.slice a' l'.length c') b = ro b := fun h1 h2 => roN_other h.lt h.rr hb h1 h2
 have blk : ∀ b, ro b ≠ 0 -> ro b ≠ 3 -> w'.heap[b]? = w.heap[b]? := fun b h1 h2 => hg.block b (h.lt b h1) (fun e => h2 (h.rr b e.symm))
 have blk2 : ∀ b, ro b ≠ 0 -> ro b ≠ 3 -> ro b ≠ 1 -> (w'.setCell ⟨db, 1, none⟩ (.slice a' l'.length c')).heap[b]? = w.heap[b]? := fun b h1 h2 h3 =>
  (Below.heap_setCell _ _ _ _ (by show b ≠ db; rintro rfl; exact h3 h.rdb)).trans (blk b h1 h2)
 have hnd : ∀ b, (Value.slice a' l'.length c').ownBlock = some b -> b ≠ db := fun b hb' e => by
  subst e
  rcases hb b hb' with h' | h'
  ·have := h.rr b h'; rw [h.rdb] at this; omega
  ·have := h.lt b (by rw [h.rdb]; omega); omega
 refine ⟨?_, own_of_block h.slots (fun k hk => blk2 k (by rw [h.rs k hk]; omega) (by rw [h.rs k hk]; omega) (by rw [h.rs k hk]; omega)), own_of_block hown (fun k hk => Below.heap_setCell _ _ _ _ (hnd k hk)), h.len, fun i s p hs hp => ?_, ?_, fun b hb' => ?_, fun b hb' => roN_same hb', fun i p b hp hb' => ?_, fun i p b hp hb' => ?_, fun b hb' => ?_⟩
 ·have := (h.head.of_block (blk db (by rw [h.rdb]; omega) (by rw [h.rdb]; omega))).set 1 (.slice a' l'.length c')
  simpa using this
 ·obtain ⟨v1, v2⟩ := h.vals i s p hs hp
  exact ⟨own_of_block v1 (fun b hb' => blk2 b (by rw [h.rat i p b hp hb']; omega) (by rw [h.rat i p b hp hb']; omega) (by rw [h.rat i p b hp hb']; omega)),
   own_of_block v2 (fun b hb' => blk2 b (by rw [h.rk i p b hp hb']; omega) (by rw [h.rk i p b hp hb']; omega) (by rw [h.rk i p b hp hb']; omega))⟩
 ·rw [ro1 (by rw [h.rdb]; omega) (by rw [h.rdb]; omega), h.rdb]
 ·rw [ro1 (by rw [h.rs b hb']; omega) (by rw [h.rs b hb']; omega), h.rs b hb']
 ·rw [ro1 (by rw [h.rat i p b hp hb']; omega) (by rw [h.rat i p b hp hb']; omega), h.rat i p b hp hb']
 ·rw [ro1 (by rw [h.rk i p b hp hb']; omega) (by rw [h.rk i p b hp hb']; omega), h.rk i p b hp hb']
 ·have hz : (w'.setCell ⟨db, 1, none⟩ (.slice a' l'.length c')).heap.size = w'.heap.size := by simp [World.setCell]
  rw [hz]
  unfold roN at hb'
  split at hb'
  ·rename_i e
   exact (own_block_lt hown b e).2
  ·split at hb'
   ·exact absurd rfl hb'
   ·exact Nat.lt_of_lt_of_le (h.lt b hb') hg.size
end
section
variable {w w' : World} {ro : Nat -> Nat} {db : Nat} {D : Dc} {g : Nat} {scap : Nat} {ra : Option Addr} {rcap : Nat} {L : List (Value × Value)}
theorem PdS.newRow (h : PdS w ro db D (some ⟨g, 0, none⟩) scap ra rcap L) {i j k : Nat} {s s' : Sl} {p p' : Value × Value} {v' vo : Value} (hs : D.S[i]? = some s) (hp : L[i]? = some p) (hj : j < 8) (hc : slotCells s' p' = (slotCells s p).set j v') (h3 : s'.live = s.live)
  (hk : k = 2 * i + 4 \/ k = 2 * i + 5) (hok : ∀ b, vo.ownBlock = some b -> ro b = k) (hg : w.grownBy w' vo.ownBlock) (hb : ∀ b, v'.ownBlock = some b -> vo.ownBlock = some b \/ w.heap.size <= b) (hlt : ∀ b, v'.ownBlock = some b -> b < w'.heap.size)
  (hv : w'.ownsRow 0 124 2 p'.1 s'.attrs.length (attrCells s'.attrs) /\ w'.ownsRow 0 27 1 p'.2 s'.kids.length (hvals s'.kids))
  (hq1 : ∀ b, p'.1.ownBlock = some b -> roN ro k v' b = 2 * i + 4) (hq2 : ∀ b, p'.2.ownBlock = some b -> roN ro k v' b = 2 * i + 5) :
  PdS (w'.setCell ⟨g, i * 8 + j, none⟩ v') (roN ro k v') db { D with S := D.S.set i s' } (some ⟨g, 0, none⟩) scap ra rcap (L.set i p') := by
 have hg2 : ro g = 2 := h.rs g rfl
 have hi := (List.getElem?_eq_some_iff.1 hs).1
 have hk0 : k ≠ 0 /\ k ≠ 1 /\ k ≠ 2 /\ k ≠ 3 := by omega
 have ro1 : ∀ {b}, ro b ≠ 0 -> ro b ≠ k -> roN ro k v' b = ro b := fun h1 h2 => roN_other h.lt hok hb h1 h2
 have blk : ∀ b, ro b ≠ 0 -> ro b ≠ k -> w'.heap[b]? = w.heap[b]? := fun b h1 h2 => hg.block b (h.lt b h1) (fun e => h2 (hok b e.symm))
 have st : ∀ b, b ≠ g -> (w'.setCell ⟨g, i * 8 + j, none⟩ v').heap[b]? = w'.heap[b]? := fun b hb' => Below.heap_setCell _ _ _ _ hb'
 have blk2 : ∀ b, ro b ≠ 0 -> ro b ≠ k -> ro b ≠ 2 -> (w'.setCell ⟨g, i * 8 + j, none⟩ v').heap[b]? = w.heap[b]? := fun b h1 h2 h3 => (st b (by rintro rfl; exact h3 hg2)).trans (blk b h1 h2)
 have hnr : ∀ b, roN ro k v' b ≠ 2 -> b ≠ g := fun b h1 e => by
  subst e
  rw [ro1 (by omega) (by omega)] at h1
  exact h1 hg2
 refine ⟨?_, ?_, own_of_block h.roots (fun b hb' => blk2 b (by rw [h.rr b hb']; omega) (by rw [h.rr b hb']; omega) (by rw [h.rr b hb']; omega)), by simp [h.len], fun m x y hx hy => ?_, ?_, fun b hb' => ?_, fun b hb' => ?_, fun m y b hy hb' => ?_, fun m y b hy hb' => ?_, fun b hb' => ?_⟩
 ·have := h.head.of_block (blk2 db (by rw [h.rdb]; omega) (by rw [h.rdb]; omega) (by rw [h.rdb]; omega))
  rw [show cnt Sl.live ({ D with S := D.S.set i s' } : Dc).S = cnt Sl.live D.S from cnt_set hs h3]
  simpa using this
 ·have h1 : w'.ownsRow 0 100 8 (.slice (some ⟨g, 0, none⟩) D.S.length scap) D.S.length (rowOf D.S L) := own_of_block h.slots (fun b hb' => blk b (by rw [h.rs b hb']; omega) (by rw [h.rs b hb']; omega))
  have := own_set h1 (i * 8 + j) v'
  rw [<- rowOf_set h.len hs hp hj hc] at this
  simpa using this
 ·by_cases hm : m = i
  ·subst hm
   rw [List.getElem?_set_self hi] at hx
   rw [List.getElem?_set_self (by rw [h.len]; exact hi)] at hy
   cases hx
   cases hy
   exact ⟨own_of_block hv.1 (fun b hb' => st b (hnr b (by rw [hq1 b hb']; omega))), own_of_block hv.2 (fun b hb' => st b (hnr b (by rw [hq2 b hb']; omega)))⟩
  ·rw [List.getElem?_set_ne (by omega)] at hx hy
   obtain ⟨v1, v2⟩ := h.vals m x y hx hy
   exact ⟨own_of_block v1 (fun b hb' => blk2 b (by rw [h.rat m y b hy hb']; omega) (by rw [h.rat m y b hy hb']; omega) (by rw [h.rat m y b hy hb']; omega)),
    own_of_block v2 (fun b hb' => blk2 b (by rw [h.rk m y b hy hb']; omega) (by rw [h.rk m y b hy hb']; omega) (by rw [h.rk m y b hy hb']; omega))⟩
 ·rw [ro1 (by rw [h.rdb]; omega) (by rw [h.rdb]; omega), h.rdb]
 ·have hb2 : (Value.slice (some ⟨g, 0, none⟩) D.S.length scap).ownBlock = some b := hb'
  rw [ro1 (by rw [h.rs b hb2]; omega) (by rw [h.rs b hb2]; omega), h.rs b hb2]
 ·rw [ro1 (by rw [h.rr b hb']; omega) (by rw [h.rr b hb']; omega), h.rr b hb']
 ·by_cases hm : m = i
  ·subst hm
   rw [List.getElem?_set_self (by rw [h.len]; exact hi)] at hy
   cases hy
   exact hq1 b hb'
  ·rw [List.getElem?_set_ne (by omega)] at hy
   rw [ro1 (by rw [h.rat m y b hy hb']; omega) (by rw [h.rat m y b hy hb']; omega), h.rat m y b hy hb']
 ·by_cases hm : m = i
  ·subst hm
   rw [List.getElem?_set_self (by rw [h.len]; exact hi)] at hy
   cases hy
   exact hq2 b hb'
  ·rw [List.getElem?_set_ne (by omega)] at hy
   rw [ro1 (by rw [h.rk m y b hy hb']; omega) (by rw [h.rk m y b hy hb']; omega), h.rk m y b hy hb']
 ·have hz : (w'.setCell ⟨g, i * 8 + j, none⟩ v').heap.size = w'.heap.size := by simp [World.setCell]
  rw [hz]
  unfold roN at hb'
  split at hb'
  ·rename_i e
   exact hlt b e
  ·split at hb'
   ·exact absurd rfl hb'
   ·exact Nat.lt_of_lt_of_le (h.lt b hb') hg.size
theorem PdS.newKids (h : PdS w ro db D (some ⟨g, 0, none⟩) scap ra rcap L) {i : Nat} {s : Sl} {p : Value × Value} (hs : D.S[i]? = some s) (hp : L[i]? = some p) {l' : List Nat} {a' : Option Addr} {c' : Nat} (hg : w.grownBy w' p.2.ownBlock) (hown : w'.ownsRow 0 27 1 (.slice a' l'.length c') l'.length (hvals l'))
  (hb : ∀ b, (Value.slice a' l'.length c').ownBlock = some b -> p.2.ownBlock = some b \/ w.heap.size <= b) :
  PdS (w'.setCell ⟨g, i * 8 + 7, none⟩ (.slice a' l'.length c')) (roN ro (2 * i + 5) (.slice a' l'.length c')) db { D with S := D.S.set i { s with kids := l' } } (some ⟨g, 0, none⟩) scap ra rcap (L.set i (p.1, .slice a' l'.length c')) := by
 obtain ⟨v1, v2⟩ := h.vals i s p hs hp
 have hok : ∀ b, p.2.ownBlock = some b -> ro b = 2 * i + 5 := fun b hb' => h.rk i p b hp hb'
 exact h.newRow (j := 7) (k := 2 * i + 5) (vo := p.2) (s' := { s with kids := l' }) (p' := (p.1, .slice a' l'.length c')) hs hp (by omega) rfl rfl (.inr rfl) hok hg hb (fun b hb' => (own_block_lt hown b hb').2)
  ⟨own_of_block v1 (fun b hb' => hg.block b (own_block_lt v1 b hb').2 (fun e => by have e1 := hok b e.symm; have e2 := h.rat i p b hp hb'; omega)), hown⟩
  (fun b hb' => by rw [roN_other h.lt hok hb (by rw [h.rat i p b hp hb']; omega) (by rw [h.rat i p b hp hb']; omega), h.rat i p b hp hb']) (fun b hb' => roN_same hb')
theorem PdS.newAttrs (h : PdS w ro db D (some ⟨g, 0, none⟩) scap ra rcap L) {i : Nat} {s : Sl} {p : Value × Value} (hs : D.S[i]? = some s) (hp : L[i]? = some p) {l' : List (ByteArray × ByteArray)} {a' : Option Addr} {c' : Nat} (hg : w.grownBy w' p.1.ownBlock) (hown : w'.ownsRow 0 124 2 (.slice a' l'.length c') l'.length (attrCells l'))
  (hb : ∀ b, (Value.slice a' l'.length c').ownBlock = some b -> p.1.ownBlock = some b \/ w.heap.size <= b) :
  PdS (w'.setCell ⟨g, i * 8 + 4, none⟩ (.slice a' l'.length c')) (roN ro (2 * i + 4) (.slice a' l'.length c')) db { D with S := D.S.set i { s with attrs := l' } } (some ⟨g, 0, none⟩) scap ra rcap (L.set i (.slice a' l'.length c', p.2)) := by
 obtain ⟨v1, v2⟩ := h.vals i s p hs hp
 have hok : ∀ b, p.1.ownBlock = some b -> ro b = 2 * i + 4 := fun b hb' => h.rat i p b hp hb'
 exact h.newRow (j := 4) (k := 2 * i + 4) (vo := p.1) (s' := { s with attrs := l' }) (p' := (.slice a' l'.length c', p.2)) hs hp (by omega) rfl rfl (.inl rfl) hok hg hb (fun b hb' => (own_block_lt hown b hb').2)
  ⟨hown, own_of_block v2 (fun b hb' => hg.block b (own_block_lt v2 b hb').2 (fun e => by have e1 := hok b e.symm; have e2 := h.rk i p b hp hb'; omega))⟩
  (fun b hb' => roN_same hb') (fun b hb' => by rw [roN_other h.lt hok hb (by rw [h.rk i p b hp hb']; omega) (by rw [h.rk i p b hp hb']; omega), h.rk i p b hp hb'])
end
end Go.Proofs.YtjkgjckkglfokaaGreat.Gr
/- copy, and append of zeros, at a row that is known whole, at elements of any size. -/
namespace Go.Proofs.YtjkgjckkglfokaaGreat.Gr
open Go.RowKit
set_option linter.unusedVariables false
set_option linter.unusedSimpArgs false
theorem addrP (b o j : Nat) : (⟨b, o, none⟩ : Addr).add j = ⟨b, o + j, none⟩ := by unfold Addr.add; split <;> simp_all
theorem cell_of {w : World} {g : Nat} {cur : List Value} {t : TypeId} (h : w.heap[g]? = some (.cells cur.toArray t (0, 0))) (j : Nat) : w.cell? ⟨g, j, none⟩ = cur[j]? := by simp [World.cell?, h]
def over (cur : List Value) (o : Nat) (cs : List Value) : List Value := cur.take o ++ cs ++ cur.drop (o + cs.length)
theorem over_length {cur cs : List Value} {o : Nat} (h : o + cs.length <= cur.length) : (over cur o cs).length = cur.length := by
 simp [over]
 omega
theorem grown_setRow {w : World} {g : Nat} (cs : Array Value) : w.grownBy (w.setRow g cs) (some g) /\ (w.setRow g cs).heap.size = w.heap.size := by
 refine ⟨⟨rfl, rfl, rfl, by simp [World.setRow], fun k hk hne => ?_⟩, by simp [World.setRow]⟩
 simp only [World.setRow, Array.getElem?_modify]
 rw [if_neg (fun e => hne (by rw [e]))]
theorem run_copyK {P : Program} (w : World) (dT sT ty elem : TypeId) (size g o dLen dCap : Nat) (a : Option Addr) (sLen sCap : Nat) (cur : List Value) (t : TypeId) (cs : List Value)
  (hu : P.underlying dT = some (.slice elem)) (hs : (P.info? elem).map (·.size) = some size) (hg : w.heap[g]? = some (.cells cur.toArray t (0, 0))) (hn : cs.length = Nat.min sLen dLen * size)
  (hsrc : ∀ j v, cs[j]? = some v -> ∃ ad, a = some ad /\ w.cell? (ad.add j) = some v) (hfit : o + cs.length <= cur.length) (h1 : ∀ v ∈ cs, v.oneCell' = true) :
  ∃ w', (Builtin.copy_ #[dT, sT] ty #[.slice (some ⟨g, o, none⟩) dLen dCap, .slice a sLen sCap]).run P w = .ok (goInt (Nat.min sLen dLen)) w' /\ w'.heap[g]? = some (.cells (over cur o cs).toArray t (0, 0)) /\ w.grownBy w' (some g) /\ w'.heap.size = w.heap.size := by
 have hst := run_storeCells_at P g o t cs 0 cur.toArray w hg (by simpa using hfit) h1
 simp only [Nat.add_zero] at hst
 refine ⟨w.setRow g (over cur o cs).toArray, ?_, setRow_heap w g _ _ t _ hg, grown_setRow _⟩
 cases hq : P.info? elem with
 | none => simp [hq] at hs
 | some i =>
  have hi : i.size = size := by simpa [hq] using hs
  cases a with
  | some ad =>
   have hl := run_loadCells_list (P := P) w ad cs (fun j v hj => by
    obtain ⟨ad', e, h⟩ := hsrc j v hj
    cases e
    exact h)
   simp [Builtin.copy_, run_underlying hu, Builtin.lenOf, Builtin.firstCells, sizeOf, typeInfo, hq, hi, <- hn, hl, hst, over]
  | none =>
   have hn0 : cs = [] := by
    cases cs with
    | nil => rfl
    | cons v r =>
     obtain ⟨ad', e, _⟩ := hsrc 0 v rfl
     cases e
   subst hn0
   simp [Builtin.copy_, run_underlying hu, Builtin.lenOf, Builtin.firstCells, sizeOf, typeInfo, hq, storeCells, over]
   have := setRow_self w g cur.toArray t (0, 0) hg
   exact this.symm
theorem wpList_copyK {P : Program} (w : World) {ops : Array Oper} {rest : List Oper} {op : Oper} {ac : Act} {Q : Exit -> Act -> World -> Prop} (hgd : op.guard = none) (d s : Operand) (dT sT elem : TypeId)
  (ho : op.op = .call { callee := .builtin .copy, args := #[d, s], argTypes := #[dT, sT] }) (size g o dLen dCap : Nat) (a : Option Addr) (sLen sCap : Nat) (cur : List Value) (t : TypeId) (cs : List Value)
  (hd : ac.eval d = .slice (some ⟨g, o, none⟩) dLen dCap) (hx : ac.eval s = .slice a sLen sCap)
  (hu : P.underlying dT = some (.slice elem)) (hs : (P.info? elem).map (·.size) = some size) (hg : w.heap[g]? = some (.cells cur.toArray t (0, 0))) (hn : cs.length = Nat.min sLen dLen * size)
  (hsrc : ∀ j v, cs[j]? = some v -> ∃ ad, a = some ad /\ w.cell? (ad.add j) = some v) (hfit : o + cs.length <= cur.length) (h1 : ∀ v ∈ cs, v.oneCell' = true)
  (hK : ∀ w', w'.heap[g]? = some (.cells (over cur o cs).toArray t (0, 0)) -> w.grownBy w' (some g) -> w'.heap.size = w.heap.size -> wpList P ops Q rest (ac.put op.dst (goInt (Nat.min sLen dLen))) w') : wpList P ops Q (op :: rest) ac w := by
 refine wpList_plain hgd fun K hK' => ?_
 obtain ⟨w', hr, h2, h3, h4⟩ := run_copyK (P := P) w dT sT op.type elem size g o dLen dCap a sLen sCap cur t cs hu hs hg hn hsrc hfit h1
 unfold Oper.wp execOp
 simp only [ho, resolve, invoke, builtin, Sem.run_bind, Sem.run_pure, Result.andThen_ok, List.map_toArray, List.map_cons, List.map_nil, hd, hx, hr]
 exact hK' _ _ (hK w' h2 h3 h4)
theorem step_copyK {P : Program} {w : World} {ops : Array Oper} {op : Oper} {ac : Act} {K : Act -> World -> Prop} {Q : Exit -> Act -> World -> Prop} {E : Prop} (hgd : op.guard = none) (d s : Operand) (dT sT elem : TypeId)
  (ho : op.op = .call { callee := .builtin .copy, args := #[d, s], argTypes := #[dT, sT] }) (size g o dLen dCap : Nat) (a : Option Addr) (sLen sCap : Nat) (cur : List Value) (t : TypeId) (cs : List Value)
  (hd : ac.eval d = .slice (some ⟨g, o, none⟩) dLen dCap) (hx : ac.eval s = .slice a sLen sCap)
  (hu : P.underlying dT = some (.slice elem)) (hs : (P.info? elem).map (·.size) = some size) (hg : w.heap[g]? = some (.cells cur.toArray t (0, 0))) (hn : cs.length = Nat.min sLen dLen * size)
  (hsrc : ∀ j v, cs[j]? = some v -> ∃ ad, a = some ad /\ w.cell? (ad.add j) = some v) (hfit : o + cs.length <= cur.length) (h1 : ∀ v ∈ cs, v.oneCell' = true)
  (hK : ∀ w', w'.heap[g]? = some (.cells (over cur o cs).toArray t (0, 0)) -> w.grownBy w' (some g) -> w'.heap.size = w.heap.size -> K (ac.put op.dst (goInt (Nat.min sLen dLen))) w') :
  if Region.wanted op (yielded ops ac.tmps) = true then Oper.wp P op ac w K Q else E := by
 have hw : Region.wanted op (yielded ops ac.tmps) = true := by simp [Region.wanted, hgd]
 rw [if_pos hw]
 obtain ⟨w', hr, h2, h3, h4⟩ := run_copyK (P := P) w dT sT op.type elem size g o dLen dCap a sLen sCap cur t cs hu hs hg hn hsrc hfit h1
 unfold Oper.wp execOp
 simp only [ho, resolve, invoke, builtin, Sem.run_bind, Sem.run_pure, Result.andThen_ok, List.map_toArray, List.map_cons, List.map_nil, hd, hx, hr]
 exact hK w' h2 h3 h4
theorem wpList_zeros {P : Program} (w : World) {ops : Array Oper} {rest : List Oper} {op : Oper} {ac : Act} {Q : Exit -> Act -> World -> Prop} (hgd : op.guard = none) (s x : Operand) (t tn e : TypeId) (kn kq : IntKind)
  (ho : op.op = .call { callee := .builtin .append, args := #[s, x], argTypes := #[t, tn] }) (ht : P.underlying t = some (.slice e)) (htn : P.underlying tn = some (.int kn)) {z : Value} {size bytes : Nat} (hi : InfoOf P e z size bytes) (hzs : z.cells.size = size) (hsz : 0 < size)
  (ad : Addr) (i c : Nat) (K : Int) (k : Nat) (hk : K = (k : Int)) (olds : List Value) (hl : olds.length = i * size) (hs : ac.eval s = .slice (some ad) i c) (hx : ac.eval x = .int kq K) (hold : ∀ j v, olds[j]? = some v -> w.cell? (ad.add j) = some v)
  (h0 : 0 < k) (hg : c < i + k) (hb : (i + k) * bytes <= 140737488355328) (hm : i + k <= 1099511627776)
  (hK : ∀ w' G (cur : List Value), w'.heap[w.heap.size]? = some (.cells cur.toArray e (0, 0)) -> cur.length = G * size -> cur.take (i * size) = olds -> i + k <= G -> G <= maxLen -> w.grownBy w' none -> w'.heap.size = w.heap.size + 1 ->
   wpList P ops Q rest (ac.put op.dst (.slice (some ⟨w.heap.size, 0, none⟩) (i + k) G)) w') : wpList P ops Q (op :: rest) ac w := by
 refine wpList_plain hgd fun K' hK' => ?_
 subst hk
 obtain ⟨i0, hi0, hz0, hz1, hz2⟩ := hi.parts
 have hfc : (Builtin.firstCells i0.size i (.slice (some ad) i c)).run P w.drew = .ok olds.toArray w.drew := by
  rw [hz1]
  exact run_firstCells_some w.drew size i ad i c olds hl (fun j v hj => hold j v hj)
 have hr := Lib.run_append_grow_zeros (P := P) w t tn op.type e i0 z kq kn ht htn hi0 hz0 (some ad) i c olds hfc k h0 (by rw [hz1]; exact hsz) hg (by omega) (by
  rw [hz2]
  have : k * bytes <= (i + k) * bytes := Nat.mul_le_mul_right _ (by omega)
  omega) (by rw [hz2]; exact growslice_fits hg hb)
 unfold Oper.wp execOp
 simp only [ho, resolve, invoke, builtin, Sem.run_bind, Sem.run_pure, Result.andThen_ok, List.map_toArray, List.map_cons, List.map_nil, hs, hx, hr]
 have hge := grownCap_ge w (i + k) c e
 refine hK' _ _ (hK _ (grownCap w (i + k) c e) (olds ++ (Builtin.zeroCells z.cells k).toList ++ (Builtin.zeroCells z.cells (grownCap w (i + k) c e - (i + k))).toList) ?_ ?_ ?_ hge ?_ ?_ ?_)
 ·have := heap_alloc_new w.drew (.cells (olds.toArray ++ Builtin.zeroCells z.cells k ++ Builtin.zeroCells z.cells (grownCap w (i + k) c e - (i + k))) e)
  rw [show w.drew.heap.size = w.heap.size from rfl] at this
  rw [this]
  congr 2
  apply Array.ext'
  simp
 ·simp only [List.length_append, Array.length_toList, size_zeroCells, hzs, hl]
  rw [<- Nat.add_mul, <- Nat.add_mul]
  congr 1
  omega
 ·rw [List.append_assoc, List.take_append_of_le_length (by omega), List.take_of_length_le (by omega)]
 ·exact grownCap_le_maxLen w _ _ _ (by unfold maxLen; omega)
 ·exact ⟨rfl, rfl, rfl, by simp, fun k hk _ => Below.heap_alloc w.drew _ _ hk⟩
 ·simp
theorem own_of_full {w : World} {base g cap n size : Nat} {e : TypeId} {cur xs : List Value} (h : w.heap[g]? = some (.cells cur.toArray e (0, 0))) (hb : base <= g) (hnc : n <= cap) (hm : cap <= maxLen) (hl : cur.length = cap * size) (hx : cur.take (n * size) = xs) :
  w.ownsRow base e size (.slice (some ⟨g, 0, none⟩) n cap) n xs := by
 have : n * size <= cap * size := Nat.mul_le_mul_right _ hnc
 refine ⟨?_, .inr ⟨g, cap, cur.toArray, rfl, hb, h, hnc, hm, by simpa using hl, by simpa using hx⟩⟩
 rw [<- hx, List.length_take]
 omega
theorem full_of_own {w : World} {base n cap size : Nat} {a : Option Addr} {e : TypeId} {xs : List Value} (h : w.ownsRow base e size (.slice a n cap) n xs) (hn : 0 < n) :
  ∃ (g : Nat) (cur : List Value), a = some ⟨g, 0, none⟩ /\ base <= g /\ w.heap[g]? = some (.cells cur.toArray e (0, 0)) /\ n <= cap /\ cap <= maxLen /\ cur.length = cap * size /\ cur.take (n * size) = xs := by
 rcases h.2 with ⟨_, e1⟩ | ⟨g, cap', cur, e1, hb, hh, h1, h2, h3, h4⟩
 ·omega
 ·simp only [Value.slice.injEq, true_and] at e1
  obtain ⟨rfl, rfl⟩ := e1
  exact ⟨g, cur.toList, rfl, hb, by simpa using hh, h1, h2, by simpa using h3, h4⟩
theorem over_shift {cur xs vs : List Value} {i n k : Nat} (hx : cur.take (n * k) = xs) (hi : i <= n) (hv : vs.length = k) (hl : (n + 1) * k <= cur.length) :
  (over (over cur ((i + 1) * k) (xs.drop (i * k))) (i * k) vs).take ((n + 1) * k) = xs.take (i * k) ++ vs ++ xs.drop (i * k) := by
 have h1 : i * k <= n * k := Nat.mul_le_mul_right _ hi
 have h2 : (i + 1) * k = i * k + k := by rw [Nat.add_mul, Nat.one_mul]
 have h3 : (n + 1) * k = n * k + k := by rw [Nat.add_mul, Nat.one_mul]
 have hxl : xs.length = n * k := by rw [<- hx, List.length_take]; omega
 rw [h3] at hl ⊢
 rw [h2]
 clear h2 h3
 generalize i * k = p at *
 generalize n * k = q at *
 have hd : (xs.drop p).length = q - p := by rw [List.length_drop, hxl]
 have ht : cur.take p = xs.take p := by rw [<- hx, List.take_take]; congr 1; omega
 unfold over
 rw [hv, hd, show p + k + (q - p) = q + k by omega]
 have e1 : (cur.take (p + k) ++ xs.drop p ++ cur.drop (q + k)).take p = xs.take p := by
  rw [List.append_assoc, List.take_append_of_le_length (by simp; omega), List.take_take, <- ht]; congr 1; omega
 have e2 : (cur.take (p + k) ++ xs.drop p ++ cur.drop (q + k)).drop (p + k) = xs.drop p ++ cur.drop (q + k) := by
  rw [List.append_assoc, List.drop_append_of_le_length (by simp; omega), List.drop_of_length_le (by simp; omega), List.nil_append]
 have e3 : (xs.take p ++ vs ++ xs.drop p).length = q + k := by simp only [List.length_append, List.length_take, hd, hv, hxl]; omega
 rw [e1, e2, show xs.take p ++ vs ++ (xs.drop p ++ cur.drop (q + k)) = (xs.take p ++ vs ++ xs.drop p) ++ cur.drop (q + k) by simp only [List.append_assoc], List.take_append_of_le_length (by omega), List.take_of_length_le (by omega)]
theorem over_grow {cur xs vs : List Value} {i n k : Nat} (hxl : xs.length = n * k) (hx : cur.take (i * k) = xs.take (i * k)) (hi : i <= n) (hv : vs.length = k) (hl : (n + 1) * k <= cur.length) :
  (over (over cur (i * k) vs) ((i + 1) * k) (xs.drop (i * k))).take ((n + 1) * k) = xs.take (i * k) ++ vs ++ xs.drop (i * k) := by
 have h1 : i * k <= n * k := Nat.mul_le_mul_right _ hi
 have h2 : (i + 1) * k = i * k + k := by rw [Nat.add_mul, Nat.one_mul]
 have h3 : (n + 1) * k = n * k + k := by rw [Nat.add_mul, Nat.one_mul]
 rw [h3] at hl ⊢
 rw [h2]
 clear h2 h3
 generalize i * k = p at *
 generalize n * k = q at *
 have hd : (xs.drop p).length = q - p := by rw [List.length_drop, hxl]
 unfold over
 rw [hv, hd, show p + k + (q - p) = q + k by omega]
 have e1 : (cur.take p ++ vs ++ cur.drop (p + k)).take (p + k) = xs.take p ++ vs := by
  rw [List.take_append_of_le_length (by simp; omega), List.take_of_length_le (by simp; omega), hx]
 have e3 : (xs.take p ++ vs ++ xs.drop p).length = q + k := by simp only [List.length_append, List.length_take, hd, hv, hxl]; omega
 rw [e1, List.take_append_of_le_length (by omega), List.take_of_length_le (by omega)]
end Go.Proofs.YtjkgjckkglfokaaGreat.Gr
/- append onto a part of a row from a later part of it, and clear, at a row that is known whole. -/
namespace Go.Proofs.YtjkgjckkglfokaaGreat.Gr
open Go.RowKit
set_option linter.unusedVariables false
set_option linter.unusedSimpArgs false
theorem row_setCells (g : Nat) (t : TypeId) : ∀ (vs : List Value) (o : Nat) (w : World) (cur : List Value), w.heap[g]? = some (.cells cur.toArray t (0, 0)) -> o + vs.length <= cur.length ->
  (w.setCells g o vs).heap[g]? = some (.cells (over cur o vs).toArray t (0, 0)) /\ w.grownBy (w.setCells g o vs) (some g) /\ (w.setCells g o vs).heap.size = w.heap.size
 | [], o, w, cur, h, hl => ⟨by simpa [over, World.setCells] using h, ⟨rfl, rfl, rfl, Nat.le_refl _, fun _ _ _ => rfl⟩, rfl⟩
 | v :: r, o, w, cur, h, hl => by
  have h1 : (w.setCell ⟨g, o, none⟩ v).heap[g]? = some (.cells (cur.set o v).toArray t (0, 0)) := by
   simp [World.setCell, Array.getElem?_modify, h]
  have ih := row_setCells g t r (o + 1) (w.setCell ⟨g, o, none⟩ v) (cur.set o v) h1 (by simp at hl ⊢; omega)
  have e : over (cur.set o v) (o + 1) r = over cur o (v :: r) := by
   unfold over
   exact list_seg_step cur o v r (by simpa using hl)
  rw [e] at ih
  refine ⟨ih.1, ⟨ih.2.1.os, ih.2.1.tape, ih.2.1.output, ?_, fun k hk hne => ?_⟩, ?_⟩
  ·have h2 : (w.setCell ⟨g, o, none⟩ v).heap.size = w.heap.size := by simp [World.setCell]
   rw [<- h2]
   exact ih.2.1.size
  ·rw [World.setCells, ih.2.1.block k (by simpa [World.setCell] using hk) hne]
   exact Below.heap_setCell _ _ _ _ (fun e => hne (by rw [e]))
  ·have h2 : (w.setCell ⟨g, o, none⟩ v).heap.size = w.heap.size := by simp [World.setCell]
   rw [<- h2]
   exact ih.2.2
theorem run_moveK {P : Program} (w : World) (t ty e : TypeId) {z : Value} {size bytes : Nat} (ht : P.underlying t = some (.slice e)) (hi : InfoOf P e z size bytes) (g i cap : Nat) (ad : Addr) (m c : Nat) (cur cs : List Value) (et : TypeId)
  (hg : w.heap[g]? = some (.cells cur.toArray et (0, 0))) (hl : cs.length = m * size) (hsrc : ∀ j u, cs[j]? = some u -> w.cell? (ad.add j) = some u) (h1 : ∀ u ∈ cs, u.oneCell' = true) (hroom : i + m <= cap) (hc : cur.length = cap * size) :
  ∃ w', (Builtin.append_ #[t, t] ty #[.slice (some ⟨g, 0, none⟩) i cap, .slice (some ad) m c]).run P w = .ok (.slice (some ⟨g, 0, none⟩) (i + m) cap) w' /\ w'.heap[g]? = some (.cells (over cur (i * size) cs).toArray et (0, 0)) /\ w.grownBy w' (some g) /\ w'.heap.size = w.heap.size := by
 obtain ⟨i0, hi0, hz0, hz1, hz2⟩ := hi.parts
 have hfit : i * size + cs.length <= cur.length := by
  rw [hl, hc, <- Nat.add_mul]
  exact Nat.mul_le_mul_right _ hroom
 have hr := run_append_room_src (P := P) w t t ty e i0 ht hi0 g 0 i cap (.slice (some ad) m c) m cs (by rw [hz1]; exact Src.ofSlice w ht ad m c cs hl hsrc h1) hroom
  (fun j hj => by rw [hz1, Nat.zero_add, cell_of hg, List.getElem?_eq_getElem (by omega)]; rfl) (fun j hj => by simp [World.frozen?, hg])
 rw [hz1, Nat.zero_add] at hr
 exact ⟨_, hr, row_setCells g et cs (i * size) w cur hg hfit⟩
theorem step_moveK {P : Program} {w : World} {ops : Array Oper} {op : Oper} {ac : Act} {K : Act -> World -> Prop} {Q : Exit -> Act -> World -> Prop} {E : Prop} (hgd : op.guard = none) (s x : Operand) (t e : TypeId)
  (ho : op.op = .call { callee := .builtin .append, args := #[s, x], argTypes := #[t, t] }) {z : Value} {size bytes : Nat} (ht : P.underlying t = some (.slice e)) (hi : InfoOf P e z size bytes) (g i cap : Nat) (ad : Addr) (m c : Nat) (cur cs : List Value) (et : TypeId)
  (hs : ac.eval s = .slice (some ⟨g, 0, none⟩) i cap) (hx : ac.eval x = .slice (some ad) m c)
  (hg : w.heap[g]? = some (.cells cur.toArray et (0, 0))) (hl : cs.length = m * size) (hsrc : ∀ j u, cs[j]? = some u -> w.cell? (ad.add j) = some u) (h1 : ∀ u ∈ cs, u.oneCell' = true) (hroom : i + m <= cap) (hc : cur.length = cap * size)
  (hK : ∀ w', w'.heap[g]? = some (.cells (over cur (i * size) cs).toArray et (0, 0)) -> w.grownBy w' (some g) -> w'.heap.size = w.heap.size -> K (ac.put op.dst (.slice (some ⟨g, 0, none⟩) (i + m) cap)) w') :
  if Region.wanted op (yielded ops ac.tmps) = true then Oper.wp P op ac w K Q else E := by
 have hw : Region.wanted op (yielded ops ac.tmps) = true := by simp [Region.wanted, hgd]
 rw [if_pos hw]
 obtain ⟨w', hr, h2, h3, h4⟩ := run_moveK (P := P) w t op.type e ht hi g i cap ad m c cur cs et hg hl hsrc h1 hroom hc
 unfold Oper.wp execOp
 simp only [ho, resolve, invoke, builtin, Sem.run_bind, Sem.run_pure, Result.andThen_ok, List.map_toArray, List.map_cons, List.map_nil, hs, hx, hr]
 exact hK w' h2 h3 h4
theorem run_clearK {P : Program} (w : World) (t ty e : TypeId) {z : Value} {size bytes : Nat} (ht : P.underlying t = some (.slice e)) (hi : InfoOf P e z size bytes) (hzs : z.cells.size = size) (hz1 : ∀ u ∈ z.cells.toList, u.oneCell' = true) (hsz : 0 < size) (g o n c : Nat) (cur : List Value) (et : TypeId)
  (hg : w.heap[g]? = some (.cells cur.toArray et (0, 0))) (hn : 0 < n) (hfit : o + n * size <= cur.length) :
  ∃ w' zs, zs.length = n * size /\ (Builtin.clear_ #[t] ty #[.slice (some ⟨g, o, none⟩) n c]).run P w = .ok (.tuple #[]) w' /\ w'.heap[g]? = some (.cells (over cur o zs).toArray et (0, 0)) /\ w.grownBy w' (some g) /\ w'.heap.size = w.heap.size := by
 obtain ⟨i0, hi0, hz0, hs1, hs2⟩ := hi.parts
 have hzl : (Builtin.zeroCells z.cells n).toList.length = n * size := by rw [Array.length_toList, size_zeroCells, hzs]
 have hone : ∀ u ∈ (Builtin.zeroCells z.cells n).toList, u.oneCell' = true := by
  intro u hu
  simp only [Builtin.zeroCells, Array.toList_map, Array.toList_range, List.mem_map, List.mem_range] at hu
  obtain ⟨k, hk, rfl⟩ := hu
  have hlt : k % z.cells.size < z.cells.size := Nat.mod_lt _ (by omega)
  rw [getElem!_pos z.cells _ hlt]
  exact hz1 _ (by simp)
 have hst := run_storeCells_at P g o et (Builtin.zeroCells z.cells n).toList 0 cur.toArray w hg (by simp only [Nat.add_zero, List.size_toArray]; omega) hone
 simp only [Nat.add_zero] at hst
 obtain ⟨n', rfl⟩ : ∃ n', n = n' + 1 := ⟨n - 1, by omega⟩
 refine ⟨w.setRow g (over cur o (Builtin.zeroCells z.cells (n' + 1)).toList).toArray, _, hzl, ?_, setRow_heap w g _ _ et _ hg, grown_setRow _⟩
 simp [Builtin.clear_, run_underlying ht, zeroValue, typeInfo, hi0, hz0, hst, over]
theorem wpList_clearK {P : Program} (w : World) {ops : Array Oper} {rest : List Oper} {op : Oper} {ac : Act} {Q : Exit -> Act -> World -> Prop} (hgd : op.guard = none) (s : Operand) (t e : TypeId)
  (ho : op.op = .call { callee := .builtin .clear, args := #[s], argTypes := #[t] }) {z : Value} {size bytes : Nat} (ht : P.underlying t = some (.slice e)) (hi : InfoOf P e z size bytes) (hzs : z.cells.size = size) (hz1 : ∀ u ∈ z.cells.toList, u.oneCell' = true) (hsz : 0 < size) (g o n c : Nat) (cur : List Value) (et : TypeId)
  (hs : ac.eval s = .slice (some ⟨g, o, none⟩) n c) (hg : w.heap[g]? = some (.cells cur.toArray et (0, 0))) (hn : 0 < n) (hfit : o + n * size <= cur.length)
  (hK : ∀ w' zs, zs.length = n * size -> w'.heap[g]? = some (.cells (over cur o zs).toArray et (0, 0)) -> w.grownBy w' (some g) -> w'.heap.size = w.heap.size -> wpList P ops Q rest (ac.put op.dst (.tuple #[])) w') : wpList P ops Q (op :: rest) ac w := by
 refine wpList_plain hgd fun K hK' => ?_
 obtain ⟨w', zs, h0, hr, h2, h3, h4⟩ := run_clearK (P := P) w t op.type e ht hi hzs hz1 hsz g o n c cur et hg hn hfit
 unfold Oper.wp execOp
 simp only [ho, resolve, invoke, builtin, Sem.run_bind, Sem.run_pure, Result.andThen_ok, List.map_toArray, List.map_cons, List.map_nil, hs, hr]
 exact hK' _ _ (hK w' zs h0 h2 h3 h4)
theorem over_del {cur xs zs : List Value} {i n k : Nat} (hx : cur.take (n * k) = xs) (hi : i < n) (hz : zs.length = k) (hl : n * k <= cur.length) :
  (over (over cur (i * k) (xs.drop ((i + 1) * k))) ((n - 1) * k) zs).take ((n - 1) * k) = xs.take (i * k) ++ xs.drop ((i + 1) * k) := by
 have hxl : xs.length = n * k := by rw [<- hx, List.length_take]; omega
 obtain ⟨m, rfl⟩ : ∃ m, n = m + 1 := ⟨n - 1, by omega⟩
 have h1 : i * k <= m * k := Nat.mul_le_mul_right _ (by omega)
 have h2 : (i + 1) * k = i * k + k := by rw [Nat.add_mul, Nat.one_mul]
 have h3 : (m + 1) * k = m * k + k := by rw [Nat.add_mul, Nat.one_mul]
 rw [show m + 1 - 1 = m by omega, h2]
 rw [h3] at hx hl hxl
 clear h2 h3
 generalize i * k = p at *
 generalize m * k = q at *
 have hd : (xs.drop (p + k)).length = q - p := by rw [List.length_drop, hxl]; omega
 have ht : cur.take p = xs.take p := by rw [<- hx, List.take_take]; congr 1; omega
 unfold over
 rw [hd]
 have e3 : (xs.take p ++ xs.drop (p + k)).length = q := by simp only [List.length_append, List.length_take, hd, hxl]; omega
 have e1 : (cur.take p ++ xs.drop (p + k) ++ cur.drop (p + (q - p))).take q = xs.take p ++ xs.drop (p + k) := by
  rw [ht, List.take_append_of_le_length (by omega), List.take_of_length_le (by omega)]
 rw [e1, List.append_assoc, List.take_append_of_le_length (by omega), List.take_of_length_le (by omega)]
end Go.Proofs.YtjkgjckkglfokaaGreat.Gr
