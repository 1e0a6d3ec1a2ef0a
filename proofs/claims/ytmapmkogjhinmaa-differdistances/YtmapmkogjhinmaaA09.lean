/- The program's free: the least free places. -/
import Derived.Test.YtmapmkogjhinmaaA08
namespace Go.Proofs.Ytmapmkogjhinmaa
open Go.RowKit
set_option maxRecDepth 100000
set_option maxHeartbeats 4000000
set_option linter.unusedVariables false
set_option linter.unusedSimpArgs false
def ivals (l : List Nat) : List Value := l.map fun h : Nat => .int .i64 (h : Int)
theorem ivals_append (l m : List Nat) : ivals (l ++ m) = ivals l ++ ivals m := by simp [ivals]
theorem info3 : InfoOf Try.prog 3 (.int .i64 0) 1 8 := by unfold InfoOf; kernel_rfl
def upTo (D : Dc) (i : Nat) : List Nat := (List.range i).filter (frB D)
theorem upTo_succ (D : Dc) (i : Nat) : upTo D (i + 1) = if frB D i = true then upTo D i ++ [i] else upTo D i := by
 unfold upTo
 rw [List.range_succ, List.filter_append]
 by_cases h : frB D i = true
 ·rw [if_pos h]; simp [h]
 ·rw [if_neg h]; simp [h]
theorem upTo_end (D : Dc) {i n : Nat} (hi : i <= 4096) (hn : (upTo D i).length <= n) (h : i = 4096 \/ (upTo D i).length = n) : upTo D i = (frL D).take n := by
 have e : frL D = upTo D i ++ ((List.range (4096 - i)).map (i + ·)).filter (frB D) := by
  unfold frL upTo
  rw [<- List.filter_append, <- List.range_add, Nat.add_sub_cancel' hi]
 rcases h with h | h
 ·subst h
  rw [List.take_of_length_le]
  ·rfl
  ·exact hn
 ·rw [e, <- h, List.take_left]
theorem frB_some {D : Dc} {i : Nat} {s : Sl} (h : D.S[i]? = some s) : frB D i = freeB s := by unfold frB; rw [h]
def FrlP (w : World) (l : List Nat) (e : Ending) (w' : World) : Prop :=
 ∃ a cap, e = .returned (.slice a l.length cap) /\ w'.ownsRow w.heap.size 3 1 (.slice a l.length cap) l.length (ivals l) /\ Below w.heap.size w w'
theorem pfree_any (w : World) (R : Nat -> Prop) (db : Nat) (D : Dc) (n : Nat) (hv : View w R db D) (hf : Fits D) (hn : n <= 4096) :
  Calls Try.prog 36 #[.pointer (some ⟨db, 0, none⟩), .int .i64 (n : Int)] w (FrlP w ((frL D).take n)) := by
 have hl := hf.len
 obtain ⟨a, cap, h1, hcl, -⟩ := hv.head
 have HV : Hid (View w R db D) := hv
 have hdb := hv.lt db hv.docs
 have HF : Hid (Fits D) := hf
 obtain ⟨W1, hmk, hO1, hB1⟩ : ∃ W1, (Instr.makeSlice 39 (.int .i64 0) (.int .i64 (n : Int))).run Try.prog w = .ok (.slice (some ⟨w.heap.size, 0, none⟩) 0 n) W1 /\ Hid (W1.ownsRow w.heap.size 3 1 (.slice (some ⟨w.heap.size, 0, none⟩) 0 n) 0 []) /\ Hid (Below w.heap.size w W1) := by
  obtain ⟨i, hi0, hz0, hz1, hz2⟩ := info3.parts
  obtain ⟨w', hr, h2, h3⟩ := run_make_own (P := Try.prog) w w.heap.size 39 3 i _ 1 Try.underlying39 hi0 hz0 hz1 .i64 .i64 n (by rw [hz2]; omega) (by unfold maxLen; omega) (Nat.le_refl _)
  exact ⟨w', hr, h2, ⟨h3.os, h3.tape, h3.output, h3.size, fun k hk => h3.block k hk (by simp)⟩⟩
 clear hv hf
 go_enter Try.func36, Try.ntmps36
 go_wp2
 clear hmk
 go_loopw [5, 6] (fun q iv wr => ∃ (i k : Nat) (qa : Option Addr) (qc : Nat), i <= 4096 /\ iv = .int .i64 (i : Int) /\ k <= n /\ q = .slice qa k qc /\ Hid ((upTo D i).length = k) /\ Hid (wr.ownsRow w.heap.size 3 1 (.slice qa k qc) k (ivals (upTo D i))) /\ Hid (Below w.heap.size w wr)) (fun _ iv _ => 4096 - (intOf iv).toNat)
 case atStart => exact ⟨0, 0, _, n, by omega, rfl, by omega, rfl, rfl, hO1, hB1⟩
 case round =>
  obtain ⟨i, k, qa, qc, hi, rfl, hk, rfl, hlen, hrow, hbw⟩ := hrel
  have hbs := hbw.out.size
  clear hO1 hB1
  have hdc : wr.cell? ⟨db, 0, none⟩ = some (.slice a D.S.length cap) := (hbw.out.cell (p := ⟨db, 0, none⟩) hdb).trans h1
  have hdl : db < wr.heap.size := by omega
  by_cases hlt : i < 4096
  ·have hlt' : (i : Int) < 4096 := by omega
   by_cases hkn : k < n
   ·have hkn' : (k : Int) < (n : Int) := by omega
    rcases Nat.lt_or_ge i D.S.length with hil | hil
    ·obtain ⟨s, hs⟩ : ∃ s, D.S[i]? = some s := ⟨_, List.getElem?_eq_getElem hil⟩
     obtain ⟨b, o, cap', aa, ac, ka, kc, h1', -, hbR, c0, c1, c2, c3, c4, c5, c6, c7, -⟩ := HV.out.slot hs
     rw [h1] at h1'
     simp only [Option.some.injEq, Value.slice.injEq, true_and] at h1'
     obtain ⟨rfl, rfl⟩ := h1'
     have hbb := HV.out.lt b hbR
     have hbl : b < wr.heap.size := by omega
     have hw : ∀ j v, w.cell? ⟨b, j, none⟩ = some v -> wr.cell? ⟨b, j, none⟩ = some v := fun j v h => (hbw.out.cell (p := ⟨b, j, none⟩) hbb).trans h
     replace c0 := hw _ _ c0
     replace c1 := hw _ _ c1
     replace c2 := hw _ _ c2
     replace c3 := hw _ _ c3
     replace c4 := hw _ _ c4
     replace c5 := hw _ _ c5
     replace c6 := hw _ _ c6
     replace c7 := hw _ _ c7
     have hge : ¬ (D.S.length : Int) <= (i : Int) := by omega
     have hfb : frB D i = (!s.live && decide (s.gen < 4294967295)) := frB_some hs
     have hsg := HF.out.gen i s hs
     clear hw hs
     go_wp2_with fail
     refine (canGive_any _ _ _ _ _ _ _ _ _).mono ?_
     rintro e w2 ⟨rfl, hb2⟩
     have HB2 : Hid (Below wr.heap.size wr w2) := hb2
     have hb2s := hb2.size
     have hbs2 : w.heap.size <= w2.heap.size := by omega
     have HOW : Hid (w2.ownsRow w.heap.size 3 1 (.slice qa k qc) k (ivals (upTo D i))) := own_after hrow.out hb2
     have HBW : Hid (Below w.heap.size w w2) := hbw.out.trans (hb2.mono hbs)
     clear hb2 hrow hbw
     have HFB : Hid (frB D i = (!s.live && decide (s.gen < 4294967295))) := hfb
     clear hfb c0 c1 c2 c3 c4 c5 c6 c7
     generalize (!s.live && decide (s.gen < 4294967295)) = gb at *
     cases gb
     ·have HUP : Hid (upTo D (i + 1) = upTo D i) := by show _ = _; rw [upTo_succ, if_neg (by rw [HFB.out]; simp)]
      go_wp2
      go_roundw
      case rel => exact ⟨i + 1, k, qa, qc, by omega, by go_num, hk, rfl, (by show _ = _; rw [HUP.out, hlen.out]), (by rw [HUP.out]; exact HOW), HBW⟩
      case measure => simp [intOf]; omega
     ·have HUP : Hid (upTo D (i + 1) = upTo D i ++ [i]) := by show _ = _; rw [upTo_succ, if_pos HFB.out]
      have tok : True := trivial
      go_wp2_with (at_builtin; have _t := tok; refine wpList_app rfl _ _ rfl Try.underlying39 info3 rfl (by decide) w.heap.size (.slice qa k qc) k (ivals (upTo D i)) rfl (own_of_block HOW.out (fun k hk => Below.heap_alloc _ _ _ (own_block_lt HOW.out k hk).2)) (some ⟨w2.heap.size, 0, none⟩) 1 1 [.int .i64 (i : Int)] rfl rfl (news_new w2 #[.int .i64 (i : Int)] 3) (by simp [Value.oneCell']) (by unfold maxLen; omega) (by omega) (by simp; omega) ?_; intro v1 w0 hown1 hg1 _ hat1; clear tok _t; obtain ⟨va1, vc1, hv1⟩ := own_slice hown1; subst hv1; have HO0 : Hid (w0.ownsRow w.heap.size 3 1 (.slice va1 (k + 1) vc1) (k + 1) (ivals (upTo D (i + 1)))) := (by rw [HUP.out, ivals_append]; exact hown1); have HB0 : Hid (Below w.heap.size w w0) := (HBW.out.trans (((Below.refl w.heap.size w2).alloc hbs2 _).grown hg1 (by simp; omega) (fun k hk => (own_block_lt HOW.out k hk).1))); clear hown1 hg1 hat1 HOW HBW)
      go_roundw
      case rel => exact ⟨i + 1, k + 1, va1, vc1, by omega, by go_num, by omega, rfl, (by show _ = _; rw [HUP.out, List.length_append, hlen.out]; rfl), HO0, HB0⟩
      case measure => simp [intOf]; omega
    ·have hge : (D.S.length : Int) <= (i : Int) := by omega
     have HUP : Hid (upTo D (i + 1) = upTo D i ++ [i]) := by
      show _ = _
      rw [upTo_succ, if_pos (by unfold frB; rw [List.getElem?_eq_none (by omega)])]
     have hbs2 := hbs
     have HOW := hrow
     have HBW := hbw
     clear hrow hbw
     have tok : True := trivial
     go_wp2_with (at_builtin; have _t := tok; refine wpList_app rfl _ _ rfl Try.underlying39 info3 rfl (by decide) w.heap.size (.slice qa k qc) k (ivals (upTo D i)) rfl (own_of_block HOW.out (fun k hk => Below.heap_alloc _ _ _ (own_block_lt HOW.out k hk).2)) (some ⟨wr.heap.size, 0, none⟩) 1 1 [.int .i64 (i : Int)] rfl rfl (news_new wr #[.int .i64 (i : Int)] 3) (by simp [Value.oneCell']) (by unfold maxLen; omega) (by omega) (by simp; omega) ?_; intro v1 w0 hown1 hg1 _ hat1; clear tok _t; obtain ⟨va1, vc1, hv1⟩ := own_slice hown1; subst hv1; have HO0 : Hid (w0.ownsRow w.heap.size 3 1 (.slice va1 (k + 1) vc1) (k + 1) (ivals (upTo D (i + 1)))) := (by rw [HUP.out, ivals_append]; exact hown1); have HB0 : Hid (Below w.heap.size w w0) := (HBW.out.trans (((Below.refl w.heap.size wr).alloc hbs2 _).grown hg1 (by simp; omega) (fun k hk => (own_block_lt HOW.out k hk).1))); clear hown1 hg1 hat1 HOW HBW)
     go_roundw
     case rel => exact ⟨i + 1, k + 1, va1, vc1, by omega, by go_num, by omega, rfl, (by show _ = _; rw [HUP.out, List.length_append, hlen.out]; rfl), HO0, HB0⟩
     case measure => simp [intOf]; omega
   ·have hkn' : ¬ (k : Int) < (n : Int) := by omega
    have hkn2 : k = n := by omega
    have HR : Hid (wr.ownsRow w.heap.size 3 1 (.slice qa k qc) k (ivals ((frL D).take n))) := by rw [<- upTo_end D hi (by rw [hlen.out]; exact hk) (.inr (by rw [hlen.out]; exact hkn2))]; exact hrow
    have HL : Hid (((frL D).take n).length = k) := by show _ = _; rw [<- upTo_end D hi (by rw [hlen.out]; exact hk) (.inr (by rw [hlen.out]; exact hkn2))]; exact hlen.out
    clear hrow
    subst hkn2
    go_wp2
    go_ret
    exact ⟨qa, qc, by rw [HL.out]; rfl, by rw [HL.out]; exact HR.out, hbw.out⟩
  ·have hlt' : ¬ (i : Int) < 4096 := by omega
   have hi2 : i = 4096 := by omega
   have HR : Hid (wr.ownsRow w.heap.size 3 1 (.slice qa k qc) k (ivals ((frL D).take n))) := by rw [<- upTo_end D hi (by rw [hlen.out]; exact hk) (.inl hi2)]; exact hrow
   have HL : Hid (((frL D).take n).length = k) := by show _ = _; rw [<- upTo_end D hi (by rw [hlen.out]; exact hk) (.inl hi2)]; exact hlen.out
   clear hrow
   go_wp2
   go_ret
   exact ⟨qa, qc, by rw [HL.out]; rfl, by rw [HL.out]; exact HR.out, hbw.out⟩
theorem handle_any (w : World) (i g : Nat) (hi : i < 4294967295) (hg : g < 4294967296) :
  Calls Try.prog 50 #[.int .i64 (i : Int), .int .u32 (g : Int)] w fun e w' => e = .returned (.int .u64 (hnd i g : Int)) /\ w' = w := by
 go_enter Try.func50, Try.ntmps50
 go_wp2
 go_ret
 exact ⟨congrArg _ (v_int (bits_hnd g i hg hi)), rfl⟩
structure FrAt (w : World) (fb fg : Nat) (F : List Nat) : Prop where
 cell : ∃ o cap, IsCells w fb #[.slice (some ⟨fg, o, none⟩) F.length cap] /\ F.length <= cap /\ ∀ (j x : Nat), F[j]? = some x -> w.cell? ⟨fg, o + j, none⟩ = some (.int .i64 (x : Int))
 ne : fg ≠ fb
 lt : fb < w.heap.size /\ fg < w.heap.size
theorem FrAt.of_blocks {w w' : World} {fb fg : Nat} {F : List Nat} (h : FrAt w fb fg F) (h1 : w'.heap[fb]? = w.heap[fb]?) (h2 : w'.heap[fg]? = w.heap[fg]?) (hs : w.heap.size <= w'.heap.size) : FrAt w' fb fg F := by
 obtain ⟨o, cap, a, b, c⟩ := h.cell
 exact ⟨⟨o, cap, a.of_block h1, b, fun j x hx => (World.cell?_of_block (w := w) (a := ⟨fg, o + j, none⟩) h2).trans (c j x hx)⟩, h.ne, by have := h.lt; omega⟩
def NextP (w : World) (fb fg : Nat) (i : Nat) (F : List Nat) (e : Ending) (w' : World) : Prop :=
 e = .returned (.int .i64 (i : Int)) /\ FrAt w' fb fg F /\ Turn (fun b => b = fb) w w'
theorem FrAt.popped {w : World} {fb fg i o cap o' cap' : Nat} {F : List Nat} (a : IsCells w fb #[.slice (some ⟨fg, o, none⟩) (i :: F).length cap]) (c : ∀ (j x : Nat), (i :: F)[j]? = some x -> w.cell? ⟨fg, o + j, none⟩ = some (.int .i64 (x : Int))) (hne : fg ≠ fb) (hlt : fb < w.heap.size /\ fg < w.heap.size) (hc : F.length <= cap') (ho : F ≠ [] -> o' = o + 1) :
  FrAt (w.setCell ⟨fb, 0, none⟩ (.slice (some ⟨fg, o', none⟩) F.length cap')) fb fg F /\ Turn (fun b => b = fb) w (w.setCell ⟨fb, 0, none⟩ (.slice (some ⟨fg, o', none⟩) F.length cap')) := by
 refine ⟨⟨⟨o', cap', ?_, hc, fun j x hx => ?_⟩, hne, by simp [World.setCell]; exact hlt⟩, Turn.setCell (A := fun b => b = fb) (Turn.refl _ _) (p := ⟨fb, 0, none⟩) rfl _⟩
 ·have := a.set 0 (.slice (some ⟨fg, o', none⟩) F.length cap')
  simpa using this
 ·have hF : F ≠ [] := fun e => by rw [e] at hx; simp at hx
  rw [ho hF]
  have := c (j + 1) x (by simpa using hx)
  rw [show o + 1 + j = o + (j + 1) by omega]
  exact (World.cell?_of_block (w := w) (a := ⟨fg, o + (j + 1), none⟩) (Below.heap_setCell _ _ _ _ hne)).trans this
theorem next_any (w : World) (fb fg i : Nat) (F : List Nat) (h : FrAt w fb fg (i :: F)) :
  Calls Try.prog 38 #[.pointer (some ⟨fb, 0, none⟩)] w (NextP w fb fg i F) := by
 obtain ⟨o, cap, a, b, c⟩ := h.cell
 have h0 : w.cell? ⟨fg, o, none⟩ = some (.int .i64 (i : Int)) := c 0 i rfl
 have hc := a.cell 0
 have hfz := a.frozen 0
 have hne := h.ne
 have hlt := h.lt
 have hll : (i :: F).length = F.length + 1 := rfl
 rw [hll] at b
 have hb1 : (1 : Int) <= (cap : Int) := by omega
 have HA : Hid (IsCells w fb #[.slice (some ⟨fg, o, none⟩) (i :: F).length cap]) := a
 have HC : Hid (∀ (j x : Nat), (i :: F)[j]? = some x -> w.cell? ⟨fg, o + j, none⟩ = some (.int .i64 (x : Int))) := c
 have hc' : w.cell? ⟨fb, 0, none⟩ = some (.slice (some ⟨fg, o, none⟩) (F.length + 1) cap) := hc
 have Hb : Hid (F.length + 1 <= cap) := b
 have Hlt : Hid (fb < w.heap.size /\ fg < w.heap.size) := hlt
 generalize hM : F.length = M at *
 have HM : Hid (F.length = M) := hM
 have hfbl := hlt.1
 have hfgl := hlt.2
 clear a c hc h hll hM hlt
 by_cases hcap : cap = 1
 ·have HE : Hid (F = []) := List.length_eq_zero_iff.1 (by have hm : F.length = M := HM.out; omega)
  subst hcap
  have hM0 : M = 0 := by omega
  subst hM0
  go_enter Try.func38, Try.ntmps38
  go_wp2
  go_ret
  have := FrAt.popped (o' := o) (cap' := 0) HA.out HC.out hne Hlt.out (by have hm := HM.out; have hb := Hb.out; omega) (fun h => absurd HE.out h)
  rw [HM.out] at this
  exact ⟨rfl, this⟩
 ·go_enter Try.func38, Try.ntmps38
  go_wp2
  go_ret
  have := FrAt.popped (o' := o + 1) (cap' := cap - 1) HA.out HC.out hne Hlt.out (by have hm := HM.out; have hb := Hb.out; omega) (fun _ => rfl)
  rw [HM.out] at this
  exact ⟨rfl, this⟩
def plantW (w : World) (g i : Nat) (s : Sl) (av : Value) : World :=
 (((((((w.setCell ⟨g, i * 8, none⟩ (.int .u32 (s.gen : Int))).setCell ⟨g, i * 8 + 1, none⟩ (.bool s.live)).setCell ⟨g, i * 8 + 2, none⟩ (.int .i64 s.kind)).setCell ⟨g, i * 8 + 3, none⟩ (.string s.name)).setCell ⟨g, i * 8 + 4, none⟩ av).setCell ⟨g, i * 8 + 5, none⟩ (.string s.text)).setCell ⟨g, i * 8 + 6, none⟩ (.int .u64 (s.parent : Int))).setCell ⟨g, i * 8 + 7, none⟩ (.slice none 0 0)
theorem Turn.plant {A : Nat -> Prop} {a w : World} (h : Turn A a w) {g : Nat} (hg : A g \/ a.heap.size <= g) (i : Nat) (s : Sl) (av : Value) : Turn A a (plantW w g i s av) := by
 have one : ∀ {w : World}, Turn A a w -> ∀ (o : Nat) (u : Value), Turn A a (w.setCell ⟨g, o, none⟩ u) := fun h o u => by
  rcases hg with hg | hg
  ·exact h.setCell (p := ⟨g, o, none⟩) hg u
  ·exact h.setNew (p := ⟨g, o, none⟩) hg u
 exact one (one (one (one (one (one (one (one h _ _) _ _) _ _) _ _) _ _) _ _) _ _) _ _
section
variable {w w' : World} {ro ro2 : Nat -> Nat} {db : Nat} {D : Dc} {z : Int} {sa : Option Addr} {g : Nat} {scap : Nat} {ra : Option Addr} {rcap : Nat} {L : List (Value × Value)}
theorem PdT.more (h : PdT w ro db D z sa scap ra rcap L) (he : ∀ b, ro b ≠ 0 -> ro2 b = ro b) (hl : ∀ b, ro2 b ≠ 0 -> b < w.heap.size) : PdT w ro2 db D z sa scap ra rcap L := by
 refine ⟨h.head, h.slots, h.roots, h.len, h.vals, ?_, fun b hb => ?_, fun b hb => ?_, fun i p b hp hb => ?_, fun i p b hp hb => ?_, hl⟩
 ·rw [he db (by rw [h.rdb]; omega), h.rdb]
 ·have := h.rs b hb
  rw [he b (by omega), this]
 ·have := h.rr b hb
  rw [he b (by omega), this]
 ·have := h.rat i p b hp hb
  rw [he b (by omega), this]
 ·have := h.rk i p b hp hb
  rw [he b (by omega), this]
theorem PdT.plant (h : PdT w ro db D z (some ⟨g, 0, none⟩) scap ra rcap L) {i : Nat} {s0 : Sl} (hs : D.S[i]? = some s0) (s : Sl) (hk : s.kids = []) {av : Value} (hv : w.ownsRow 0 99 2 av s.attrs.length (attrCells s.attrs)) (n1 : ∀ b, av.ownBlock = some b -> ro b = 2 * i + 4) :
  PdT (plantW w g i s av) ro db { D with S := D.S.set i s } z (some ⟨g, 0, none⟩) scap ra rcap (L.set i (av, .slice none 0 0)) := by
 have hi := (List.getElem?_eq_some_iff.1 hs).1
 have hl := h.len
 have hg : ro g = 2 := h.rs g rfl
 obtain ⟨p, hp⟩ : ∃ p, L[i]? = some p := ⟨_, List.getElem?_eq_getElem (by rw [h.len]; exact hi)⟩
 have v0 := h.vals i s0 p hs hp
 have a0 : ∀ b, p.1.ownBlock = some b -> ro b = 2 * i + 4 := fun b hb => h.rat i p b hp hb
 have b0 : ∀ b, p.2.ownBlock = some b -> ro b = 2 * i + 5 := fun b hb => h.rk i p b hp hb
 have n2 : ∀ b, (Value.slice none 0 0).ownBlock = some b -> ro b = 2 * i + 5 := fun b hb => by cases hb
 have t := fun (w : World) (q : Value × Value) (A : List (ByteArray × ByteArray)) (K : List Nat) (v : w.ownsRow 0 99 2 q.1 A.length (attrCells A) /\ w.ownsRow 0 67 1 q.2 K.length (hvals K)) (x1 : ∀ b, q.1.ownBlock = some b -> ro b = 2 * i + 4) (x2 : ∀ b, q.2.ownBlock = some b -> ro b = 2 * i + 5) (k : Nat) (u : Value) => two_rows (w := w) (ro := ro) (g := g) (i := i) (k := k) (p := q) (A := A) (K := K) hg v x1 x2 u
 have y := fun (w : World) (hv : w.ownsRow 0 99 2 av s.attrs.length (attrCells s.attrs)) (k : Nat) (u : Value) => (t w (av, .slice none 0 0) s.attrs [] ⟨hv, own_nil _ _ _ _⟩ n1 n2 k u).1
 have h0 := h.cell (j := 0) (s' := { s0 with gen := s.gen }) (p' := p) (u := .int .u32 (s.gen : Int)) hs hp (by omega) rfl v0 a0 b0
 have v1 := t _ p _ _ v0 a0 b0 (i * 8 + 0) (.int .u32 (s.gen : Int))
 have y1 := y _ hv (i * 8 + 0) (.int .u32 (s.gen : Int))
 have h1 := h0.cell' (j := 1) (s' := { s0 with gen := s.gen, live := s.live }) (p' := p) (u := .bool s.live) hi hl (by omega) rfl v1 a0 b0
 have v2 := t _ p _ _ v1 a0 b0 (i * 8 + 1) (.bool s.live)
 have y2 := y _ y1 (i * 8 + 1) (.bool s.live)
 have h2 := h1.cell' (j := 2) (s' := { s0 with gen := s.gen, live := s.live, kind := s.kind }) (p' := p) (u := .int .i64 s.kind) hi hl (by omega) rfl v2 a0 b0
 have v3 := t _ p _ _ v2 a0 b0 (i * 8 + 2) (.int .i64 s.kind)
 have y3 := y _ y2 (i * 8 + 2) (.int .i64 s.kind)
 have h3 := h2.cell' (j := 3) (s' := { s0 with gen := s.gen, live := s.live, kind := s.kind, name := s.name }) (p' := p) (u := .string s.name) hi hl (by omega) rfl v3 a0 b0
 have v4 := t _ p _ _ v3 a0 b0 (i * 8 + 3) (.string s.name)
 have y4 := y _ y3 (i * 8 + 3) (.string s.name)
 have h4 := h3.cell' (j := 4) (s' := { s0 with gen := s.gen, live := s.live, kind := s.kind, name := s.name, attrs := s.attrs }) (p' := (av, p.2)) (u := av) hi hl (by omega) rfl ⟨y4, v4.2⟩ n1 b0
 have v5 := t _ (av, p.2) s.attrs _ ⟨y4, v4.2⟩ n1 b0 (i * 8 + 4) av
 have h5 := h4.cell' (j := 5) (s' := { s0 with gen := s.gen, live := s.live, kind := s.kind, name := s.name, attrs := s.attrs, text := s.text }) (p' := (av, p.2)) (u := .string s.text) hi hl (by omega) rfl v5 n1 b0
 have v6 := t _ (av, p.2) s.attrs _ v5 n1 b0 (i * 8 + 5) (.string s.text)
 have h6 := h5.cell' (j := 6) (s' := { s with kids := s0.kids }) (p' := (av, p.2)) (u := .int .u64 (s.parent : Int)) hi hl (by omega) rfl v6 n1 b0
 have v7 := t _ (av, p.2) s.attrs _ v6 n1 b0 (i * 8 + 6) (.int .u64 (s.parent : Int))
 have h7 := h6.cell' (j := 7) (s' := s) (p' := (av, .slice none 0 0)) (u := .slice none 0 0) hi hl (by omega) rfl ⟨v7.1, by rw [hk]; exact own_nil _ _ _ _⟩ n1 n2
 exact h7
theorem PdS.more1 (h : PdS w ro db D sa scap ra rcap L) {a' : Option Addr} {c' : Nat} (hg : w.grownBy w' (Value.slice sa D.S.length scap).ownBlock) (hown : w'.ownsRow 0 77 8 (.slice a' (D.S.length + 1) c') (D.S.length + 1) (rowOf D.S L ++ slotCells (zeroSl 0) (.slice none 0 0, .slice none 0 0)))
  (hb : ∀ b, (Value.slice a' (D.S.length + 1) c').ownBlock = some b -> (Value.slice sa D.S.length scap).ownBlock = some b \/ w.heap.size <= b) :
  PdS (w'.setCell ⟨db, 0, none⟩ (.slice a' (D.S.length + 1) c')) (roN ro 2 (.slice a' (D.S.length + 1) c')) db { D with S := D.S ++ [zeroSl 0] } a' c' ra rcap (L ++ [(.slice none 0 0, .slice none 0 0)]) := by
 have hn1 : (D.S ++ [zeroSl 0]).length = D.S.length + 1 := by simp
 have ro1 : ∀ {b}, ro b ≠ 0 -> ro b ≠ 2 -> roN ro 2 (.slice a' (D.S.length + 1) c') b = ro b := fun h1 h2 => roN_other h.lt h.rs hb h1 h2
 have blk : ∀ b, ro b ≠ 0 -> ro b ≠ 2 -> w'.heap[b]? = w.heap[b]? := fun b h1 h2 => hg.block b (h.lt b h1) (fun e => h2 (h.rs b e.symm))
 have blk2 : ∀ b, ro b ≠ 0 -> ro b ≠ 2 -> ro b ≠ 1 -> (w'.setCell ⟨db, 0, none⟩ (.slice a' (D.S.length + 1) c')).heap[b]? = w.heap[b]? := fun b h1 h2 h3 =>
  (Below.heap_setCell _ _ _ _ (by show b ≠ db; rintro rfl; exact h3 h.rdb)).trans (blk b h1 h2)
 have hnd : ∀ b, (Value.slice a' (D.S.length + 1) c').ownBlock = some b -> b ≠ db := fun b hb' e => by
  subst e
  rcases hb b hb' with h' | h'
  ·have := h.rs b h'; rw [h.rdb] at this; omega
  ·have := h.lt b (by rw [h.rdb]; omega); omega
 have hold : ∀ (i : Nat) (s : Sl) (p : Value × Value), (D.S ++ [zeroSl 0])[i]? = some s -> (L ++ [(Value.slice none 0 0, Value.slice none 0 0)])[i]? = some p -> (D.S[i]? = some s /\ L[i]? = some p) \/ (s = zeroSl 0 /\ p = (.slice none 0 0, .slice none 0 0)) := fun i s p hs hp => by
  rcases Nat.lt_or_ge i D.S.length with hk | hk
  ·rw [List.getElem?_append_left hk] at hs
   rw [List.getElem?_append_left (by rw [h.len]; exact hk)] at hp
   exact .inl ⟨hs, hp⟩
  ·have hi : i = D.S.length := by have := (List.getElem?_eq_some_iff.1 hs).1; simp at this; omega
   subst hi
   rw [List.getElem?_append_right (Nat.le_refl _)] at hs
   rw [List.getElem?_append_right (by rw [h.len]; exact Nat.le_refl _), h.len] at hp
   simp at hs hp
   exact .inr ⟨hs.symm, hp.symm⟩
 have holdL : ∀ (i : Nat) (p : Value × Value), (L ++ [(Value.slice none 0 0, Value.slice none 0 0)])[i]? = some p -> L[i]? = some p \/ p = (.slice none 0 0, .slice none 0 0) := fun i p hp => by
  rcases Nat.lt_or_ge i L.length with hk | hk
  ·rw [List.getElem?_append_left hk] at hp
   exact .inl hp
  ·rw [List.getElem?_append_right hk] at hp
   have hi : i - L.length = 0 := by have := (List.getElem?_eq_some_iff.1 hp).1; simp at this; omega
   rw [hi] at hp
   simp at hp
   exact .inr hp.symm
 have hcl : cnt Sl.live (D.S ++ [zeroSl 0]) = cnt Sl.live D.S := by simp [cnt, List.filter_append, zeroSl]
 refine ⟨?_, ?_, own_of_block h.roots (fun k hk => blk2 k (by rw [h.rr k hk]; omega) (by rw [h.rr k hk]; omega) (by rw [h.rr k hk]; omega)), by simp [h.len], fun i s p hs hp => ?_, ?_, fun b hb' => ?_, fun b hb' => ?_, fun i p b hp hb' => ?_, fun i p b hp hb' => ?_, fun b hb' => ?_⟩
 ·have := (h.head.of_block (blk db (by rw [h.rdb]; omega) (by rw [h.rdb]; omega))).set 0 (.slice a' (D.S.length + 1) c')
  show IsCells _ db #[.slice a' (D.S ++ [zeroSl 0]).length c', .slice ra D.roots.length rcap, .int .i64 (cnt Sl.live (D.S ++ [zeroSl 0]) : Int)]
  rw [hn1, hcl]
  simpa using this
 ·show World.ownsRow _ 0 77 8 (.slice a' (D.S ++ [zeroSl 0]).length c') (D.S ++ [zeroSl 0]).length (rowOf (D.S ++ [zeroSl 0]) (L ++ [(.slice none 0 0, .slice none 0 0)]))
  rw [hn1, rowOf_snoc h.len]
  exact own_of_block hown (fun k hk => Below.heap_setCell _ _ _ _ (hnd k hk))
 ·rcases hold i s p hs hp with ⟨h1, h2⟩ | ⟨rfl, rfl⟩
  ·obtain ⟨v1, v2⟩ := h.vals i s p h1 h2
   exact ⟨own_of_block v1 (fun b hb' => blk2 b (by rw [h.rat i p b h2 hb']; omega) (by rw [h.rat i p b h2 hb']; omega) (by rw [h.rat i p b h2 hb']; omega)),
    own_of_block v2 (fun b hb' => blk2 b (by rw [h.rk i p b h2 hb']; omega) (by rw [h.rk i p b h2 hb']; omega) (by rw [h.rk i p b h2 hb']; omega))⟩
  ·exact ⟨own_nil _ _ _ _, own_nil _ _ _ _⟩
 ·rw [ro1 (by rw [h.rdb]; omega) (by rw [h.rdb]; omega), h.rdb]
 ·refine roN_same ?_
  have hb2 : (Value.slice a' (D.S ++ [zeroSl 0]).length c').ownBlock = some b := hb'
  rw [hn1] at hb2
  exact hb2
 ·rw [ro1 (by rw [h.rr b hb']; omega) (by rw [h.rr b hb']; omega), h.rr b hb']
 ·rcases holdL i p hp with h1 | rfl
  ·rw [ro1 (by rw [h.rat i p b h1 hb']; omega) (by rw [h.rat i p b h1 hb']; omega), h.rat i p b h1 hb']
  ·cases hb'
 ·rcases holdL i p hp with h1 | rfl
  ·rw [ro1 (by rw [h.rk i p b h1 hb']; omega) (by rw [h.rk i p b h1 hb']; omega), h.rk i p b h1 hb']
  ·cases hb'
 ·have hz : (w'.setCell ⟨db, 0, none⟩ (.slice a' (D.S.length + 1) c')).heap.size = w'.heap.size := by simp [World.setCell]
  rw [hz]
  unfold roN at hb'
  split at hb'
  ·rename_i e
   exact (own_block_lt hown b e).2
  ·split at hb'
   ·exact absurd rfl hb'
   ·exact Nat.lt_of_lt_of_le (h.lt b hb') hg.size
end
structure PG (w : World) (ro : Nat -> Nat) (db fb fg : Nat) (E : Dc) (F : List Nat) (w' : World) (ro' : Nat -> Nat) : Prop where
 turn : Turn (fun b => ro b ≠ 0 \/ b = fb) w w'
 doc : PDoc w' ro' db E
 from' : ∀ b, ro' b ≠ 0 -> ro b ≠ 0 \/ w.heap.size <= b
 fr : FrAt w' fb fg F
 fbl : fb < w.heap.size /\ fg < w.heap.size
 fz : ro fb = 0 /\ ro fg = 0
section
variable {w w1 w2 : World} {ro ro1 ro2 : Nat -> Nat} {db fb fg : Nat} {D E : Dc} {F G : List Nat}
theorem PG.start (h : PDoc w ro db D) (hf : FrAt w fb fg F) (hz : ro fb = 0 /\ ro fg = 0) : PG w ro db fb fg D F w ro :=
 ⟨Turn.refl _ _, h, fun b hb => .inl hb, hf, hf.lt, hz⟩
theorem PG.fz1 (h : PG w ro db fb fg D F w1 ro1) : ro1 fb = 0 /\ ro1 fg = 0 := by
 have key : ∀ b, b < w.heap.size -> ro b = 0 -> ro1 b = 0 := fun b hb hr => by
  by_cases e : ro1 b = 0
  ·exact e
  ·rcases h.from' b e with h1 | h1
   ·exact absurd hr h1
   ·omega
 exact ⟨key fb h.fbl.1 h.fz.1, key fg h.fbl.2 h.fz.2⟩
theorem PG.trans (h : PG w ro db fb fg D F w1 ro1) (k : PG w1 ro1 db fb fg E G w2 ro2) : PG w ro db fb fg E G w2 ro2 := by
 refine ⟨⟨k.turn.os.trans h.turn.os, k.turn.tape.trans h.turn.tape, k.turn.output.trans h.turn.output, Nat.le_trans h.turn.size k.turn.size, fun b hb hn => ?_⟩, k.doc, fun b hb => ?_, k.fr, h.fbl, h.fz⟩
 ·rw [k.turn.block b (Nat.lt_of_lt_of_le hb h.turn.size) (fun e => ?_), h.turn.block b hb hn]
  rcases e with e | e
  ·rcases h.from' b e with h1 | h1
   ·exact hn (.inl h1)
   ·omega
  ·exact hn (.inr e)
 ·rcases k.from' b hb with h1 | h1
  ·exact h.from' b h1
  ·exact .inr (Nat.le_trans h.turn.size h1)
theorem PG.below (h : PG w ro db fb fg D F w1 ro1) (hb : Below w1.heap.size w1 w2) : PG w ro db fb fg D F w2 ro1 := by
 obtain ⟨sa, scap, ra, rcap, L, hd⟩ := h.doc
 have h1 := h.fr.lt
 exact ⟨h.turn.then hb h.turn.size, ⟨sa, scap, ra, rcap, L, hd.below hb⟩, h.from', h.fr.of_blocks (hb.block fb h1.1) (hb.block fg h1.2) hb.size, h.fbl, h.fz⟩
theorem PG.next {e : Ending} {i : Nat} (h : PDoc w ro db D) (hz : ro fb = 0 /\ ro fg = 0) (hl : fb < w.heap.size /\ fg < w.heap.size) (k : NextP w fb fg i F e w1) : PG w ro db fb fg D F w1 ro := by
 obtain ⟨_, h1, h2⟩ := k
 exact ⟨h2.mono (fun b _ hb => .inr hb), h.turn h2 (fun b hb e => hb (e ▸ hz.1)), fun b hb => .inl hb, h1, hl, hz⟩
theorem PG.step (hz : ro fb = 0 /\ ro fg = 0) (hf : FrAt w fb fg F) (ht : Turn (fun b => ro b ≠ 0) w w1) (hd : PDoc w1 ro1 db E) (hfr : ∀ b, ro1 b ≠ 0 -> ro b ≠ 0 \/ w.heap.size <= b) : PG w ro db fb fg E F w1 ro1 :=
 ⟨ht.mono (fun b _ hb => .inl hb), hd, hfr, hf.of_blocks (ht.block fb hf.lt.1 (fun e => e hz.1)) (ht.block fg hf.lt.2 (fun e => e hz.2)) ht.size, hf.lt, hz⟩
def roA (ro : Nat -> Nat) (k : Nat) (v : Value) (b : Nat) : Nat := if v.ownBlock = some b then k else ro b
theorem roA_old {k : Nat} {v : Value} (hv : ∀ b, v.ownBlock = some b -> ro b = 0) (b : Nat) (h : ro b ≠ 0) : roA ro k v b = ro b := by
 unfold roA
 rw [if_neg (fun e => h (hv b e))]
theorem roA_new {k : Nat} {v : Value} {b : Nat} (h : v.ownBlock = some b) : roA ro k v b = k := by unfold roA; rw [if_pos h]
theorem roA_from {k : Nat} {v : Value} {b : Nat} (h : roA ro k v b ≠ 0) : ro b ≠ 0 \/ v.ownBlock = some b := by
 unfold roA at h
 split at h
 ·exact .inr (by assumption)
 ·exact .inl h
variable {sa : Option Addr} {g : Nat} {scap : Nat} {ra : Option Addr} {rcap : Nat} {L : List (Value × Value)}
theorem PdS.adopt (h : PdS w ro db D (some ⟨g, 0, none⟩) scap ra rcap L) {i : Nat} {s : Sl} (hs : D.S[i]? = some s) {v : Value} {l' : List Nat} {base : Nat} (hown : w.ownsRow base 67 1 v l'.length (hvals l')) (hv : ∀ b, v.ownBlock = some b -> ro b = 0) :
  PDoc (w.setCell ⟨g, i * 8 + 7, none⟩ v) (roA ro (2 * i + 5) v) db { D with S := D.S.set i { s with kids := l' } } /\ Turn (fun b => ro b ≠ 0) w (w.setCell ⟨g, i * 8 + 7, none⟩ v) := by
 have hi := (List.getElem?_eq_some_iff.1 hs).1
 obtain ⟨p, hp⟩ : ∃ p, L[i]? = some p := ⟨_, List.getElem?_eq_getElem (by rw [h.len]; exact hi)⟩
 have hg : ro g = 2 := h.rs g rfl
 have v0 := h.vals i s p hs hp
 have hown0 : w.ownsRow 0 67 1 v l'.length (hvals l') := own_base hown (fun _ _ => Nat.zero_le _)
 have hm : PdT w (roA ro (2 * i + 5) v) db D _ _ _ _ _ L := h.toT.more (fun b hb => roA_old hv b hb) (fun b hb => by
  rcases roA_from hb with h1 | h1
  ·exact h.lt b h1
  ·exact (own_block_lt hown b h1).2)
 have hc := hm.cell (j := 7) (s' := { s with kids := l' }) (p' := (p.1, v)) (u := v) hs hp (by omega) rfl ⟨v0.1, hown0⟩ (fun b hb => hm.rat i p b hp hb) (fun b hb => roA_new hb)
 refine ⟨⟨_, _, _, _, _, hc.toS ?_⟩, (Turn.refl _ _).setCell (A := fun b => ro b ≠ 0) (p := ⟨g, _, none⟩) (by show ro g ≠ 0; omega) _⟩
 show _ = ((cnt Sl.live (D.S.set i { s with kids := l' }) : Nat) : Int)
 rw [cnt_set (s' := { s with kids := l' }) hs rfl]
theorem cnt_plant {S : List Sl} {i : Nat} {s0 s : Sl} (hs : S[i]? = some s0) (h0 : s0.live = false) (h1 : s.live = true) : cnt Sl.live (S.set i s) = cnt Sl.live S + 1 := by
 unfold cnt
 have hi := (List.getElem?_eq_some_iff.1 hs).1
 have hsp : S = S.take i ++ s0 :: S.drop (i + 1) := by
  rw [<- (List.getElem?_eq_some_iff.1 hs).2, <- List.drop_eq_getElem_cons hi, List.take_append_drop]
 rw [List.set_eq_take_append_cons_drop, if_pos hi]
 conv => rhs; rw [hsp]
 rw [List.filter_append, List.filter_append, List.filter_cons, List.filter_cons, if_pos h1, if_neg (by simp [h0])]
 simp
 omega
theorem PdS.plant (h : PdS w ro db D (some ⟨g, 0, none⟩) scap ra rcap L) {i : Nat} {s0 : Sl} (hs : D.S[i]? = some s0) (h0 : s0.live = false) (s : Sl) (hk : s.kids = []) (h1 : s.live = true) {av : Value} {base : Nat} (hb : Below w.heap.size w w1) (hown : w1.ownsRow base 99 2 av s.attrs.length (attrCells s.attrs)) (hbase : w.heap.size <= base) :
  PDoc ((plantW w1 g i s av).setCell ⟨db, 2, none⟩ (.int .i64 ((cnt Sl.live D.S : Int) + 1))) (roA ro (2 * i + 4) av) db { D with S := D.S.set i s } /\ Turn (fun b => ro b ≠ 0) w ((plantW w1 g i s av).setCell ⟨db, 2, none⟩ (.int .i64 ((cnt Sl.live D.S : Int) + 1))) /\ ∀ b, roA ro (2 * i + 4) av b ≠ 0 -> ro b ≠ 0 \/ w.heap.size <= b := by
 have hg : ro g = 2 := h.rs g rfl
 have hv : ∀ b, av.ownBlock = some b -> ro b = 0 := fun b hb' => by
  have h2 := (own_block_lt hown b hb').1
  by_cases e : ro b = 0
  ·exact e
  ·have := h.lt b e
   omega
 have h1' := h.below hb
 have hown0 : w1.ownsRow 0 99 2 av s.attrs.length (attrCells s.attrs) := own_base hown (fun _ _ => Nat.zero_le _)
 have hm : PdT w1 (roA ro (2 * i + 4) av) db D _ _ _ _ _ L := h1'.toT.more (fun b hb => roA_old hv b hb) (fun b hb => by
  rcases roA_from hb with h1 | h1
  ·exact h1'.lt b h1
  ·exact (own_block_lt hown b h1).2)
 have hc := (hm.plant hs s hk hown0 (fun b hb => roA_new hb)).count ((cnt Sl.live D.S : Int) + 1)
 refine ⟨⟨_, _, _, _, _, hc.toS ?_⟩, ?_, fun b hb' => ?_⟩
 ·show _ = ((cnt Sl.live (D.S.set i s) : Nat) : Int)
  rw [cnt_plant hs h0 h1]
  omega
 ·exact (((Turn.refl _ _).then hb (Nat.le_refl _)).plant (.inl (by show ro g ≠ 0; omega)) i s av).setCell (A := fun b => ro b ≠ 0) (p := ⟨db, 2, none⟩) (by show ro db ≠ 0; rw [h.rdb]; omega) _
 ·rcases roA_from hb' with h1 | h1
  ·exact .inl h1
  ·exact .inr (Nat.le_trans hbase (own_block_lt hown b h1).1)
end
theorem growK_snoc {α : Type} (f : α -> Nat -> Dc -> Dc × Nat) (h : Nat) (k : α) : ∀ (l : List α) (D : Dc), growK f h (l ++ [k]) D = ((f k h (growK f h l D).1).1, (growK f h l D).2 ++ [(f k h (growK f h l D).1).2])
 | [], D => rfl
 | a :: r, D => by
  simp only [List.cons_append, growK]
  rw [growK_snoc f h k r]
theorem growK_spec (n : Nat) : ∀ (l : List (T n)) (h : Nat) (D : Dc), Sane D -> cnt takenB D.S + (l.map (ndT n)).sum <= 4096 -> (h = 0 \/ ∃ q, sl D h = some q) -> (∀ k ∈ l, okT n k) ->
  ∃ N, Grown D (growK (growD n) h l D).1 h N (growK (growD n) h l D).2 (l.map (ndT n)).sum ((l.map (htT n)).foldl max 0) := by
 intro l
 induction l with
 | nil =>
  intro h D hs _ _ _
  exact ⟨[], Grown.none hs h⟩
 | cons k r ihl =>
  intro h D hs hc hh hk
  simp only [List.map_cons, List.sum_cons] at hc
  obtain ⟨N1, g1⟩ := grow_spec n k h D hs (by omega) hh (hk k (by simp))
  have hh1 : h = 0 \/ ∃ q, sl (growD n k h D).1 h = some q := hh.imp id (fun ⟨q, hq⟩ => ⟨q, by rw [g1.old h (g1.notin (.inr ⟨q, hq⟩))]; exact hq⟩)
  obtain ⟨N2, g2⟩ := ihl h (growD n k h D).1 g1.sane (by rw [g1.tk]; omega) hh1 (fun x hx => hk x (by simp [hx]))
  refine ⟨N1 ++ N2, ?_⟩
  have := g1.cons g2
  rw [List.map_cons, List.sum_cons, List.map_cons, foldl_max_cons]
  exact this
def GrowP (w : World) (ro : Nat -> Nat) (db fb fg : Nat) (E : Dc) (h : Nat) (F : List Nat) (e : Ending) (w' : World) : Prop :=
 e = .returned (.int .u64 (h : Int)) /\ ∃ ro', PG w ro db fb fg E F w' ro'
def GrowAll (n : Nat) : Prop := ∀ (w : World) (v : Array Value) (t : T n) (lo hi p : Nat) (ro : Nat -> Nat) (db fb fg m : Nat) (D : Dc), TreeAt w lo hi n v t -> hi <= w.heap.size -> (∀ b, ro b ≠ 0 -> ¬ (lo <= b /\ b < hi)) -> hi <= fb -> PDoc w ro db D -> FrAt w fb fg ((frL D).take m) -> ndT n t <= m -> (ro fb = 0 /\ ro fg = 0) ->
  Sane D -> cnt takenB D.S + ndT n t <= 4096 -> (p = 0 \/ ∃ q, sl D p = some q) -> p < 18446744073709551616 -> okT n t ->
  Calls Try.prog 37 #[.pointer (some ⟨db, 0, none⟩), .agg v, .int .u64 (p : Int), .func (.func 38) #[] #[.pointer (some ⟨fb, 0, none⟩)]] w (GrowP w ro db fb fg (growD n t p D).1 (growD n t p D).2 (((frL D).take m).drop (ndT n t)))
theorem PG.grown {w w1 w2 : World} {ro ro1 : Nat -> Nat} {db fb fg : Nat} {E : Dc} {F : List Nat} {vb : Option Nat} (h : PG w ro db fb fg E F w1 ro1) (hg : w1.grownBy w2 vb) (hv : ∀ b, vb = some b -> ro1 b = 0 /\ w.heap.size <= b) : PG w ro db fb fg E F w2 ro1 := by
 obtain ⟨sa, scap, ra, rcap, L, hd⟩ := h.doc
 have hfb := h.fr.lt
 have hlt := h.fbl
 refine ⟨⟨hg.os.trans h.turn.os, hg.tape.trans h.turn.tape, hg.output.trans h.turn.output, Nat.le_trans h.turn.size hg.size, fun b hb hn => ?_⟩, ⟨sa, scap, ra, rcap, L, hd.of_blocks (fun b hb => hg.block b (hd.lt b hb) (fun e => hb (hv b e.symm).1)) hg.size⟩, h.from', h.fr.of_blocks (hg.block fb hfb.1 (fun e => by have := (hv fb e.symm).2; omega)) (hg.block fg hfb.2 (fun e => by have := (hv fg e.symm).2; omega)) hg.size, h.fbl, h.fz⟩
 rw [hg.block b (Nat.lt_of_lt_of_le hb h.turn.size) (fun e => by have := (hv b e.symm).2; omega), h.turn.block b hb hn]
theorem PG.adopt {w w1 w2 : World} {ro ro1 ro2 : Nat -> Nat} {db fb fg : Nat} {E E' : Dc} {F : List Nat} (h : PG w ro db fb fg E F w1 ro1) (ht : Turn (fun b => ro1 b ≠ 0) w1 w2) (hd : PDoc w2 ro2 db E') (hf : ∀ b, ro2 b ≠ 0 -> ro1 b ≠ 0 \/ w.heap.size <= b) : PG w ro db fb fg E' F w2 ro2 := by
 have hz := h.fz1
 have hfl := h.fr.lt
 refine ⟨⟨ht.os.trans h.turn.os, ht.tape.trans h.turn.tape, ht.output.trans h.turn.output, Nat.le_trans h.turn.size ht.size, fun b hb hn => ?_⟩, hd, fun b hb => ?_, h.fr.of_blocks (ht.block fb hfl.1 (fun e => e hz.1)) (ht.block fg hfl.2 (fun e => e hz.2)) ht.size, h.fbl, h.fz⟩
 ·rw [ht.block b (Nat.lt_of_lt_of_le hb h.turn.size) (fun e => ?_), h.turn.block b hb hn]
  rcases h.from' b e with h1 | h1
  ·exact hn (.inl h1)
  ·omega
 ·rcases hf b hb with h1 | h1
  ·exact h.from' b h1
  ·exact .inr h1
theorem growK_len {α : Type} (f : α -> Nat -> Dc -> Dc × Nat) (h : Nat) : ∀ (l : List α) (D : Dc), (growK f h l D).2.length = l.length
 | [], _ => rfl
 | a :: r, D => by simp [growK, growK_len f h r]
theorem setCell_drew (w : World) (p : Addr) (v : Value) : w.drew.setCell p v = (w.setCell p v).drew := rfl
theorem PdS.app {w w1 wa : World} {ro : Nat -> Nat} {db fb fg : Nat} {D : Dc} {sa : Option Addr} {scap : Nat} {ra : Option Addr} {rcap : Nat} {L : List (Value × Value)} {F : List Nat} {cs : Array Value} {o : Obj} {a' : Option Addr} {c' : Nat} (h : PdS w1 ro db D sa scap ra rcap L) (hlt : ∀ b, ro b ≠ 0 -> b < w.heap.size) (hp : PG w ro db fb fg D F w1 ro) (hw1 : w.heap.size < w1.heap.size) (hbx : IsCells w1 w.heap.size cs)
  (hg : (w1.alloc o).grownBy wa (Value.slice sa D.S.length scap).ownBlock) (hown : wa.ownsRow 0 77 8 (.slice a' (D.S.length + 1) c') (D.S.length + 1) (rowOf D.S L ++ slotCells (zeroSl 0) (.slice none 0 0, .slice none 0 0))) (hat : (Value.slice a' (D.S.length + 1) c').ownBlock = (Value.slice sa D.S.length scap).ownBlock \/ (Value.slice a' (D.S.length + 1) c').ownBlock = some (w1.alloc o).heap.size) :
  PdS (wa.setCell ⟨db, 0, none⟩ (.slice a' (D.S.length + 1) c')) (roN ro 2 (.slice a' (D.S.length + 1) c')) db { D with S := D.S ++ [zeroSl 0] } a' c' ra rcap (L ++ [(.slice none 0 0, .slice none 0 0)]) /\
  PG w ro db fb fg { D with S := D.S ++ [zeroSl 0] } F (wa.setCell ⟨db, 0, none⟩ (.slice a' (D.S.length + 1) c')) (roN ro 2 (.slice a' (D.S.length + 1) c')) /\ (∀ b, (Value.slice a' (D.S.length + 1) c').ownBlock = some b -> ¬ w.heap.size = b) /\
  IsCells (wa.setCell ⟨db, 0, none⟩ (.slice a' (D.S.length + 1) c')) w.heap.size cs /\ w.heap.size < (wa.setCell ⟨db, 0, none⟩ (.slice a' (D.S.length + 1) c')).heap.size /\ wa.heap[db]? = w1.heap[db]? := by
 have hb0 := below_new' w1 o
 have hs0 : (w1.alloc o).heap.size = w1.heap.size + 1 := by simp
 have hs1 := hg.size
 have hb : ∀ b, (Value.slice a' (D.S.length + 1) c').ownBlock = some b -> (Value.slice sa D.S.length scap).ownBlock = some b \/ (w1.alloc o).heap.size <= b := fun b hb' => by
  rcases hat with e | e
  ·exact .inl (e ▸ hb')
  ·rw [e] at hb'
   cases hb'
   exact .inr (Nat.le_refl _)
 have hk := (h.below hb0).more1 hg hown hb
 have hdw : ¬ w.heap.size = db := fun e => by have := hlt db (by rw [h.rdb]; omega); omega
 have hnw : ∀ b, (Value.slice sa D.S.length scap).ownBlock = some b -> ¬ w.heap.size = b := fun b hb' e => by
  have := hlt b (by rw [h.rs b hb']; omega)
  omega
 have ht : Turn (fun b => ro b ≠ 0) w1 (wa.setCell ⟨db, 0, none⟩ (.slice a' (D.S.length + 1) c')) := by
  refine Turn.setCell (A := fun b => ro b ≠ 0) (p := ⟨db, 0, none⟩) ?_ (by show ro db ≠ 0; rw [h.rdb]; omega) _
  exact ⟨hg.os.trans hb0.os, hg.tape.trans hb0.tape, hg.output.trans hb0.output, by omega, fun b hb' hn => by
   rw [hg.block b (by omega) (fun e => by
    have := h.rs b e.symm
    exact hn (by omega)), hb0.block b hb']⟩
 refine ⟨hk, hp.adopt ht ⟨_, _, _, _, _, hk⟩ (fun b hb' => ?_), fun b hb' => ?_, ?_, ?_, ?_⟩
 ·rcases roN_from (N := (w1.alloc o).heap.size) (by omega) (h.below hb0).rs hb hb' with h1 | h1
  ·exact .inl h1
  ·exact .inr (by omega)
 ·rcases hb b hb' with h1 | h1
  ·exact hnw b h1
  ·omega
 ·have e1 : wa.heap[w.heap.size]? = w1.heap[w.heap.size]? := by
   rw [hg.block w.heap.size (by omega) (fun e => hnw _ e.symm rfl), hb0.block w.heap.size hw1]
  exact (hbx.of_block e1).other hdw _
 ·have e2 : (wa.setCell ⟨db, 0, none⟩ (.slice a' (D.S.length + 1) c')).heap.size = wa.heap.size := by simp [World.setCell]
  omega
 ·have hdl := h.lt db (by rw [h.rdb]; omega)
  rw [hg.block db (by omega) (fun e => by have := h.rs db e.symm; rw [h.rdb] at this; omega), hb0.block db hdl]
theorem fr_drop {A B : List Nat} {k m : Nat} (h : A = A.take k ++ B) (hk : k <= A.length) (hm : k <= m) : (A.take m).drop k = B.take (m - k) := by
 have hl : (A.take k).length = k := by rw [List.length_take]; omega
 conv => lhs; rw [h]
 rw [List.take_append, hl, List.drop_append, List.length_take, hl, Nat.min_eq_right hm, Nat.sub_self, List.drop_zero, List.take_take, Nat.min_eq_right hm, List.drop_of_length_le (by rw [hl]; exact Nat.le_refl _), List.nil_append]
structure GC (w : World) (ro : Nat -> Nat) (db fb fg : Nat) (n H : Nat) (E0 : Dc) (m lo hi : Nat) (ka : Option Addr) (LL : List (T n)) : Prop where
 ih : GrowAll n
 sane : Sane E0
 cn : cnt takenB E0.S + (LL.map (ndT n)).sum <= 4096
 hm : (LL.map (ndT n)).sum <= m
 hh : ∃ q, sl E0 H = some q
 hl : H < 18446744073709551616
 ok : ∀ k ∈ LL, okT n k
 kids : KidsAt w lo hi n ka LL
 hsz : hi <= w.heap.size
 hro : ∀ b, ro b ≠ 0 -> ¬ (lo <= b /\ b < hi)
 hfb : hi <= fb
structure GS (w : World) (ro : Nat -> Nat) (db fb fg : Nat) (n H : Nat) (E0 : Dc) (m : Nat) (LL : List (T n)) (base : Nat) (j : Nat) (q : Value) (kn : Nat) (wr : World) : Prop where
 len : (growK (growD n) H (LL.take j) E0).2.length = kn
 st : ∃ ro', PG w ro db fb fg (growK (growD n) H (LL.take j) E0).1 (((frL E0).take m).drop ((LL.take j).map (ndT n)).sum) wr ro' /\ ∀ b, q.ownBlock = some b -> ro' b = 0
 row : wr.ownsRow base 67 1 q kn (hvals (growK (growD n) H (LL.take j) E0).2)
section
variable {w wr : World} {ro : Nat -> Nat} {db fb fg n H : Nat} {E0 : Dc} {m lo hi base j kn : Nat} {ka : Option Addr} {LL : List (T n)} {q : Value}
theorem take_sum (l : List (T n)) (j : Nat) {k : T n} (hk : l[j]? = some k) : ((l.take j).map (ndT n)).sum + ndT n k <= (l.map (ndT n)).sum /\ ((l.take (j + 1)).map (ndT n)).sum = ((l.take j).map (ndT n)).sum + ndT n k := by
 have h1 := sum_part (l.map (ndT n)) (j + 1)
 have e : ((l.take (j + 1)).map (ndT n)).sum = ((l.take j).map (ndT n)).sum + ndT n k := by rw [take_more hk, List.map_append, List.sum_append]; simp
 rw [<- List.map_take, e] at h1
 exact ⟨h1, e⟩
theorem GC.mid (c : GC w ro db fb fg n H E0 m lo hi ka LL) {k : T n} (hk : LL[j]? = some k) :
  Sane (growK (growD n) H (LL.take j) E0).1 /\ cnt takenB (growK (growD n) H (LL.take j) E0).1.S + ndT n k <= 4096 /\ (∃ q, sl (growK (growD n) H (LL.take j) E0).1 H = some q) /\ ((frL E0).take m).drop ((LL.take j).map (ndT n)).sum = (frL (growK (growD n) H (LL.take j) E0).1).take (m - ((LL.take j).map (ndT n)).sum) /\ ndT n k <= m - ((LL.take j).map (ndT n)).sum := by
 have hs := (take_sum LL j hk).1
 have hcn := c.cn
 have hm := c.hm
 have hok : ∀ x ∈ LL.take j, okT n x := fun x hx => c.ok x (List.mem_of_mem_take hx)
 obtain ⟨N, g⟩ := growK_spec n (LL.take j) H E0 c.sane (by omega) (.inr c.hh) hok
 have hf := growK_frL n (grow_frL n) (LL.take j) H E0 c.sane (by omega) (.inr c.hh) hok
 have hlen := frL_len c.sane.fits
 refine ⟨g.sane, by rw [g.tk]; omega, ?_, fr_drop hf (by omega) (by omega), by omega⟩
 obtain ⟨q, hq⟩ := c.hh
 exact ⟨q, by rw [g.old H (g.notin (.inr ⟨q, hq⟩))]; exact hq⟩
theorem GS.call (c : GC w ro db fb fg n H E0 m lo hi ka LL) (s : GS w ro db fb fg n H E0 m LL base j q kn wr) {k : T n} (hk : LL[j]? = some k) {v : Array Value} (ht : TreeAt wr lo hi n v k) (o : Obj) :
  ∃ ro1, (∀ b, q.ownBlock = some b -> ro1 b = 0) /\ PG w ro db fb fg (growK (growD n) H (LL.take j) E0).1 (((frL E0).take m).drop ((LL.take j).map (ndT n)).sum) (wr.alloc o) ro1 /\
  Calls Try.prog 37 #[.pointer (some ⟨db, 0, none⟩), .agg v, .int .u64 (H : Int), .func (.func 38) #[] #[.pointer (some ⟨fb, 0, none⟩)]] (wr.alloc o) (GrowP (wr.alloc o) ro1 db fb fg (growK (growD n) H (LL.take (j + 1)) E0).1 (growD n k H (growK (growD n) H (LL.take j) E0).1).2 (((frL E0).take m).drop ((LL.take (j + 1)).map (ndT n)).sum)) := by
 obtain ⟨ro1, hp, hq⟩ := s.st
 obtain ⟨m1, m2, m3, m4, m5⟩ := c.mid hk
 have hp' := hp.below (below_new' wr o)
 refine ⟨ro1, hq, hp', ?_⟩
 have hsz : hi <= wr.heap.size := Nat.le_trans c.hsz hp.turn.size
 have hfr := hp'.fr
 rw [m4] at hfr
 have := c.ih (wr.alloc o) v k lo hi H ro1 db fb fg _ _ (ht.below (below_new' wr o) (by omega)) (by simp; omega) (fun b hb => by
  rcases hp.from' b hb with h1 | h1
  ·exact c.hro b h1
  ·have := c.hsz; omega) c.hfb hp'.doc hfr m5 hp.fz1 m1 m2 (.inr m3) c.hl (c.ok k (List.mem_of_getElem? hk))
 rw [<- m4, List.drop_drop, <- (take_sum LL j hk).2] at this
 have e : growK (growD n) H (LL.take (j + 1)) E0 = ((growD n k H (growK (growD n) H (LL.take j) E0).1).1, (growK (growD n) H (LL.take j) E0).2 ++ [(growD n k H (growK (growD n) H (LL.take j) E0).1).2]) := by rw [take_more hk, growK_snoc]
 rw [e]
 exact this
theorem GS.kept (s : GS w ro db fb fg n H E0 m LL base j q kn wr) {ro1 : Nat -> Nat} {o : Obj} {w9 : World} {E : Dc} {F : List Nat} {ro2 : Nat -> Nat} (hb : w.heap.size <= base) (hq : ∀ b, q.ownBlock = some b -> ro1 b = 0) (hfl : fb < w.heap.size) (hg : PG (wr.alloc o) ro1 db fb fg E F w9 ro2) :
  w9.ownsRow base 67 1 q kn (hvals (growK (growD n) H (LL.take j) E0).2) /\ ∀ b, q.ownBlock = some b -> ro2 b = 0 := by
 have h0 := own_after s.row (below_new' wr o)
 refine ⟨own_of_block h0 (fun b hb' => hg.turn.block b (own_block_lt h0 b hb').2 (fun e => ?_)), fun b hb' => ?_⟩
 ·rcases e with e | e
  ·exact e (hq b hb')
  ·have := (own_block_lt h0 b hb').1
   omega
 ·by_cases e : ro2 b = 0
  ·exact e
  ·rcases hg.from' b e with h1 | h1
   ·exact absurd (hq b hb') h1
   ·have := (own_block_lt h0 b hb').2
    omega
theorem GS.more (c : GC w ro db fb fg n H E0 m lo hi ka LL) (hb : w.heap.size <= base) {k : T n} (hk : LL[j]? = some k) {ro1 ro2 : Nat -> Nat} {w8 w9 w10 w11 : World} {q' : Value} {hh : Nat} (hln : (growK (growD n) H (LL.take j) E0).2.length = kn) (h8 : PG w ro db fb fg (growK (growD n) H (LL.take j) E0).1 (((frL E0).take m).drop ((LL.take j).map (ndT n)).sum) w8 ro1)
  (h9 : PG w8 ro1 db fb fg (growK (growD n) H (LL.take (j + 1)) E0).1 (((frL E0).take m).drop ((LL.take (j + 1)).map (ndT n)).sum) w9 ro2) (hhh : hh = (growD n k H (growK (growD n) H (LL.take j) E0).1).2) (hq : ∀ b, q.ownBlock = some b -> ro2 b = 0 /\ base <= b) (h10 : Below w9.heap.size w9 w10) (hg : w10.grownBy w11 q.ownBlock) (hrow : w11.ownsRow base 67 1 q' (kn + 1) (hvals (growK (growD n) H (LL.take j) E0).2 ++ [.int .u64 (hh : Int)])) (hat : q'.ownBlock = q.ownBlock \/ q'.ownBlock = some w10.heap.size) :
  GS w ro db fb fg n H E0 m LL base (j + 1) q' (kn + 1) w11 := by
 have e : growK (growD n) H (LL.take (j + 1)) E0 = ((growD n k H (growK (growD n) H (LL.take j) E0).1).1, (growK (growD n) H (LL.take j) E0).2 ++ [(growD n k H (growK (growD n) H (LL.take j) E0).1).2]) := by rw [take_more hk, growK_snoc]
 have hp := ((h8.trans h9).below h10).grown hg (fun b hb' => ⟨(hq b hb').1, by have := (hq b hb').2; omega⟩)
 refine ⟨by rw [e]; simp [hln], ⟨ro2, hp, fun b hb' => ?_⟩, ?_⟩
 ·rcases hat with h1 | h1
  ·exact (hq b (h1 ▸ hb')).1
  ·rw [h1] at hb'
   cases hb'
   by_cases e : ro2 w10.heap.size = 0
   ·exact e
   ·obtain ⟨sa, scap, ra, rcap, L, hd⟩ := ((h8.trans h9).below h10).doc
    have := hd.lt _ e
    omega
 ·rw [e]
  show w11.ownsRow base 67 1 q' (kn + 1) (hvals ((growK (growD n) H (LL.take j) E0).2 ++ [(growD n k H (growK (growD n) H (LL.take j) E0).1).2]))
  rw [hvals_append, <- hhh]
  exact hrow
end
end Go.Proofs.Ytmapmkogjhinmaa
