/- posted: a forest's nodes as they end, by the document (the walk). -/
import Derived.Test.YtmapmkogjhinmaaA13
import Derived.Deep.DeepCutAuto
import Derived.Test.YtmapmkogjhinmaaProg
import Derived.WalkKit
import Derived.WalkSpells
import Derived.WalkLawsBesides
import Derived.Laws.StructEq
import Derived.Deep.WholeRow
import Derived.Test.YtmapmkogjhinmaaA12
namespace Go.Proofs.Ytmapmkogjhinmaa
open Go.RowKit
set_option maxRecDepth 100000
set_option maxHeartbeats 4000000
set_option linter.unusedVariables false
set_option linter.unusedSimpArgs false
theorem posted_n (n : Nat) (ih : ∀ m, n = m + 1 -> PosAll m) : PosAll n := by
 intro w lo hi base a L c na nc xs fa fc P hk hhb hbw hl hrows hlen
 have HK : Hid (KidsAt w lo hi n a L) := hk
 have HIH : Hid (∀ m, n = m + 1 -> PosAll m) := ih
 obtain ⟨W0, hW0⟩ : ∃ W0, W0 = (w.alloc (.cells #[.slice na P.length nc, .slice fa P.length fc] 41)).alloc (.cells #[.slice none 0 0, .slice none 0 0] 41) := ⟨_, rfl⟩
 obtain ⟨Ro, hRo⟩ : ∃ Ro : Nat -> Prop, Ro = fun b => (Value.slice na P.length nc).ownBlock = some b \/ (Value.slice fa P.length fc).ownBlock = some b := ⟨_, rfl⟩
 have HRL : Hid (∀ b, Ro b -> base <= b /\ b < w.heap.size) := by
  intro b hb
  rw [hRo] at hb
  rcases hb with hb | hb
  ·exact own_block_lt hrows.own b hb
  ·exact own_block_lt hrows.ownf b hb
 have HST : Hid (PoB w W0 lo hi base Ro na nc xs fa fc (P ++ posL (posT true n) (L.take 0) P.length)) := by
  have e : P ++ posL (posT true n) (L.take 0) P.length = P := by simp [posL]
  show PoB _ _ _ _ _ _ _ _ _ _ _ _
  rw [e]
  have ht : Turn (fun _ => False) w W0 := by rw [hW0]; exact ((Turn.refl _ _).alloc _).alloc _
  refine ⟨⟨hrows.turn ht hhb hbw (fun _ h => h.elim), ht.mono (fun _ _ h => h.elim), by rw [hW0]; simp, fun b hb => ?_⟩, ?_, ?_⟩
  ·have h1 : Ro b := by rw [hRo]; exact hb
   exact .inl ⟨h1, (HRL.out b h1).2⟩
  ·rw [hW0]; exact (isCells_new w _ 41).alloc _
  ·rw [hW0]
   have := isCells_new (w.alloc (.cells #[.slice na P.length nc, .slice fa P.length fc] 41)) #[.slice none 0 0, .slice none 0 0] 41
   simpa using this
 have HLE : Hid (∀ i, P.length + (posL (posT true n) (L.take i) P.length).length <= 4096) := fun i => by have := posL_le (f := posT true n) L i P.length; omega
 generalize hQ : P ++ posL (posT true n) L P.length = QE
 have HQE : Hid (P ++ posL (posT true n) L P.length = QE) := hQ
 have HP : Hid (∀ e w', PosP w lo hi base (.slice na P.length nc) (.slice fa P.length fc) QE e w' ↔ ∃ na nc xs fa fc, e = .returned (.agg #[.slice na QE.length nc, .slice fa QE.length fc]) /\ RowsAt w' lo hi base na nc xs QE fa fc QE /\ Turn Ro w w' /\ ∀ b, ((Value.slice na QE.length nc).ownBlock = some b \/ (Value.slice fa QE.length fc).ownBlock = some b) -> Ro b \/ w.heap.size <= b) := by
  intro e w'
  rw [hRo]
  exact Iff.rfl
 have hqs : (P ++ posL (posT true n) (L.take 0) P.length).length = P.length := by simp [posL]
 have HW0 : Hid (W0 = (w.alloc (.cells #[.slice na P.length nc, .slice fa P.length fc] 41)).alloc (.cells #[.slice none 0 0, .slice none 0 0] 41)) := hW0
 generalize PosP w lo hi base (.slice na P.length nc) (.slice fa P.length fc) QE = PP at *
 unfold maxK at hl
 clear hk ih hrows hQ hlen hRo hW0 hqs
 go_enter Try.func12, Try.ntmps12
 go_upto_region 1 with fail
 go_wp2
 rw [<- HW0.out]
 clear HW0
 go_loopw [5] (fun iv wr => ∃ (i : Nat) (na1 : Option Addr) (nc1 : Nat) (xs1 : List Value) (fa1 : Option Addr) (fc1 : Nat), i <= L.length /\ iv = .int .i64 (i : Int) /\ Hid (PoB w wr lo hi base Ro na1 nc1 xs1 fa1 fc1 (P ++ posL (posT true n) (L.take i) P.length))) (fun iv _ => L.length - (intOf iv).toNat)
 case atStart => exact ⟨0, na, nc, xs, fa, fc, Nat.zero_le _, rfl, HST⟩
 case round =>
  obtain ⟨i, na1, nc1, xs1, fa1, fc1, hi', rfl, hst⟩ := hrel
  clear HST
  have hbs := hst.out.st.siz
  have b0 : wr.cell? ⟨w.heap.size, 0, none⟩ = some (.slice na1 (P ++ posL (posT true n) (L.take i) P.length).length nc1) := hst.out.box.cell 0
  by_cases hlt : i < L.length
  ·have tl : (i : Int) < (L.length : Int) := by omega
   have t0 : (0 : Int) <= (i : Int) := by omega
   obtain ⟨k, hk⟩ : ∃ k, L[i]? = some k := ⟨_, List.getElem?_eq_getElem hlt⟩
   obtain ⟨b, o, kk, nm, aa, al, ac, tx, kA, kl, kc, rfl, hlo, hbl, c0, c1, c2, c3, c4, hT⟩ := (HK.out.turn hst.out.st.turn (by omega) (fun k h1 h2 h3 => by have := (HRL.out k h3).1; omega)).get hk
   obtain ⟨m, rfl⟩ : ∃ m, n = m + 1 := by
    cases n with
    | zero => exact hT.elim
    | succ m => exact ⟨m, rfl⟩
   obtain ⟨aa', ac', kA', kc', he, hal, hkl, hac, hkc, hat, hkd⟩ := id hT
   simp only [tv, Array.mk.injEq, List.cons.injEq, Value.int.injEq, Value.string.injEq, Value.slice.injEq, true_and, and_true] at he
   obtain ⟨rfl, rfl, ⟨rfl, rfl, rfl⟩, rfl, rfl, rfl, rfl⟩ := he
   have HTK : Hid (posL (posT true (m + 1)) (L.take (i + 1)) P.length = posL (posT true (m + 1)) (L.take i) P.length ++ (posL (posT true m) (kidsT (k : Nd (T m))) (P.length + (posL (posT true (m + 1)) (L.take i) P.length).length) ++ [(knT k, P.length + (posL (posT true (m + 1)) (L.take i) P.length).length)])) := posL_take L i P.length k hk
   obtain ⟨Q, hQ⟩ : ∃ Q, Q = P ++ posL (posT true (m + 1)) (L.take i) P.length := ⟨_, rfl⟩
   have hQl : Q.length = P.length + (posL (posT true (m + 1)) (L.take i) P.length).length := by rw [hQ, List.length_append]
   have HTQ : Hid (P ++ posL (posT true (m + 1)) (L.take (i + 1)) P.length = Q ++ posL (posT true m) (kidsT (k : Nd (T m))) Q.length ++ [(knT k, Q.length)]) := by
    show _ = _
    rw [HTK.out, hQl, hQ]
    simp [List.append_assoc]
   have HL1 : Q.length + (posL (posT true m) (kidsT (k : Nd (T m))) Q.length).length + 1 <= 4096 := by
    have h1 := HLE.out (i + 1)
    rw [HTK.out, List.length_append, List.length_append] at h1
    rw [hQl]
    simp at h1 ⊢
    omega
   rw [<- hQ] at hst b0
   clear hQ hQl HTK hT
   obtain ⟨KP, hKP⟩ : ∃ KP, KP = posL (posT true m) (kidsT (k : Nd (T m))) Q.length := ⟨_, rfl⟩
   rw [<- hKP] at HTQ HL1
   have HKP : Hid (KP = posL (posT true m) (kidsT (k : Nd (T m))) Q.length) := hKP
   clear hKP
   go_upto_if 21 with fail
   go_cut [] (fun wx => ∃ (na5 : Option Addr) (nc5 : Nat) (xs5 : List Value) (fa5 : Option Addr) (fc5 : Nat), Hid (PoB w wx lo hi base Ro na5 nc5 xs5 fa5 fc5 (Q ++ KP)))
   case first =>
    by_cases hkind : (k : Nd (T m)).kind = 1
    ·have hq : KP = posL (posT true m) (k : Nd (T m)).kids Q.length := by rw [HKP.out]; unfold kidsT; rw [if_pos hkind]
     have hke : ((k : Nd (T m)).kind == 1) = true := by simp [hkind]
     have htd : Turn (fun _ => False) wr wr.drew := (Turn.refl _ _).drew
     have hcal := HIH.out m rfl wr.drew lo hi base kA (k : Nd (T m)).kids kc na1 nc1 xs1 fa1 fc1 Q (KidsAt.turn hkd htd (by omega) (fun _ _ _ h => h)) hhb (by show base <= wr.heap.size; omega) hkl (hst.out.st.rows.turn htd hhb (by omega) (fun _ h => h.elim)) (by rw [<- hq]; omega)
     rw [<- hq] at hcal
     have b1 : wr.cell? ⟨w.heap.size, 1, none⟩ = some (.slice fa1 Q.length fc1) := hst.out.box.cell 1
     clear hq
     go_upto_region 6 with fail
     refine wp_region_f (fun W => W.cell? ⟨w.heap.size, 0, none⟩ = some (.slice na1 Q.length nc1) /\ W.cell? ⟨w.heap.size, 1, none⟩ = some (.slice fa1 Q.length fc1) /\ W.cell? ⟨b, o + i * 5 + 4, none⟩ = some (.slice kA (k : Nd (T m)).kids.length kc)) (fun j => j == 4 || j == 5) (by kernel_rfl) ?_
     have hS : (fun W : World => W.cell? ⟨w.heap.size, 0, none⟩ = some (.slice na1 Q.length nc1) /\ W.cell? ⟨w.heap.size, 1, none⟩ = some (.slice fa1 Q.length fc1) /\ W.cell? ⟨b, o + i * 5 + 4, none⟩ = some (.slice kA (k : Nd (T m)).kids.length kc)) wr.drew := ⟨b0, b1, c4⟩
     refine AnyF.pure (i := 0) (v := ?fv1) rfl (by kernel_rfl) (by kernel_rfl) (by kernel_rfl) (by kernel_rfl) (fun _ _ _ h => h) (Or.inl ⟨by rfl, ?fhy1⟩) ?frest1
     case fhy1 => (intro w _; go_simp; try with_reducible rfl)
     try simp only [Act.put, List.setIfInBounds_toArray, List.set_cons_zero, List.set_cons_succ]
     refine AnyF.pure (i := 1) (v := ?fv2) rfl (by kernel_rfl) (by kernel_rfl) (by kernel_rfl) (by kernel_rfl) (fun _ _ _ h => h) (Or.inl ⟨by rfl, ?fhy2⟩) ?frest2
     case fhy2 => (intro w _; go_simp; try with_reducible rfl)
     try simp only [Act.put, List.setIfInBounds_toArray, List.set_cons_zero, List.set_cons_succ]
     refine AnyF.pure (i := 2) (v := ?fv3) rfl (by kernel_rfl) (by kernel_rfl) (by kernel_rfl) (by kernel_rfl) (fun _ _ _ h => h) (Or.inl ⟨by rfl, ?fhy3⟩) ?frest3
     case fhy3 => (intro w _; go_simp; try with_reducible rfl)
     try simp only [Act.put, List.setIfInBounds_toArray, List.set_cons_zero, List.set_cons_succ]
     refine AnyF.pure (i := 3) (v := ?fv4) rfl (by kernel_rfl) (by kernel_rfl) (by kernel_rfl) (by kernel_rfl) (fun _ _ _ h => h) (Or.inl ⟨by rfl, ?fhy4⟩) ?frest4
     case fhy4 => (intro w _; go_simp; try with_reducible rfl)
     try simp only [Act.put, List.setIfInBounds_toArray, List.set_cons_zero, List.set_cons_succ]
     refine AnyF.take (i := 4) (v := ?fv5) rfl (by kernel_rfl) (by kernel_rfl) (by kernel_rfl) (by kernel_rfl) (fun _ _ _ h => h) (by assumption) (Or.inl ⟨by rfl, ?fhy5⟩) ?frest5
     case fhy5 => (intro w hSw; (try dsimp only at hSw); go_simp; try with_reducible rfl)
     try simp only [Act.put, List.setIfInBounds_toArray, List.set_cons_zero, List.set_cons_succ]
     refine AnyF.take (i := 5) (v := ?fv6) rfl (by kernel_rfl) (by kernel_rfl) (by kernel_rfl) (by kernel_rfl) (fun _ _ _ h => h) (by assumption) (Or.inl ⟨by rfl, ?fhy6⟩) ?frest6
     case fhy6 => (intro w hSw; (try dsimp only at hSw); go_simp; try with_reducible rfl)
     try simp only [Act.put, List.setIfInBounds_toArray, List.set_cons_zero, List.set_cons_succ]
     refine AnyF.one (i := 6) (by kernel_rfl) rfl ?_
     intro K hK
     go_simp
     refine hcal.mono ?_
     rintro e w5 ⟨na5, nc5, xs5, fa5, fc5, rfl, hr5, ht5, hb5⟩
     have HC5 : Hid (Cur wr w5 lo hi base (.slice na1 Q.length nc1) (.slice fa1 Q.length fc1) na5 nc5 xs5 (Q ++ KP) fa5 fc5 (Q ++ KP)) := ⟨hr5, (Turn.refl _ _).drew.trans ht5, hb5⟩
     have hbx := hst.out.at HC5.out
     have e0 : w5.cell? ⟨w.heap.size, 0, none⟩ = some (.slice na1 Q.length nc1) := hbx.cell 0
     have e1 : w5.cell? ⟨w.heap.size, 1, none⟩ = some (.slice fa1 Q.length fc1) := hbx.cell 1
     have z0 : w5.frozen? ⟨w.heap.size, 0, none⟩ = false := hbx.frozen 0
     have z1 : w5.frozen? ⟨w.heap.size, 1, none⟩ = false := hbx.frozen 1
     clear hcal hr5 ht5 hb5 hbx hS b0 b1 c0 c1 c2 c3 c4
     refine hK.out _ _ (fun h => by simp at h) ?_
     clear hK K
     try simp only [Act.put, List.setIfInBounds_toArray, List.set_cons_zero, List.set_cons_succ]
     refine AnyF.one (i := 7) (by kernel_rfl) rfl ?_
     intro K hK
     go_simp
     refine hK.out _ _ (fun h => by simp at h) ?_
     clear hK K
     try simp only [Act.put, List.setIfInBounds_toArray, List.set_cons_zero, List.set_cons_succ]
     refine AnyF.done (by kernel_rfl) ?_ _
     have HB5 : Hid (PoB w ((w5.setCell ⟨w.heap.size, 0, none⟩ (.slice na5 (Q ++ KP).length nc5)).setCell ⟨w.heap.size, 1, none⟩ (.slice fa5 (Q ++ KP).length fc5)) lo hi base Ro na5 nc5 xs5 fa5 fc5 (Q ++ KP)) := hst.out.push hhb hbw HRL.out HC5.out
     clear e0 e1 z0 z1
     go_wp2
     go_meet
     have HB6 := HB5.out
     rw [List.length_append] at HB6
     exact ⟨na5, nc5, xs5, fa5, fc5, HB6⟩
    ·have hq : KP = [] := by rw [HKP.out]; unfold kidsT; rw [if_neg hkind]; rfl
     have hke : ((k : Nd (T m)).kind == 1) = false := by simp [hkind]
     subst hq
     go_wp2
     go_meet
     exact ⟨na1, nc1, xs1, fa1, fc1, by rw [List.append_nil]; exact hst⟩
   case rest =>
    obtain ⟨na5, nc5, xs5, fa5, fc5, hb5⟩ := hcut
    obtain ⟨Q5, hQ5⟩ : ∃ Q5, Q5 = Q ++ KP := ⟨_, rfl⟩
    have HL2 : Q5.length + 1 <= 4096 := by rw [hQ5, List.length_append]; omega
    have hT2 := HTQ.out
    rw [<- hQ5] at hb5 hT2
    have HTQ5 : Hid (P ++ posL (posT true (m + 1)) (L.take (i + 1)) P.length = Q5 ++ [(knT (k : Nd (T m)), Q.length)]) := hT2
    clear hQ5 hT2 HTQ HKP c0 c1 c2 c3 c4 b0 hat hkd hst
    have hbs5 := hb5.out.st.siz
    obtain ⟨b2, o2, kk2, nm2, aa2, al2, ac2, tx2, kA2, kl2, kc2, hbo, hlo2, hbl2, c0, c1, c2, c3, c4, hT⟩ := (HK.out.turn hb5.out.st.turn (by omega) (fun k h1 h2 h3 => by have := (HRL.out k h3).1; omega)).get hk
    simp only [Option.some.injEq, Addr.mk.injEq, and_true] at hbo
    obtain ⟨rfl, rfl⟩ := hbo
    obtain ⟨aa', ac', kA', kc', he, hal2, hkl2, hac2, hkc2, hat, hkd⟩ := id hT
    simp only [tv, Array.mk.injEq, List.cons.injEq, Value.int.injEq, Value.string.injEq, Value.slice.injEq, true_and, and_true] at he
    obtain ⟨rfl, rfl, ⟨rfl, rfl, rfl⟩, rfl, rfl, rfl, rfl⟩ := he
    have HAT : Hid (AttrsAt wc lo hi aa2 (k : Nd (T m)).attrs) := hat
    have b0 : wc.cell? ⟨w.heap.size, 0, none⟩ = some (.slice na5 Q5.length nc5) := hb5.out.box.cell 0
    have b1 : wc.cell? ⟨w.heap.size, 1, none⟩ = some (.slice fa5 Q5.length fc5) := hb5.out.box.cell 1
    clear hkd hT hat hk
    have hown5 := own_block_lt hb5.out.st.rows.own
    have hownf5 := own_block_lt hb5.out.st.rows.ownf
    have HVB : Hid (∀ x, ((Value.slice na5 Q5.length nc5).ownBlock = some x \/ (Value.slice fa5 Q5.length fc5).ownBlock = some x) -> base <= x /\ x < wc.heap.size /\ x ≠ w.heap.size) := by
     intro x hx
     have h9 : x ≠ w.heap.size := by rcases hb5.out.st.blk x hx with h | h <;> omega
     rcases hx with hx | hx
     ·exact ⟨(hown5 x hx).1, (hown5 x hx).2, h9⟩
     ·exact ⟨(hownf5 x hx).1, (hownf5 x hx).2, h9⟩
    have hbwc : base <= wc.heap.size := by omega
    have HKS : Hid (∀ (W : World) (na' : Option Addr) (nc' : Nat) (xs' : List Value) (P' : List (Kn × Nat)) (fa' : Option Addr) (fc' : Nat) (G' : List (Kn × Nat)), Cur wc W lo hi base (.slice na5 Q5.length nc5) (.slice fa5 Q5.length fc5) na' nc' xs' P' fa' fc' G' -> (fun W : World => W.cell? ⟨w.heap.size, 0, none⟩ = some (.slice na5 Q5.length nc5) /\ W.cell? ⟨w.heap.size, 1, none⟩ = some (.slice fa5 Q5.length fc5) /\ W.cell? ⟨b, o + i * 5, none⟩ = some (.int .i64 (k : Nd (T m)).kind) /\ W.cell? ⟨b, o + i * 5 + 1, none⟩ = some (.string (k : Nd (T m)).name) /\ W.cell? ⟨b, o + i * 5 + 2, none⟩ = some (.slice aa2 (k : Nd (T m)).attrs.length ac2) /\ W.cell? ⟨b, o + i * 5 + 3, none⟩ = some (.string (k : Nd (T m)).text) /\ W.cell? ⟨b, o + i * 5 + 4, none⟩ = some (.slice kA2 (k : Nd (T m)).kids.length kc2)) W) := by
     intro W na' nc' xs' P' fa' fc' G' hc
     have h1 : W.heap[w.heap.size]? = wc.heap[w.heap.size]? := hc.turn.block _ (by omega) (fun e => (HVB.out _ e).2.2 rfl)
     have h2 : W.heap[b]? = wc.heap[b]? := hc.turn.block _ (by omega) (fun e => by have := (HVB.out _ e).1; omega)
     exact ⟨(World.cell?_of_block (w := wc) h1).trans b0, (World.cell?_of_block (w := wc) h1).trans b1, (World.cell?_of_block (w := wc) h2).trans c0, (World.cell?_of_block (w := wc) h2).trans c1, (World.cell?_of_block (w := wc) h2).trans c2, (World.cell?_of_block (w := wc) h2).trans c3, (World.cell?_of_block (w := wc) h2).trans c4⟩
    have HAC : Hid (∀ (W : World) (na' : Option Addr) (nc' : Nat) (xs' : List Value) (P' : List (Kn × Nat)) (fa' : Option Addr) (fc' : Nat) (G' : List (Kn × Nat)), Cur wc W lo hi base (.slice na5 Q5.length nc5) (.slice fa5 Q5.length fc5) na' nc' xs' P' fa' fc' G' -> AttrsAt W lo hi aa2 (knT (k : Nd (T m))).attrs) := fun W na' nc' xs' P' fa' fc' G' hc => hc.attrs hhb hbwc (fun x hx => (HVB.out x hx).1) HAT.out
    have HC0 : Hid (Cur wc wc lo hi base (.slice na5 Q5.length nc5) (.slice fa5 Q5.length fc5) na5 nc5 xs5 Q5 fa5 fc5 Q5) := hb5.out.st.rows.begin0
    have HNB : Hid (∀ x, wc.heap.size <= x -> ((Value.slice na5 Q5.length nc5).ownBlock = some x) -> False) := fun x h1 h2 => by have := (hown5 x h2).2; omega
    have hl8 : (Q5 ++ [(knT (k : Nd (T m)), Q.length)]).length = Q5.length + 1 := by simp
    clear hown5 hownf5
    go_upto_region 7 with fail
    refine wp_region_f (fun W => W.cell? ⟨w.heap.size, 0, none⟩ = some (.slice na5 Q5.length nc5) /\ W.cell? ⟨w.heap.size, 1, none⟩ = some (.slice fa5 Q5.length fc5) /\ W.cell? ⟨b, o + i * 5, none⟩ = some (.int .i64 (k : Nd (T m)).kind) /\ W.cell? ⟨b, o + i * 5 + 1, none⟩ = some (.string (k : Nd (T m)).name) /\ W.cell? ⟨b, o + i * 5 + 2, none⟩ = some (.slice aa2 (k : Nd (T m)).attrs.length ac2) /\ W.cell? ⟨b, o + i * 5 + 3, none⟩ = some (.string (k : Nd (T m)).text) /\ W.cell? ⟨b, o + i * 5 + 4, none⟩ = some (.slice kA2 (k : Nd (T m)).kids.length kc2)) (fun j => j == 1 || j == 5 || j == 9 || j == 6 || j == 7 || j == 11 || j == 12) (by kernel_rfl) ?_
    have hS : (fun W : World => W.cell? ⟨w.heap.size, 0, none⟩ = some (.slice na5 Q5.length nc5) /\ W.cell? ⟨w.heap.size, 1, none⟩ = some (.slice fa5 Q5.length fc5) /\ W.cell? ⟨b, o + i * 5, none⟩ = some (.int .i64 (k : Nd (T m)).kind) /\ W.cell? ⟨b, o + i * 5 + 1, none⟩ = some (.string (k : Nd (T m)).name) /\ W.cell? ⟨b, o + i * 5 + 2, none⟩ = some (.slice aa2 (k : Nd (T m)).attrs.length ac2) /\ W.cell? ⟨b, o + i * 5 + 3, none⟩ = some (.string (k : Nd (T m)).text) /\ W.cell? ⟨b, o + i * 5 + 4, none⟩ = some (.slice kA2 (k : Nd (T m)).kids.length kc2)) wc.drew := ⟨b0, b1, c0, c1, c2, c3, c4⟩
    refine AnyF.pure (i := 0) (v := ?fv7) rfl (by kernel_rfl) (by kernel_rfl) (by kernel_rfl) (by kernel_rfl) (fun _ _ _ h => h) (Or.inl ⟨by rfl, ?fhy7⟩) ?frest7
    case fhy7 => (intro w _; go_simp; try with_reducible rfl)
    try simp only [Act.put, List.setIfInBounds_toArray, List.set_cons_zero, List.set_cons_succ]
    refine AnyF.pure (i := 2) (v := ?fv8) rfl (by kernel_rfl) (by kernel_rfl) (by kernel_rfl) (by kernel_rfl) (fun _ _ _ h => h) (Or.inl ⟨by rfl, ?fhy8⟩) ?frest8
    case fhy8 => (intro w _; go_simp; try with_reducible rfl)
    try simp only [Act.put, List.setIfInBounds_toArray, List.set_cons_zero, List.set_cons_succ]
    refine AnyF.pure (i := 3) (v := ?fv9) rfl (by kernel_rfl) (by kernel_rfl) (by kernel_rfl) (by kernel_rfl) (fun _ _ _ h => h) (Or.inl ⟨by rfl, ?fhy9⟩) ?frest9
    case fhy9 => (intro w _; go_simp; try with_reducible rfl)
    try simp only [Act.put, List.setIfInBounds_toArray, List.set_cons_zero, List.set_cons_succ]
    refine AnyF.pure (i := 4) (v := ?fv10) rfl (by kernel_rfl) (by kernel_rfl) (by kernel_rfl) (by kernel_rfl) (fun _ _ _ h => h) (Or.inl ⟨by rfl, ?fhy10⟩) ?frest10
    case fhy10 => (intro w _; go_simp; try with_reducible rfl)
    try simp only [Act.put, List.setIfInBounds_toArray, List.set_cons_zero, List.set_cons_succ]
    refine AnyF.pure (i := 8) (v := ?fv11) rfl (by kernel_rfl) (by kernel_rfl) (by kernel_rfl) (by kernel_rfl) (fun _ _ _ h => h) (Or.inl ⟨by rfl, ?fhy11⟩) ?frest11
    case fhy11 => (intro w _; go_simp; try with_reducible rfl)
    try simp only [Act.put, List.setIfInBounds_toArray, List.set_cons_zero, List.set_cons_succ]
    refine AnyF.pure (i := 10) (v := ?fv12) rfl (by kernel_rfl) (by kernel_rfl) (by kernel_rfl) (by kernel_rfl) (fun _ _ _ h => h) (Or.inl ⟨by rfl, ?fhy12⟩) ?frest12
    case fhy12 => (intro w _; go_simp; try with_reducible rfl)
    try simp only [Act.put, List.setIfInBounds_toArray, List.set_cons_zero, List.set_cons_succ]
    refine AnyF.take (i := 1) (v := ?fv13) rfl (by kernel_rfl) (by kernel_rfl) (by kernel_rfl) (by kernel_rfl) (fun _ _ _ h => h) (by assumption) (Or.inl ⟨by rfl, ?fhy13⟩) ?frest13
    case fhy13 => (intro w hSw; (try dsimp only at hSw); go_simp; try with_reducible rfl)
    try simp only [Act.put, List.setIfInBounds_toArray, List.set_cons_zero, List.set_cons_succ]
    refine AnyF.take (i := 5) (v := ?fv14) rfl (by kernel_rfl) (by kernel_rfl) (by kernel_rfl) (by kernel_rfl) (fun _ _ _ h => h) (by assumption) (Or.inl ⟨by rfl, ?fhy14⟩) ?frest14
    case fhy14 => (intro w hSw; (try dsimp only at hSw); go_simp; try with_reducible rfl)
    try simp only [Act.put, List.setIfInBounds_toArray, List.set_cons_zero, List.set_cons_succ]
    refine AnyF.take (i := 9) (v := ?fv15) rfl (by kernel_rfl) (by kernel_rfl) (by kernel_rfl) (by kernel_rfl) (fun _ _ _ h => h) (by assumption) (Or.inl ⟨by rfl, ?fhy15⟩) ?frest15
    case fhy15 => (intro w hSw; (try dsimp only at hSw); go_simp; try with_reducible rfl)
    try simp only [Act.put, List.setIfInBounds_toArray, List.set_cons_zero, List.set_cons_succ]
    refine AnyF.two (i := 6) (j := 11) (by kernel_rfl) rfl rfl ?_ ?_
    ·intro K hK
     go_simp
     obtain ⟨W1, hWn⟩ : ∃ W, W = (wc.alloc (.cells #[.int .i64 (k : Nd (T m)).kind, .string (k : Nd (T m)).name, .slice aa2 (k : Nd (T m)).attrs.length ac2, .string (k : Nd (T m)).text, .slice kA2 (k : Nd (T m)).kids.length kc2] 36)).drew := ⟨_, rfl⟩
     have HC1 : Hid (Cur wc W1 lo hi base (.slice na5 Q5.length nc5) (.slice fa5 Q5.length fc5) na5 nc5 xs5 Q5 fa5 fc5 Q5) := by rw [hWn]; exact (HC0.out.alloc hhb hbwc _).drew hhb hbwc
     have hszW1 : wc.heap.size + 1 <= W1.heap.size := by rw [hWn]; simp
     have HN1 : Hid (News W1 wc.heap.size (tv (knT (k : Nd (T m))).kind (knT (k : Nd (T m))).name aa2 (knT (k : Nd (T m))).attrs.length ac2 (knT (k : Nd (T m))).text kA2 (k : Nd (T m)).kids.length kc2).toList) := by rw [hWn]; exact News.keep (W := wc.alloc (.cells #[.int .i64 (k : Nd (T m)).kind, .string (k : Nd (T m)).name, .slice aa2 (k : Nd (T m)).attrs.length ac2, .string (k : Nd (T m)).text, .slice kA2 (k : Nd (T m)).kids.length kc2] 36)) (news_new wc #[.int .i64 (k : Nd (T m)).kind, .string (k : Nd (T m)).name, .slice aa2 (k : Nd (T m)).attrs.length ac2, .string (k : Nd (T m)).text, .slice kA2 (k : Nd (T m)).kids.length kc2] 36) rfl
     rw [<- hWn]
     clear hWn
     refine hK.out _ _ (fun _ => HKS.out W1 _ _ _ _ _ _ _ HC1.out) ?_
     clear hK K
     try simp only [Act.put, List.setIfInBounds_toArray, List.set_cons_zero, List.set_cons_succ]
     refine AnyF.two (i := 7) (j := 11) (by kernel_rfl) rfl rfl ?_ ?_
     ·intro K hK
      refine step_app (by rfl) _ _ (by rfl) Try.underlying22 info25 rfl (by decide) base (.slice na5 Q5.length nc5) Q5.length xs5 (by rfl) HC1.out.rows.own (some ⟨wc.heap.size, 0, none⟩) 1 1 (tv (knT (k : Nd (T m))).kind (knT (k : Nd (T m))).name aa2 (knT (k : Nd (T m))).attrs.length ac2 (knT (k : Nd (T m))).text kA2 (k : Nd (T m)).kids.length kc2).toList (by rfl) (by rfl) HN1.out (tree_one _ _ _ _ _ _ _ _ _) (by unfold maxLen; omega) (by omega) (by omega) ?_
      intro v7 w7 hown7 hg7 _ hat7
      obtain ⟨na7, nc7, hv7⟩ := own_slice hown7
      subst hv7
      have hszw7 : W1.heap.size <= w7.heap.size := hg7.size
      have HC7 : Hid (Cur wc w7 lo hi base (.slice na5 Q5.length nc5) (.slice fa5 Q5.length fc5) na7 nc7 (xs5 ++ (tv (knT (k : Nd (T m))).kind (knT (k : Nd (T m))).name aa2 (knT (k : Nd (T m))).attrs.length ac2 (knT (k : Nd (T m))).text kA2 (k : Nd (T m)).kids.length kc2).toList) (Q5 ++ [(knT (k : Nd (T m)), Q.length)]) fa5 fc5 Q5) := HC1.out.app1 hhb hbwc (x := knT (k : Nd (T m))) (HAC.out _ _ _ _ _ _ _ _ HC1.out) hal2 hown7 hg7 hat7
      clear hown7 hg7 hat7
      refine hK.out _ _ (fun _ => HKS.out w7 _ _ _ _ _ _ _ HC7.out) ?_
      clear hK K
      try simp only [Act.put, List.setIfInBounds_toArray, List.set_cons_zero, List.set_cons_succ]
      refine AnyF.pure (i := 13) (v := ?fv16) rfl (by kernel_rfl) (by kernel_rfl) (by kernel_rfl) (by kernel_rfl) (fun _ _ _ h => h) (Or.inl ⟨by rfl, ?fhy16⟩) ?frest16
      case fhy16 => (intro w _; go_simp; try with_reducible rfl)
      try simp only [Act.put, List.setIfInBounds_toArray, List.set_cons_zero, List.set_cons_succ]
      refine AnyF.one (i := 11) (by kernel_rfl) rfl ?_
      intro K hK
      go_simp
      obtain ⟨W2, hWn⟩ : ∃ W, W = (w7.alloc (.cells #[.int .i64 (Q.length : Int)] 3)) := ⟨_, rfl⟩
      have HCW2 : Hid (Cur wc W2 lo hi base (.slice na5 Q5.length nc5) (.slice fa5 Q5.length fc5) na7 nc7 (xs5 ++ (tv (knT (k : Nd (T m))).kind (knT (k : Nd (T m))).name aa2 (knT (k : Nd (T m))).attrs.length ac2 (knT (k : Nd (T m))).text kA2 (k : Nd (T m)).kids.length kc2).toList) (Q5 ++ [(knT (k : Nd (T m)), Q.length)]) fa5 fc5 Q5) := by rw [hWn]; exact HC7.out.alloc hhb hbwc _
      have hszW2 : w7.heap.size + 1 <= W2.heap.size := by rw [hWn]; simp
      have HN2 : Hid (News W2 w7.heap.size [.int .i64 (Q.length : Int)]) := by rw [hWn]; exact news_new w7 #[.int .i64 (Q.length : Int)] 3
      rw [<- hWn]
      clear hWn
      refine hK.out _ _ (fun _ => HKS.out W2 _ _ _ _ _ _ _ HCW2.out) ?_
      clear hK K
      try simp only [Act.put, List.setIfInBounds_toArray, List.set_cons_zero, List.set_cons_succ]
      refine AnyF.one (i := 12) (by kernel_rfl) rfl ?_
      intro K hK
      refine step_app (by rfl) _ _ (by rfl) Try.underlying39 info3 rfl (by decide) base (.slice fa5 Q5.length fc5) Q5.length (fvals Q5) (by rfl) HCW2.out.rows.ownf (some ⟨w7.heap.size, 0, none⟩) 1 1 [.int .i64 (Q.length : Int)] (by rfl) (by rfl) HN2.out (one_int _) (by unfold maxLen; omega) (by omega) (by omega) ?_
      intro v8 w8 hown8 hg8 _ hat8
      obtain ⟨fa8, fc8, hv8⟩ := own_slice hown8
      subst hv8
      have HC8 : Hid (Cur wc w8 lo hi base (.slice na5 Q5.length nc5) (.slice fa5 Q5.length fc5) na7 nc7 (xs5 ++ (tv (knT (k : Nd (T m))).kind (knT (k : Nd (T m))).name aa2 (knT (k : Nd (T m))).attrs.length ac2 (knT (k : Nd (T m))).text kA2 (k : Nd (T m)).kids.length kc2).toList) (Q5 ++ [(knT (k : Nd (T m)), Q.length)]) fa8 fc8 (Q5 ++ [(knT (k : Nd (T m)), Q.length)])) := HCW2.out.app2 hhb hbwc hown8 hg8 hat8
      clear hown8 hg8 hat8
      refine hK.out _ _ (fun _ => HKS.out w8 _ _ _ _ _ _ _ HC8.out) ?_
      clear hK K
      try simp only [Act.put, List.setIfInBounds_toArray, List.set_cons_zero, List.set_cons_succ]
      have hbx := hb5.out.at HC8.out
      have e0 : w8.cell? ⟨w.heap.size, 0, none⟩ = some (.slice na5 Q5.length nc5) := hbx.cell 0
      have e1 : w8.cell? ⟨w.heap.size, 1, none⟩ = some (.slice fa5 Q5.length fc5) := hbx.cell 1
      have z0 : w8.frozen? ⟨w.heap.size, 0, none⟩ = false := hbx.frozen 0
      have z1 : w8.frozen? ⟨w.heap.size, 1, none⟩ = false := hbx.frozen 1
      have hb8 := hb5.out.push hhb hbw HRL.out HC8.out
      rw [hl8] at hb8
      have HB8 : Hid (PoB w ((w8.setCell ⟨w.heap.size, 0, none⟩ (.slice na7 (Q5.length + 1) nc7)).setCell ⟨w.heap.size, 1, none⟩ (.slice fa8 (Q5.length + 1) fc8)) lo hi base Ro na7 nc7 (xs5 ++ (tv (knT (k : Nd (T m))).kind (knT (k : Nd (T m))).name aa2 (knT (k : Nd (T m))).attrs.length ac2 (knT (k : Nd (T m))).text kA2 (k : Nd (T m)).kids.length kc2).toList) fa8 fc8 (P ++ posL (posT true (m + 1)) (L.take (i + 1)) P.length)) := by rw [HTQ5.out]; exact hb8
      clear hb8 hbx
      refine AnyF.one (i := 14) (by kernel_rfl) rfl ?_
      intro K hK
      go_simp
      refine hK.out _ _ (fun h => by simp at h) ?_
      clear hK K
      try simp only [Act.put, List.setIfInBounds_toArray, List.set_cons_zero, List.set_cons_succ]
      refine AnyF.pure (i := 15) (v := ?fv17) rfl (by kernel_rfl) (by kernel_rfl) (by kernel_rfl) (by kernel_rfl) (fun _ _ _ h => h) (Or.inl ⟨by rfl, ?fhy17⟩) ?frest17
      case fhy17 => (intro w _; go_simp; try with_reducible rfl)
      try simp only [Act.put, List.setIfInBounds_toArray, List.set_cons_zero, List.set_cons_succ]
      refine AnyF.one (i := 16) (by kernel_rfl) rfl ?_
      intro K hK
      go_simp
      refine hK.out _ _ (fun h => by simp at h) ?_
      clear hK K
      try simp only [Act.put, List.setIfInBounds_toArray, List.set_cons_zero, List.set_cons_succ]
      refine AnyF.done (by kernel_rfl) ?_ _
      clear e0 e1 z0 z1 hS HKS HAC HC8
      go_wp2
      go_roundw
      case rel =>
       exact ⟨i + 1, na7, nc7, _, fa8, fc8, by omega, by go_num, HB8⟩
      case measure => simp [intOf]; omega
     ·intro K hK
      go_simp
      obtain ⟨W2, hWn⟩ : ∃ W, W = (W1.alloc (.cells #[.int .i64 (Q.length : Int)] 3)) := ⟨_, rfl⟩
      have HC2 : Hid (Cur wc W2 lo hi base (.slice na5 Q5.length nc5) (.slice fa5 Q5.length fc5) na5 nc5 xs5 Q5 fa5 fc5 Q5) := by rw [hWn]; exact HC1.out.alloc hhb hbwc _
      have hszW2 : W1.heap.size + 1 <= W2.heap.size := by rw [hWn]; simp
      have HN2 : Hid (News W2 W1.heap.size [.int .i64 (Q.length : Int)]) := by rw [hWn]; exact news_new W1 #[.int .i64 (Q.length : Int)] 3
      have HN1b : Hid (News W2 wc.heap.size (tv (knT (k : Nd (T m))).kind (knT (k : Nd (T m))).name aa2 (knT (k : Nd (T m))).attrs.length ac2 (knT (k : Nd (T m))).text kA2 (k : Nd (T m)).kids.length kc2).toList) := by rw [hWn]; exact HN1.out.keep (Below.heap_alloc _ _ _ (by omega))
      rw [<- hWn]
      clear hWn
      refine hK.out _ _ (fun _ => HKS.out W2 _ _ _ _ _ _ _ HC2.out) ?_
      clear hK K
      try simp only [Act.put, List.setIfInBounds_toArray, List.set_cons_zero, List.set_cons_succ]
      refine AnyF.one (i := 7) (by kernel_rfl) rfl ?_
      intro K hK
      refine step_app (by rfl) _ _ (by rfl) Try.underlying22 info25 rfl (by decide) base (.slice na5 Q5.length nc5) Q5.length xs5 (by rfl) HC2.out.rows.own (some ⟨wc.heap.size, 0, none⟩) 1 1 (tv (knT (k : Nd (T m))).kind (knT (k : Nd (T m))).name aa2 (knT (k : Nd (T m))).attrs.length ac2 (knT (k : Nd (T m))).text kA2 (k : Nd (T m)).kids.length kc2).toList (by rfl) (by rfl) HN1b.out (tree_one _ _ _ _ _ _ _ _ _) (by unfold maxLen; omega) (by omega) (by omega) ?_
      intro v7 w7 hown7 hg7 _ hat7
      obtain ⟨na7, nc7, hv7⟩ := own_slice hown7
      subst hv7
      have hszw7 : W2.heap.size <= w7.heap.size := hg7.size
      have HC7 : Hid (Cur wc w7 lo hi base (.slice na5 Q5.length nc5) (.slice fa5 Q5.length fc5) na7 nc7 (xs5 ++ (tv (knT (k : Nd (T m))).kind (knT (k : Nd (T m))).name aa2 (knT (k : Nd (T m))).attrs.length ac2 (knT (k : Nd (T m))).text kA2 (k : Nd (T m)).kids.length kc2).toList) (Q5 ++ [(knT (k : Nd (T m)), Q.length)]) fa5 fc5 Q5) := HC2.out.app1 hhb hbwc (x := knT (k : Nd (T m))) (HAC.out _ _ _ _ _ _ _ _ HC2.out) hal2 hown7 hg7 hat7
      have HNI : Hid (News w7 W1.heap.size [.int .i64 (Q.length : Int)]) := HN2.out.keep (hg7.block _ (by omega) (fun e => HNB.out _ (by omega) e.symm))
      clear hown7 hg7 hat7
      refine hK.out _ _ (fun _ => HKS.out w7 _ _ _ _ _ _ _ HC7.out) ?_
      clear hK K
      try simp only [Act.put, List.setIfInBounds_toArray, List.set_cons_zero, List.set_cons_succ]
      refine AnyF.pure (i := 13) (v := ?fv18) rfl (by kernel_rfl) (by kernel_rfl) (by kernel_rfl) (by kernel_rfl) (fun _ _ _ h => h) (Or.inl ⟨by rfl, ?fhy18⟩) ?frest18
      case fhy18 => (intro w _; go_simp; try with_reducible rfl)
      try simp only [Act.put, List.setIfInBounds_toArray, List.set_cons_zero, List.set_cons_succ]
      have HCw7 := HC7
      refine AnyF.one (i := 12) (by kernel_rfl) rfl ?_
      intro K hK
      refine step_app (by rfl) _ _ (by rfl) Try.underlying39 info3 rfl (by decide) base (.slice fa5 Q5.length fc5) Q5.length (fvals Q5) (by rfl) HCw7.out.rows.ownf (some ⟨W1.heap.size, 0, none⟩) 1 1 [.int .i64 (Q.length : Int)] (by rfl) (by rfl) HNI.out (one_int _) (by unfold maxLen; omega) (by omega) (by omega) ?_
      intro v8 w8 hown8 hg8 _ hat8
      obtain ⟨fa8, fc8, hv8⟩ := own_slice hown8
      subst hv8
      have HC8 : Hid (Cur wc w8 lo hi base (.slice na5 Q5.length nc5) (.slice fa5 Q5.length fc5) na7 nc7 (xs5 ++ (tv (knT (k : Nd (T m))).kind (knT (k : Nd (T m))).name aa2 (knT (k : Nd (T m))).attrs.length ac2 (knT (k : Nd (T m))).text kA2 (k : Nd (T m)).kids.length kc2).toList) (Q5 ++ [(knT (k : Nd (T m)), Q.length)]) fa8 fc8 (Q5 ++ [(knT (k : Nd (T m)), Q.length)])) := HCw7.out.app2 hhb hbwc hown8 hg8 hat8
      clear hown8 hg8 hat8
      refine hK.out _ _ (fun _ => HKS.out w8 _ _ _ _ _ _ _ HC8.out) ?_
      clear hK K
      try simp only [Act.put, List.setIfInBounds_toArray, List.set_cons_zero, List.set_cons_succ]
      have hbx := hb5.out.at HC8.out
      have e0 : w8.cell? ⟨w.heap.size, 0, none⟩ = some (.slice na5 Q5.length nc5) := hbx.cell 0
      have e1 : w8.cell? ⟨w.heap.size, 1, none⟩ = some (.slice fa5 Q5.length fc5) := hbx.cell 1
      have z0 : w8.frozen? ⟨w.heap.size, 0, none⟩ = false := hbx.frozen 0
      have z1 : w8.frozen? ⟨w.heap.size, 1, none⟩ = false := hbx.frozen 1
      have hb8 := hb5.out.push hhb hbw HRL.out HC8.out
      rw [hl8] at hb8
      have HB8 : Hid (PoB w ((w8.setCell ⟨w.heap.size, 0, none⟩ (.slice na7 (Q5.length + 1) nc7)).setCell ⟨w.heap.size, 1, none⟩ (.slice fa8 (Q5.length + 1) fc8)) lo hi base Ro na7 nc7 (xs5 ++ (tv (knT (k : Nd (T m))).kind (knT (k : Nd (T m))).name aa2 (knT (k : Nd (T m))).attrs.length ac2 (knT (k : Nd (T m))).text kA2 (k : Nd (T m)).kids.length kc2).toList) fa8 fc8 (P ++ posL (posT true (m + 1)) (L.take (i + 1)) P.length)) := by rw [HTQ5.out]; exact hb8
      clear hb8 hbx
      refine AnyF.one (i := 14) (by kernel_rfl) rfl ?_
      intro K hK
      go_simp
      refine hK.out _ _ (fun h => by simp at h) ?_
      clear hK K
      try simp only [Act.put, List.setIfInBounds_toArray, List.set_cons_zero, List.set_cons_succ]
      refine AnyF.pure (i := 15) (v := ?fv19) rfl (by kernel_rfl) (by kernel_rfl) (by kernel_rfl) (by kernel_rfl) (fun _ _ _ h => h) (Or.inl ⟨by rfl, ?fhy19⟩) ?frest19
      case fhy19 => (intro w _; go_simp; try with_reducible rfl)
      try simp only [Act.put, List.setIfInBounds_toArray, List.set_cons_zero, List.set_cons_succ]
      refine AnyF.one (i := 16) (by kernel_rfl) rfl ?_
      intro K hK
      go_simp
      refine hK.out _ _ (fun h => by simp at h) ?_
      clear hK K
      try simp only [Act.put, List.setIfInBounds_toArray, List.set_cons_zero, List.set_cons_succ]
      refine AnyF.done (by kernel_rfl) ?_ _
      clear e0 e1 z0 z1 hS HKS HAC HC8
      go_wp2
      go_roundw
      case rel =>
       exact ⟨i + 1, na7, nc7, _, fa8, fc8, by omega, by go_num, HB8⟩
      case measure => simp [intOf]; omega
    ·intro K hK
     go_simp
     obtain ⟨W1, hWn⟩ : ∃ W, W = (wc.alloc (.cells #[.int .i64 (Q.length : Int)] 3)).drew := ⟨_, rfl⟩
     have HC1 : Hid (Cur wc W1 lo hi base (.slice na5 Q5.length nc5) (.slice fa5 Q5.length fc5) na5 nc5 xs5 Q5 fa5 fc5 Q5) := by rw [hWn]; exact (HC0.out.alloc hhb hbwc _).drew hhb hbwc
     have hszW1 : wc.heap.size + 1 <= W1.heap.size := by rw [hWn]; simp
     have HN2 : Hid (News W1 wc.heap.size [.int .i64 (Q.length : Int)]) := by rw [hWn]; exact News.keep (W := wc.alloc (.cells #[.int .i64 (Q.length : Int)] 3)) (news_new wc #[.int .i64 (Q.length : Int)] 3) rfl
     rw [<- hWn]
     clear hWn
     refine hK.out _ _ (fun _ => HKS.out W1 _ _ _ _ _ _ _ HC1.out) ?_
     clear hK K
     try simp only [Act.put, List.setIfInBounds_toArray, List.set_cons_zero, List.set_cons_succ]
     refine AnyF.one (i := 6) (by kernel_rfl) rfl ?_
     intro K hK
     go_simp
     obtain ⟨W2, hWn⟩ : ∃ W, W = (W1.alloc (.cells #[.int .i64 (k : Nd (T m)).kind, .string (k : Nd (T m)).name, .slice aa2 (k : Nd (T m)).attrs.length ac2, .string (k : Nd (T m)).text, .slice kA2 (k : Nd (T m)).kids.length kc2] 36)) := ⟨_, rfl⟩
     have HC2 : Hid (Cur wc W2 lo hi base (.slice na5 Q5.length nc5) (.slice fa5 Q5.length fc5) na5 nc5 xs5 Q5 fa5 fc5 Q5) := by rw [hWn]; exact HC1.out.alloc hhb hbwc _
     have hszW2 : W1.heap.size + 1 <= W2.heap.size := by rw [hWn]; simp
     have HN1 : Hid (News W2 W1.heap.size (tv (knT (k : Nd (T m))).kind (knT (k : Nd (T m))).name aa2 (knT (k : Nd (T m))).attrs.length ac2 (knT (k : Nd (T m))).text kA2 (k : Nd (T m)).kids.length kc2).toList) := by rw [hWn]; exact news_new W1 #[.int .i64 (k : Nd (T m)).kind, .string (k : Nd (T m)).name, .slice aa2 (k : Nd (T m)).attrs.length ac2, .string (k : Nd (T m)).text, .slice kA2 (k : Nd (T m)).kids.length kc2] 36
     have HN2b : Hid (News W2 wc.heap.size [.int .i64 (Q.length : Int)]) := by rw [hWn]; exact HN2.out.keep (Below.heap_alloc _ _ _ (by omega))
     rw [<- hWn]
     clear hWn
     refine hK.out _ _ (fun _ => HKS.out W2 _ _ _ _ _ _ _ HC2.out) ?_
     clear hK K
     try simp only [Act.put, List.setIfInBounds_toArray, List.set_cons_zero, List.set_cons_succ]
     refine AnyF.one (i := 7) (by kernel_rfl) rfl ?_
     intro K hK
     refine step_app (by rfl) _ _ (by rfl) Try.underlying22 info25 rfl (by decide) base (.slice na5 Q5.length nc5) Q5.length xs5 (by rfl) HC2.out.rows.own (some ⟨W1.heap.size, 0, none⟩) 1 1 (tv (knT (k : Nd (T m))).kind (knT (k : Nd (T m))).name aa2 (knT (k : Nd (T m))).attrs.length ac2 (knT (k : Nd (T m))).text kA2 (k : Nd (T m)).kids.length kc2).toList (by rfl) (by rfl) HN1.out (tree_one _ _ _ _ _ _ _ _ _) (by unfold maxLen; omega) (by omega) (by omega) ?_
     intro v7 w7 hown7 hg7 _ hat7
     obtain ⟨na7, nc7, hv7⟩ := own_slice hown7
     subst hv7
     have hszw7 : W2.heap.size <= w7.heap.size := hg7.size
     have HC7 : Hid (Cur wc w7 lo hi base (.slice na5 Q5.length nc5) (.slice fa5 Q5.length fc5) na7 nc7 (xs5 ++ (tv (knT (k : Nd (T m))).kind (knT (k : Nd (T m))).name aa2 (knT (k : Nd (T m))).attrs.length ac2 (knT (k : Nd (T m))).text kA2 (k : Nd (T m)).kids.length kc2).toList) (Q5 ++ [(knT (k : Nd (T m)), Q.length)]) fa5 fc5 Q5) := HC2.out.app1 hhb hbwc (x := knT (k : Nd (T m))) (HAC.out _ _ _ _ _ _ _ _ HC2.out) hal2 hown7 hg7 hat7
     have HNI : Hid (News w7 wc.heap.size [.int .i64 (Q.length : Int)]) := HN2b.out.keep (hg7.block _ (by omega) (fun e => HNB.out _ (by omega) e.symm))
     clear hown7 hg7 hat7
     refine hK.out _ _ (fun _ => HKS.out w7 _ _ _ _ _ _ _ HC7.out) ?_
     clear hK K
     try simp only [Act.put, List.setIfInBounds_toArray, List.set_cons_zero, List.set_cons_succ]
     refine AnyF.pure (i := 13) (v := ?fv20) rfl (by kernel_rfl) (by kernel_rfl) (by kernel_rfl) (by kernel_rfl) (fun _ _ _ h => h) (Or.inl ⟨by rfl, ?fhy20⟩) ?frest20
     case fhy20 => (intro w _; go_simp; try with_reducible rfl)
     try simp only [Act.put, List.setIfInBounds_toArray, List.set_cons_zero, List.set_cons_succ]
     have HCw7 := HC7
     refine AnyF.one (i := 12) (by kernel_rfl) rfl ?_
     intro K hK
     refine step_app (by rfl) _ _ (by rfl) Try.underlying39 info3 rfl (by decide) base (.slice fa5 Q5.length fc5) Q5.length (fvals Q5) (by rfl) HCw7.out.rows.ownf (some ⟨wc.heap.size, 0, none⟩) 1 1 [.int .i64 (Q.length : Int)] (by rfl) (by rfl) HNI.out (one_int _) (by unfold maxLen; omega) (by omega) (by omega) ?_
     intro v8 w8 hown8 hg8 _ hat8
     obtain ⟨fa8, fc8, hv8⟩ := own_slice hown8
     subst hv8
     have HC8 : Hid (Cur wc w8 lo hi base (.slice na5 Q5.length nc5) (.slice fa5 Q5.length fc5) na7 nc7 (xs5 ++ (tv (knT (k : Nd (T m))).kind (knT (k : Nd (T m))).name aa2 (knT (k : Nd (T m))).attrs.length ac2 (knT (k : Nd (T m))).text kA2 (k : Nd (T m)).kids.length kc2).toList) (Q5 ++ [(knT (k : Nd (T m)), Q.length)]) fa8 fc8 (Q5 ++ [(knT (k : Nd (T m)), Q.length)])) := HCw7.out.app2 hhb hbwc hown8 hg8 hat8
     clear hown8 hg8 hat8
     refine hK.out _ _ (fun _ => HKS.out w8 _ _ _ _ _ _ _ HC8.out) ?_
     clear hK K
     try simp only [Act.put, List.setIfInBounds_toArray, List.set_cons_zero, List.set_cons_succ]
     have hbx := hb5.out.at HC8.out
     have e0 : w8.cell? ⟨w.heap.size, 0, none⟩ = some (.slice na5 Q5.length nc5) := hbx.cell 0
     have e1 : w8.cell? ⟨w.heap.size, 1, none⟩ = some (.slice fa5 Q5.length fc5) := hbx.cell 1
     have z0 : w8.frozen? ⟨w.heap.size, 0, none⟩ = false := hbx.frozen 0
     have z1 : w8.frozen? ⟨w.heap.size, 1, none⟩ = false := hbx.frozen 1
     have hb8 := hb5.out.push hhb hbw HRL.out HC8.out
     rw [hl8] at hb8
     have HB8 : Hid (PoB w ((w8.setCell ⟨w.heap.size, 0, none⟩ (.slice na7 (Q5.length + 1) nc7)).setCell ⟨w.heap.size, 1, none⟩ (.slice fa8 (Q5.length + 1) fc8)) lo hi base Ro na7 nc7 (xs5 ++ (tv (knT (k : Nd (T m))).kind (knT (k : Nd (T m))).name aa2 (knT (k : Nd (T m))).attrs.length ac2 (knT (k : Nd (T m))).text kA2 (k : Nd (T m)).kids.length kc2).toList) fa8 fc8 (P ++ posL (posT true (m + 1)) (L.take (i + 1)) P.length)) := by rw [HTQ5.out]; exact hb8
     clear hb8 hbx
     refine AnyF.one (i := 14) (by kernel_rfl) rfl ?_
     intro K hK
     go_simp
     refine hK.out _ _ (fun h => by simp at h) ?_
     clear hK K
     try simp only [Act.put, List.setIfInBounds_toArray, List.set_cons_zero, List.set_cons_succ]
     refine AnyF.pure (i := 15) (v := ?fv21) rfl (by kernel_rfl) (by kernel_rfl) (by kernel_rfl) (by kernel_rfl) (fun _ _ _ h => h) (Or.inl ⟨by rfl, ?fhy21⟩) ?frest21
     case fhy21 => (intro w _; go_simp; try with_reducible rfl)
     try simp only [Act.put, List.setIfInBounds_toArray, List.set_cons_zero, List.set_cons_succ]
     refine AnyF.one (i := 16) (by kernel_rfl) rfl ?_
     intro K hK
     go_simp
     refine hK.out _ _ (fun h => by simp at h) ?_
     clear hK K
     try simp only [Act.put, List.setIfInBounds_toArray, List.set_cons_zero, List.set_cons_succ]
     refine AnyF.done (by kernel_rfl) ?_ _
     clear e0 e1 z0 z1 hS HKS HAC HC8
     go_wp2
     go_roundw
     case rel =>
      exact ⟨i + 1, na7, nc7, _, fa8, fc8, by omega, by go_num, HB8⟩
     case measure => simp [intOf]; omega
  ·have hie : i = L.length := by omega
   subst hie
   have hd := hst.out
   rw [List.take_length, HQE.out] at hd b0
   have b1 : wr.cell? ⟨w.heap.size, 1, none⟩ = some (.slice fa1 QE.length fc1) := hd.box.cell 1
   have r0 := hd.res.cell 0
   have r1 := hd.res.cell 1
   have rf := hd.res.frozen
   have HD : Hid (PoSt w wr lo hi base Ro na1 nc1 xs1 QE fa1 fc1 QE) := hd.st
   clear hlt hst hd
   have hne : w.heap.size + 1 ≠ w.heap.size := by omega
   have hT : Turn (fun x => x = w.heap.size + 1) wr ((wr.setCell ⟨w.heap.size + 1, 0, none⟩ (.slice na1 QE.length nc1)).setCell ⟨w.heap.size + 1, 1, none⟩ (.slice fa1 QE.length fc1)) :=
    ((Turn.refl _ _).setCell (A := fun x => x = w.heap.size + 1) (p := ⟨w.heap.size + 1, 0, none⟩) rfl _).setCell (A := fun x => x = w.heap.size + 1) (p := ⟨w.heap.size + 1, 1, none⟩) rfl _
   have HT : Hid (Turn (fun x => x = w.heap.size + 1) wr ((wr.setCell ⟨w.heap.size + 1, 0, none⟩ (.slice na1 QE.length nc1)).setCell ⟨w.heap.size + 1, 1, none⟩ (.slice fa1 QE.length fc1))) := hT
   clear hT
   go_wp2
   refine bodyPost_ret (v := .agg #[.slice na1 QE.length nc1, .slice fa1 QE.length fc1]) (by simp [results, Try.results12, go_sem, r0, r1]) rfl ?_
   rw [HP.out]
   refine ⟨na1, nc1, xs1, fa1, fc1, rfl, HD.out.rows.turn HT.out hhb (by omega) (fun x hx => ?_), (HD.out.turn.mono (B := fun x => Ro x \/ w.heap.size <= x) (fun _ _ h => .inl h)).trans (HT.out.mono (fun k _ hk => .inr (by omega))) |>.mono (fun k hk hx => ?_), fun x hx => ?_⟩
   ·subst hx
    exact ⟨by omega, fun e => by rcases HD.out.blk _ (.inl e) with h | h <;> omega, fun e => by rcases HD.out.blk _ (.inr e) with h | h <;> omega⟩
   ·rcases hx with hx | hx
    ·exact hx
    ·omega
   ·rcases HD.out.blk x hx with h | h
    ·exact .inl h.1
    ·exact .inr (by omega)
theorem posted_any : ∀ n, PosAll n
 | 0 => posted_n 0 (fun m h => by cases h)
 | n + 1 => posted_n (n + 1) (fun m h => by cases h; exact posted_any n)
def zc : Array Value := Array.replicate 1024 (.int .i64 0)
def big (v1 v2 v3 : Value) : Array Value := (#[v1, v2] ++ zc) ++ #[v3]
theorem info58 : (Try.prog.info? 58).map (fun i => (i.zero, i.size)) = some (some (.agg (big (.slice none 0 0) (.slice none 0 0) (.map none))), 1027) := by kernel_rfl
theorem big_size (v1 v2 v3 : Value) : (big v1 v2 v3).size = 1027 := by simp [big, zc]
theorem big_0 (v1 v2 v3 : Value) : (big v1 v2 v3)[0]? = some v1 := by simp [big, zc]
theorem big_1 (v1 v2 v3 : Value) : (big v1 v2 v3)[1]? = some v2 := by simp [big, zc]
theorem big_3 (v1 v2 v3 : Value) : (big v1 v2 v3)[1026]? = some v3 := by
 unfold big zc
 rw [Array.getElem?_append, if_neg (by simp)]
 simp
theorem big_2 (v1 v2 v3 : Value) (i : Nat) (hi : i < 1024) : (big v1 v2 v3)[2 + i]? = some (.int .i64 0) := by
 unfold big zc
 rw [Array.getElem?_append, if_pos (by simp; omega), Array.getElem?_append, if_neg (by simp)]
 simp [hi]
theorem big_get (v1 v2 v3 : Value) (i : Nat) : (big v1 v2 v3)[i]? = if i = 0 then some v1 else if i = 1 then some v2 else if i < 1026 then some (.int .i64 0) else if i = 1026 then some v3 else none := by
 by_cases h0 : i = 0
 ·rw [if_pos h0, h0]; exact big_0 _ _ _
 ·rw [if_neg h0]
  by_cases h1 : i = 1
  ·rw [if_pos h1, h1]; exact big_1 _ _ _
  ·rw [if_neg h1]
   by_cases h2 : i < 1026
   ·rw [if_pos h2]
    have := big_2 v1 v2 v3 (i - 2) (by omega)
    rwa [show 2 + (i - 2) = i from by omega] at this
   ·rw [if_neg h2]
    by_cases h3 : i = 1026
    ·rw [if_pos h3, h3]; exact big_3 _ _ _
    ·rw [if_neg h3]
     exact Array.getElem?_eq_none (by rw [big_size]; omega)
theorem big_set (x y z v1 v2 v3 : Value) : (((big x y z).setIfInBounds 0 v1).setIfInBounds 1 v2).setIfInBounds 1026 v3 = big v1 v2 v3 := by
 apply Array.ext_getElem?
 intro i
 have hs := big_size x y z
 rw [Array.getElem?_setIfInBounds, Array.getElem?_setIfInBounds, Array.getElem?_setIfInBounds, big_get, big_get]
 simp only [Array.size_setIfInBounds, hs]
 by_cases h0 : i = 0
 ·subst h0; simp
 ·by_cases h1 : i = 1
  ·subst h1; simp
  ·by_cases h3 : i = 1026
   ·subst h3; simp
   ·rw [if_neg (fun h => h3 h.symm), if_neg (fun h => h1 h.symm), if_neg (fun h => h0 h.symm), if_neg h0, if_neg h0, if_neg h1, if_neg h1, if_neg h3, if_neg h3]
theorem big_one (v1 v2 v3 : Value) (h1 : v1.oneCell' = true) (h2 : v2.oneCell' = true) (h3 : v3.oneCell' = true) : (big v1 v2 v3).all (·.oneCell') = true := by
 rw [Array.all_eq_true_iff_forall_mem]
 intro x hx
 unfold big zc at hx
 simp at hx
 rcases hx with (rfl | rfl) | rfl | rfl
 ·exact h1
 ·exact h2
 ·rfl
 ·exact h3
attribute [local go_sem] Bel.cell Bel.fz TB.cell TB.fz
theorem apart_step (mb mk : Nat) (A B : List (Kn × Nat)) (hWA : WP A) (hWB : WP B) (hA : A.length <= 32) (hB : B.length <= 32) (n : Nat) (ih : ApAll mb mk A B n) (w : World) (a b c d : Nat) (hm : Met mb mk A B w) (hab : Cl A a (b + 1)) (hcd : Cl B c (d + 1)) (e1 : a ≠ b + 1) (e2 : c ≠ d + 1) (hn : (b + 1 - a) + (d + 1 - c) <= n + 1) :
  Calls Try.prog 17 #[.pointer (some ⟨mb, 0, none⟩), .int .i64 (a : Int), .int .i64 ((b : Int) + 1), .int .i64 (c : Int), .int .i64 ((d : Int) + 1)] w (ApP w mb mk A B (Z A B a (b + 1) c (d + 1))) := by
 have hzs := Z_step hWA hWB hab hcd e1 e2
 obtain ⟨p1, p2, p3, p4, p5⟩ := hab.in hWA e1
 obtain ⟨q1, q2, q3, q4, q5⟩ := hcd.in hWB e2
 have l1 := hab.le
 have l2 := hcd.le
 have l3 := hab.len
 have l4 := hcd.len
 simp only [Nat.add_sub_cancel] at hzs p1 p2 p3 p4 p5 q1 q2 q3 q4 q5
 have hz1 := Z_le' hWA hWB p1 q1
 have hz2 := Z_le' hWA hWB p2 q2
 have hz3 := Z_le' hWA hWB p3 hcd
 have hz4 := Z_le' hWA hWB hab q3
 have ht1 := turnN_le A B b d
 have HC1 : Hid (∀ W, Met mb mk A B W -> Calls Try.prog 17 #[.pointer (some ⟨mb, 0, none⟩), .int .i64 ((fsN A b : Nat) : Int), .int .i64 (b : Int), .int .i64 ((fsN B d : Nat) : Int), .int .i64 (d : Int)] W (ApP W mb mk A B (Z A B (fsN A b) b (fsN B d) d))) := fun W hW => ih W _ _ _ _ hW p1 q1 (by omega)
 have HC2 : Hid (∀ W, Met mb mk A B W -> Calls Try.prog 17 #[.pointer (some ⟨mb, 0, none⟩), .int .i64 (a : Int), .int .i64 ((fsN A b : Nat) : Int), .int .i64 (c : Int), .int .i64 ((fsN B d : Nat) : Int)] W (ApP W mb mk A B (Z A B a (fsN A b) c (fsN B d)))) := fun W hW => ih W _ _ _ _ hW p2 q2 (by omega)
 have HC3 : Hid (∀ W, Met mb mk A B W -> Calls Try.prog 17 #[.pointer (some ⟨mb, 0, none⟩), .int .i64 (a : Int), .int .i64 (b : Int), .int .i64 (c : Int), .int .i64 ((d : Int) + 1)] W (ApP W mb mk A B (Z A B a b c (d + 1)))) := fun W hW => by
  have := ih W a b c (d + 1) hW p3 hcd (by omega)
  rwa [show (((d + 1 : Nat)) : Int) = (d : Int) + 1 from by omega] at this
 have HC4 : Hid (∀ W, Met mb mk A B W -> Calls Try.prog 17 #[.pointer (some ⟨mb, 0, none⟩), .int .i64 (a : Int), .int .i64 ((b : Int) + 1), .int .i64 (c : Int), .int .i64 (d : Int)] W (ApP W mb mk A B (Z A B a (b + 1) c d))) := fun W hW => by
  have := ih W a (b + 1) c d hW hab q3 (by omega)
  rwa [show (((b + 1 : Nat)) : Int) = (b : Int) + 1 from by omega] at this
 have HZ : Hid (Z A B a (b + 1) c (d + 1) = min (turnN A B b d + Z A B (fsN A b) b (fsN B d) d + Z A B a (fsN A b) c (fsN B d)) (min (Z A B a b c (d + 1) + 1) (Z A B a (b + 1) c d + 1))) := hzs
 obtain ⟨g, hg⟩ := hm
 have HG : Hid (MetAt w mb mk A B g) := hg
 have hka : ∀ W, KMap W mk g -> (Instr.lookup 54 (.map (some mk)) (.agg #[.int .i64 (a : Int), .int .i64 ((b : Int) + 1), .int .i64 (c : Int), .int .i64 ((d : Int) + 1)]) true).run Try.prog W = .ok (.tuple #[.int .i64 (((g (ix a (b + 1) c (d + 1))).getD 0 : Nat) : Int), .bool (g (ix a (b + 1) c (d + 1))).isSome]) W := fun W hW => by
  have := hW.look (a := a) (b := b + 1) (c := c) (d := d + 1) (by omega) (by omega) (by omega) (by omega)
  unfold kv4 at this
  rwa [show (((b + 1 : Nat)) : Int) = (b : Int) + 1 from by omega, show (((d + 1 : Nat)) : Int) = (d : Int) + 1 from by omega] at this
 have HKA : Hid (∀ W, KMap W mk g -> (Instr.lookup 54 (.map (some mk)) (.agg #[.int .i64 (a : Int), .int .i64 ((b : Int) + 1), .int .i64 (c : Int), .int .i64 ((d : Int) + 1)]) true).run Try.prog W = .ok (.tuple #[.int .i64 (((g (ix a (b + 1) c (d + 1))).getD 0 : Nat) : Int), .bool (g (ix a (b + 1) c (d + 1))).isSome]) W) := hka
 have h1 : ((a : Int) == (b : Int) + 1) = false := by simp; omega
 have h2 : ((c : Int) == (d : Int) + 1) = false := by simp; omega
 have ha32 : a <= 32 := by omega
 have hb32 : b + 1 <= 32 := by omega
 have hc32 : c <= 32 := by omega
 have hd32 : d + 1 <= 32 := by omega
 obtain ⟨w0, hw0⟩ : ∃ w0, w0 = w.alloc (.cells #[.int .i64 (a : Int), .int .i64 ((b : Int) + 1), .int .i64 (c : Int), .int .i64 ((d : Int) + 1)] 72) := ⟨_, rfl⟩
 have hb0 : Below w.heap.size w w0 := by rw [hw0]; exact below_new' w _
 have hk0 : IsCells w0 w.heap.size #[.int .i64 (a : Int), .int .i64 ((b : Int) + 1), .int .i64 (c : Int), .int .i64 ((d : Int) + 1)] := by rw [hw0]; exact isCells_new w _ 72
 have HG0 : Hid (MetAt w0 mb mk A B g) := hg.below hb0
 have HB0 : Hid (Below w.heap.size w w0) := hb0
 have HK0 : Hid (IsCells w0 w.heap.size #[.int .i64 (a : Int), .int .i64 ((b : Int) + 1), .int .i64 (c : Int), .int .i64 ((d : Int) + 1)]) := hk0
 have HW0 : Hid (w0 = w.alloc (.cells #[.int .i64 (a : Int), .int .i64 ((b : Int) + 1), .int .i64 (c : Int), .int .i64 ((d : Int) + 1)] 72)) := hw0
 have hx : ∃ x, A[b]? = some x := ⟨_, List.getElem?_eq_getElem (by omega)⟩
 have hy : ∃ y, B[d]? = some y := ⟨_, List.getElem?_eq_getElem (by omega)⟩
 obtain ⟨x, hx⟩ := hx
 obtain ⟨y, hy⟩ := hy
 have HX : Hid (A[b]? = some x /\ x.2 = fsN A b) := ⟨hx, by unfold fsN; rw [hx]⟩
 have HY : Hid (B[d]? = some y /\ y.2 = fsN B d) := ⟨hy, by unfold fsN; rw [hy]⟩
 have tA : (b : Int) < (A.length : Int) := by omega
 have tB : (d : Int) < (B.length : Int) := by omega
 have hA' : (A.length : Int) <= 32 := by omega
 have hB' : (B.length : Int) <= 32 := by omega
 have HZZ : Hid (∀ v, g (ix a (b + 1) c (d + 1)) = some v -> v = Z A B a (b + 1) c (d + 1)) := fun v hv => hg.ok a (b + 1) c (d + 1) v ha32 hb32 hc32 hd32 hv
 clear hzs hg hka hb0 hk0 hw0 hx hy p1 p2 p3 q1 q2 q3 hab hcd
 go_enter Try.func17, Try.ntmps17
 go_upto_region 4 with fail
 rw [<- HW0.out]
 have hlk : ∀ u : Bel w0, (Instr.lookup 54 (.map (some mk)) (.agg #[.int .i64 (a : Int), .int .i64 ((b : Int) + 1), .int .i64 (c : Int), .int .i64 ((d : Int) + 1)]) true).run Try.prog u.w = .ok (.tuple #[.int .i64 (((g (ix a (b + 1) c (d + 1))).getD 0 : Nat) : Int), .bool (g (ix a (b + 1) c (d + 1))).isSome]) u.w := fun u => HKA.out u.w (HG0.out.below u.h).km
 have hmap := HG0.out.map
 have hmbl := HG0.out.lt
 have hkc := HK0.out.cell
 have hkl := HK0.out.lt
 go_wp2
 refine wp_region_bel (by kernel_rfl) (by kernel_rfl) ?_
 intro hne
 repeat go_big_quiet_step (fail)
 refine wpQuiet_nil ?_
 rintro _ ⟨u, rfl⟩
 have HU : Hid (Below w0.heap.size w0 u.w) := u.h
 have HGU : Hid (MetAt u.w mb mk A B g) := HG0.out.below u.h
 have HBU : Hid (Below w.heap.size w u.w) := HB0.out.trans (u.h.mono HB0.out.size)
 have HKU : Hid (IsCells u.w w.heap.size #[.int .i64 (a : Int), .int .i64 ((b : Int) + 1), .int .i64 (c : Int), .int .i64 ((d : Int) + 1)]) := HK0.out.of_block (u.h.block _ hkl)
 have hus := u.h.size
 clear hlk hmap hkc
 cases hgv : g (ix a (b + 1) c (d + 1)) with
 | some v =>
  have HV : Hid (v = Z A B a (b + 1) c (d + 1)) := HZZ.out v hgv
  simp only [Option.getD_some, Option.isSome_some]
  clear hgv HZZ HKA
  go_wp2
  go_ret
  exact ⟨congrArg (fun z : Nat => Ending.returned (.int .i64 (z : Int))) HV.out, (Turn.refl _ _).then HBU.out (Nat.le_refl _), g, HGU.out⟩
 | none =>
  simp only [Option.getD_none, Option.isSome_none]
  clear hgv HZZ HKA
  obtain ⟨ga, ca, k1, k2, k3, k4⟩ := HGU.out.a0 b x HX.out.1
  obtain ⟨gb, cb, j1, j2, j3, j4⟩ := HGU.out.b0 d y HY.out.1
  rw [HX.out.2] at k4
  rw [HY.out.2] at j4
  have hmbu := HGU.out.lt
  go_wp2
  refine wp_region_bel (by kernel_rfl) (by kernel_rfl) ?_
  intro hne2
  repeat go_big_quiet_step (fail)
  refine wpQuiet_nil ?_
  rintro _ ⟨v, rfl⟩
  have HGV : Hid (MetAt v.w mb mk A B g) := HGU.out.below v.h
  have HBV : Hid (Below w.heap.size w v.w) := HBU.out.trans (v.h.mono HBU.out.size)
  have HKV : Hid (IsCells v.w w.heap.size #[.int .i64 (a : Int), .int .i64 ((b : Int) + 1), .int .i64 (c : Int), .int .i64 ((d : Int) + 1)]) := HKU.out.of_block (v.h.block _ HKU.out.lt)
  have hmv := HGV.out.lt
  have hmn : (mb = mk) = False := eq_false HGV.out.ne
  have htn := HGV.out.turn b d (by omega) (by omega)
  have hq1 : ∀ u : TB v.w mk (Met mb mk A B), Calls Try.prog 17 #[.pointer (some ⟨mb, 0, none⟩), .int .i64 ((fsN A b : Nat) : Int), .int .i64 (b : Int), .int .i64 ((fsN B d : Nat) : Int), .int .i64 (d : Int)] u.w fun e w'' => e = .returned (.int .i64 ((Z A B (fsN A b) b (fsN B d) d : Nat) : Int)) /\ ∃ u' : TB v.w mk (Met mb mk A B), w'' = u'.w := fun u => (HC1.out u.w u.i).mono (fun e w' h => ⟨h.1, ⟨w', u.t.trans h.2.1, h.2.2⟩, rfl⟩)
  have hq2 : ∀ u : TB v.w mk (Met mb mk A B), Calls Try.prog 17 #[.pointer (some ⟨mb, 0, none⟩), .int .i64 (a : Int), .int .i64 ((fsN A b : Nat) : Int), .int .i64 (c : Int), .int .i64 ((fsN B d : Nat) : Int)] u.w fun e w'' => e = .returned (.int .i64 ((Z A B a (fsN A b) c (fsN B d) : Nat) : Int)) /\ ∃ u' : TB v.w mk (Met mb mk A B), w'' = u'.w := fun u => (HC2.out u.w u.i).mono (fun e w' h => ⟨h.1, ⟨w', u.t.trans h.2.1, h.2.2⟩, rfl⟩)
  generalize Z A B (fsN A b) b (fsN B d) d = z1 at *
  generalize Z A B a (fsN A b) c (fsN B d) = z2 at *
  generalize turnN A B b d = tt at *
  generalize fsN A b = fa at *
  generalize fsN B d = fb at *
  clear k1 k4 j1 j4
  go_wp2
  refine wp_region_tb mk (Met mb mk A B) (by kernel_rfl) (by kernel_rfl) ⟨g, HGV.out⟩ (Met.drew ⟨g, HGV.out⟩) ?_
  intro hne3
  repeat go_big_quiet_step ((go_at_call 17; first | (with_reducible exact hq1 _) | (with_reducible exact hq2 _)))
  refine wpQuiet_nil ?_
  rintro _ ⟨s, rfl⟩
  have hmkl : mk < w.heap.size := HG.out.km.lt
  have hbk : w.heap.size ≠ mk := by omega
  have HS : Hid (Turn (fun b => b = mk) w s.w) := ((Turn.refl _ _).then HBV.out (Nat.le_refl _)).trans s.t
  have HIS : Hid (Met mb mk A B s.w) := s.i
  have HKS : Hid (IsCells s.w w.heap.size #[.int .i64 (a : Int), .int .i64 ((b : Int) + 1), .int .i64 (c : Int), .int .i64 ((d : Int) + 1)]) := HKV.out.of_block (s.t.block _ HKV.out.lt hbk)
  have hc3 := HC3.out s.w s.i
  clear hq1 hq2 htn hmn
  go_wp2_with fail
  refine hc3.mono ?_
  rintro e w5 ⟨rfl, ht5, hi5⟩
  have HS5 : Hid (Turn (fun b => b = mk) w w5) := HS.out.trans ht5
  have HK5 : Hid (IsCells w5 w.heap.size #[.int .i64 (a : Int), .int .i64 ((b : Int) + 1), .int .i64 (c : Int), .int .i64 ((d : Int) + 1)]) := HKS.out.of_block (ht5.block _ HKS.out.lt hbk)
  have hc4 := HC4.out w5 hi5
  clear hc3 ht5 hi5
  go_wp2_with fail
  refine hc4.mono ?_
  rintro e w6 ⟨rfl, ht6, hi6⟩
  obtain ⟨g6, hg6⟩ := hi6
  have HS6 : Hid (Turn (fun b => b = mk) w w6) := HS5.out.trans ht6
  have HK6 : Hid (IsCells w6 w.heap.size #[.int .i64 (a : Int), .int .i64 ((b : Int) + 1), .int .i64 (c : Int), .int .i64 ((d : Int) + 1)]) := HK5.out.of_block (ht6.block _ HK5.out.lt hbk)
  have HG6 : Hid (MetAt w6 mb mk A B g6) := hg6
  clear hc4 ht6 hg6
  generalize Z A B a b c (d + 1) = z3 at *
  generalize Z A B a (b + 1) c d = z4 at *
  obtain ⟨zz, hzz⟩ : ∃ zz, zz = Z A B a (b + 1) c (d + 1) := ⟨_, rfl⟩
  have hmin : (if (z4 : Int) + 1 < if (z3 : Int) + 1 < (tt : Int) + z1 + z2 then (z3 : Int) + 1 else (tt : Int) + z1 + z2 then (z4 : Int) + 1 else if (z3 : Int) + 1 < (tt : Int) + z1 + z2 then (z3 : Int) + 1 else (tt : Int) + z1 + z2) = (zz : Int) := by
   have h9 := HZ.out
   rw [<- hzz] at h9
   rw [h9]
   split <;> split at * <;> omega
  have HZE : Hid (zz = Z A B a (b + 1) c (d + 1)) := hzz
  obtain ⟨w7, hrun, hk7, hg7⟩ := (HG6.out.below (Below.refl _ _).drew).km.store (a := a) (b := b + 1) (c := c) (d := d + 1) ha32 hb32 hc32 hd32 zz
  unfold kv4 at hrun
  rw [show (((b + 1 : Nat)) : Int) = (b : Int) + 1 from by omega, show (((d + 1 : Nat)) : Int) = (d : Int) + 1 from by omega] at hrun
  have r1 : w6.drew.cell? ⟨mb, 1026, none⟩ = some (.map (some mk)) := HG6.out.map
  have kc0 : w6.drew.cell? ⟨w.heap.size, 0, none⟩ = some (.int .i64 (a : Int)) := HK6.out.cell 0
  have kc1 : w6.drew.cell? ⟨w.heap.size, 1, none⟩ = some (.int .i64 ((b : Int) + 1)) := HK6.out.cell 1
  have kc2 : w6.drew.cell? ⟨w.heap.size, 2, none⟩ = some (.int .i64 (c : Int)) := HK6.out.cell 2
  have kc3 : w6.drew.cell? ⟨w.heap.size, 3, none⟩ = some (.int .i64 ((d : Int) + 1)) := HK6.out.cell 3
  have HT7 : Hid (Turn (fun b => b = mk) w6 w7) := ⟨hg7.os, hg7.tape, hg7.output, hg7.size, fun k hk hk2 => hg7.block k hk (fun e => hk2 (Option.some.inj e))⟩
  have HG7 : Hid (MetAt w7 mb mk A B (fun j => if j = ix a (b + 1) c (d + 1) then some zz else g6 j)) := HG6.out.step HT7.out hk7 (fun a' b' c' d' v ha hb hc hd hv => by
   by_cases e : ix a' b' c' d' = ix a (b + 1) c (d + 1)
   ·rw [if_pos e] at hv
    obtain ⟨rfl, rfl, rfl, rfl⟩ := ix_inj hb hc hd hb32 hc32 hd32 e
    cases hv
    exact HZE.out
   ·rw [if_neg e] at hv
    exact HG6.out.ok a' b' c' d' v ha hb hc hd hv)
  clear hk7 hg7 hzz
  go_upto_region 11 with fail
  clear hmin
  go_region
  go_wp2
  go_ret
  exact ⟨congrArg (fun z : Nat => Ending.returned (.int .i64 (z : Int))) HZE.out, HS6.out.trans HT7.out, _, HG7.out⟩
theorem apart_any (mb mk : Nat) (A B : List (Kn × Nat)) (hWA : WP A) (hWB : WP B) (hA : A.length <= 32) (hB : B.length <= 32) : ∀ n, ApAll mb mk A B n
 | 0 => fun w a b c d hm hab hcd hn => apart_base mb mk A B w a b c d hm hab hcd hA hB (.inl (by have := hab.le; omega))
 | n + 1 => fun w a b c d hm hab hcd hn => by
  by_cases e1 : a = b
  ·exact apart_base mb mk A B w a b c d hm hab hcd hA hB (.inl e1)
  ·by_cases e2 : c = d
   ·exact apart_base mb mk A B w a b c d hm hab hcd hA hB (.inr e2)
   ·obtain ⟨b', rfl⟩ : ∃ b', b = b' + 1 := ⟨b - 1, by have := hab.le; omega⟩
    obtain ⟨d', rfl⟩ : ∃ d', d = d' + 1 := ⟨d - 1, by have := hcd.le; omega⟩
    have := apart_step mb mk A B hWA hWB hA hB n (apart_any mb mk A B hWA hWB hA hB n) w a b' c d' hm hab hcd e1 e2 hn
    rw [show (((b' + 1 : Nat)) : Int) = (b' : Int) + 1 from by omega, show (((d' + 1 : Nat)) : Int) = (d' : Int) + 1 from by omega]
    exact this
end Go.Proofs.Ytmapmkogjhinmaa
