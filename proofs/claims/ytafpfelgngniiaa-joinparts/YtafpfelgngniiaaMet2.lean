/- meet's closures: one of a comes, one of d comes. -/
import Derived.Test.YtafpfelgngniiaaStc
namespace Go.Proofs.Ytafpfelgngniiaa
open Go.RowKit
set_option linter.unusedVariables false
attribute [local go_sem] Bel.cell Bel.fz

theorem ks_append (l m : List Nat) : ks (l ++ m) = ks l ++ ks m := by simp [ks]
theorem ks_one (l : List Nat) : ∀ u ∈ ks l, u.oneCell' = true := by
  intro u hu
  simp only [ks, List.mem_map] at hu
  obtain ⟨j, -, rfl⟩ := hu
  rfl
theorem ks_news (w : World) (k : Nat) : ∀ j u, (ks [k])[j]? = some u → ∃ ad, (some ⟨w.heap.size, 0, none⟩ : Option Addr) = some ad ∧ (w.alloc (.cells #[.int .i64 (k : Int)] 3)).cell? (ad.add j) = some u := by
  intro j u hu
  refine ⟨_, rfl, ?_⟩
  have e : (⟨w.heap.size, 0, none⟩ : Addr).add j = ⟨w.heap.size, j, none⟩ := by unfold Addr.add; split <;> simp_all
  rw [e, (isCells_new w _ 3).cell]
  simpa [ks] using hu
theorem ks_news2 (w : World) (k : Nat) : ∀ j u, (ks [k])[j]? = some u → ∃ ad, (some ⟨w.heap.size, 0, none⟩ : Option Addr) = some ad ∧ (w.alloc (.cells #[.int .i64 (k : Int)] 3)).drew.cell? (ad.add j) = some u := ks_news w k
theorem info3 : InfoOf Try.prog 3 (.int .i64 0) 1 8 := by unfold InfoOf; kernel_rfl
theorem KsAt.tn {w w' : World} {a : Option Addr} {l : List Nat} (h : KsAt w a l) (t : Tn (fun _ => False) w w') : KsAt w' a l := fun i j hj => by
  obtain ⟨g, h1, h2, h3⟩ := h i j hj
  exact ⟨g, h1, Nat.lt_of_lt_of_le h2 t.size, (t.cell h2 id).trans h3⟩
theorem PlsAt.tn {w w' : World} {B : Nat} {a : Option Addr} {L : List Pl} (h : PlsAt w B a L) (t : Tn (fun _ => False) w w') (hB : B ≤ w.heap.size) : PlsAt w' w'.heap.size a L :=
  (h.below (t.below hB (fun _ h => h.elim)) (Nat.le_refl _)).more (Nat.le_trans hB t.size)
theorem slot_at {dr : Bool} {A : List Pl} {k : Nat} {x : Pl} (h : A[k]? = some x) : slot dr A k = if dr then x.s.l + 1 else 0 := by simp [slot, h]

set_option maxRecDepth 100000 in
set_option maxHeartbeats 4000000 in
theorem mouter_any {N B : Nat} {dr : Bool} {A D : List Pl} {a d : Option Addr} {ca cd tf : Nat} {tb : Array Value} {J : TeI} (hJ : TeOk J B) (hCan : Can A D) (lA : A.length ≤ 8192) (k i : Nat) (C : Nat → Prop) (X : World) (x : Pl) (hx : A[k]? = some x) (hy : ∀ y, D[i]? = some y → x.s.b < y.s.b) (h : MtI N B dr A D a d ca cd tf tb J k i C X) :
    Calls Try.prog 38 (#[.int .i64 (k : Int)] ++ #[.pointer (some ⟨N + 5, 0, none⟩), .pointer (some ⟨N, 0, none⟩), .pointer (some ⟨N + 4, 0, none⟩)]) X (ThP (MtI N B dr A D a d ca cd tf tb J) (k + 1) i C X) := by
  obtain ⟨Cj, cs, S, c, rfl, hM⟩ := h
  have hv := hCan.va x (List.mem_of_getElem? hx)
  have hkl := (List.getElem?_eq_some_iff.1 hx).1
  obtain ⟨sN, hsN, hs65⟩ : ∃ sN : Nat, (sN : Int) = slot dr A k ∧ sN < 65 := by
    rw [slot_at hx]
    cases dr with
    | true => exact ⟨(x.s.l + 1).toNat, by simp; omega, by omega⟩
    | false => exact ⟨0, rfl, by omega⟩
  have hat1 : (if dr = true then x.s.l + 1 else 0) = (sN : Int) := by rw [hsN, slot_at hx]
  obtain ⟨oa, oc, hcs, hrow⟩ := hM.st.row sN hs65
  obtain ⟨l, hl⟩ : ∃ l, S sN = l := ⟨_, rfl⟩
  rw [hl] at hcs hrow
  have hll : l.length ≤ k := by rw [← hl]; exact hM.pl.len _
  obtain ⟨hk1, hk2⟩ := row_ks hrow
  have hBX : B ≤ X.heap.size := by have := hM.b0.lt; have := hM.bn; omega
  have HNE : Hid (∀ W, Tn (fun _ => False) X W → Calls Try.prog 39 #[.slice a A.length ca, .slice oa l.length oc, .int .u64 x.s.b] W fun e w' => ∃ m, m ≤ l.length ∧ popK A x.s.b l = l.take m ∧ e = .returned (.slice oa m oc) ∧ w' = W) := fun W t => nend_any W (hM.pa.tn t hBX) lA (hk1.tn t) hk2 (fun j hj => by have := hM.pl.lt sN j (by rw [hl]; exact hj); omega) (by omega) x.s.b
  have HAT : Hid (∀ W, Tn (fun _ => False) X W → Calls Try.prog 36 (#[.int .i64 (x.s.l + 1)] ++ #[.pointer (some ⟨N + 2, 0, none⟩)]) W fun e w' => e = .returned (.int .i64 (sN : Int)) ∧ w' = W) := fun W t => by
    have := at_any W (N + 2) dr (hM.b2.tn t id) (x.s.l + 1)
    rw [hat1] at this
    exact this
  have HFIN : Hid (∀ X2, Tn (fun _ => False) X X2 → ∀ m va vc Y, m ≤ l.length → popK A x.s.b l = l.take m → Y.ownsRow (N + 6) 3 1 (.slice va (m + 1) vc) (m + 1) (ks (l.take m) ++ ks [k]) → ((X2.alloc (.cells #[.int .i64 (k : Int)] 3)).drew).grownBy Y (Value.slice oa m oc).ownBlock → ((Value.slice va (m + 1) vc).ownBlock = (Value.slice oa m oc).ownBlock ∨ (Value.slice va (m + 1) vc).ownBlock = some ((X2.alloc (.cells #[.int .i64 (k : Int)] 3)).drew).heap.size) → IsCells Y (N + 4) cs ∧ ThS (MtI N B dr A D a d ca cd tf tb J) (k + 1) i (MtC N cs Cj) X (Y.setCell ⟨N + 4, sN, none⟩ (.slice va (m + 1) vc))) := by
    intro X2 tX2 m va vc Y hm hp q1 q2 q3
    have hM2 := hM.tn hJ tX2 (fun _ h => h.elim)
    have hrow2 := own_tn hrow tX2 (fun _ _ => id)
    have hab : (Value.slice oa m oc).ownBlock = (Value.slice oa l.length oc).ownBlock := by cases oa <;> rfl
    have hlen : (l.take m ++ [k]).length = m + 1 := by simp; omega
    have tY : Tn (fun b => (Value.slice oa l.length oc).ownBlock = some b) X2 Y := ⟨q2.os, q2.tape, q2.output, Nat.le_trans (by simp [World.drew]) q2.size, fun j hj hn => (q2.block j (by simp [World.drew]; omega) (by rw [hab]; intro e; exact hn e.symm)).trans (Below.heap_alloc _ _ _ hj)⟩
    have hst := stks_outer hM2.pl hx (hM2.mp.ca x hx) hCan
    rw [← hsN, hl, hp] at hst
    have hb : ∀ b, (Value.slice va (l.take m ++ [k]).length vc).ownBlock = some b → (Value.slice oa l.length oc).ownBlock = some b ∨ X2.heap.size ≤ b := by
      intro b hb
      rw [hlen] at hb
      rcases q3 with h' | h'
      · exact .inl (by rw [← hab, ← h']; exact hb)
      · rw [h'] at hb
        simp only [Option.some.injEq] at hb
        have e : (X2.alloc (.cells #[.int .i64 (k : Int)] 3)).drew.heap.size = X2.heap.size + 1 := by simp [World.drew]
        exact .inr (by omega)
    obtain ⟨g1, g2, g3⟩ := MtS.move (va := va) (vc := vc) (l := l.take m ++ [k]) hJ hM2 hs65 hcs tY (by rw [hlen, ks_append]; exact q1) hb hst (hM2.mp.outer hCan hx hy)
    rw [hlen] at g1 g2 g3
    refine ⟨hM2.st.box.tn tY (fun e => ?_), ThS.then ⟨_, g2, g3, Cj, _, _, _, rfl, g1⟩ (tX2.mono (fun _ _ h => h.elim)) (fun b hb => .inl hb)⟩
    have := (own_block_lt hrow _ e).1
    omega
  obtain ⟨g, o, rfl, hg, c0, c1, c2, c3⟩ := hM.pa k x hx
  have e5 : X.cell? ⟨N + 5, 0, none⟩ = some (.func (.func 36) #[] #[.pointer (some ⟨N + 2, 0, none⟩)]) := hM.b5.cell 0
  have e0 : X.cell? ⟨N, 0, none⟩ = some (.slice (some ⟨g, o, none⟩) A.length ca) := hM.b0.cell 0
  have e4 : X.cell? ⟨N + 4, sN, none⟩ = some (.slice oa l.length oc) := (hM.st.box.cell sN).trans hcs
  have l5 := hM.b5.lt
  have l4 := hM.st.box.lt
  have l0 := hM.b0.lt
  have lg : g < X.heap.size := by omega
  have HQ : Hid (∀ Y, ThS (MtI N B dr A D (some ⟨g, o, none⟩) d ca cd tf tb J) (k + 1) i (MtC N cs Cj) X Y → ThP (MtI N B dr A D (some ⟨g, o, none⟩) d ca cd tf tb J) (k + 1) i (MtC N cs Cj) X (.returned (.tuple #[])) Y) := fun Y h => ⟨⟨_, rfl⟩, h⟩
  have hx3 : x.s.l + 1 < 9223372036854775807 := by omega
  have hx4 : 0 ≤ x.s.l := by omega
  have hcsz : cs.size = 65 := hM.st.size
  have HROW : Hid (X.ownsRow (N + 6) 3 1 (.slice oa l.length oc) l.length (ks l)) := hrow
  have hN6 : N + 6 ≤ X.heap.size := by omega
  have HCS : Hid (cs[sN]? = some (.slice oa l.length oc)) := hcs
  generalize ThP (MtI N B dr A D (some ⟨g, o, none⟩) d ca cd tf tb J) (k + 1) i (MtC N cs Cj) X = Q at HQ ⊢
  clear hM hJ hCan hx hy hv hsN hat1 hcs hrow hl hk1 hk2 c0
  have eg : ∀ args w, (callFunc 36 args).run Try.prog w = .ok (.enter 36 args) w := fun _ _ => by kernel_rfl
  have hsi : (sN : Int) < 65 := by omega
  have hsj : (0 : Int) ≤ (sN : Int) := by omega
  simp only [List.append_toArray, List.cons_append, List.nil_append]
  simp only [List.append_toArray, List.cons_append, List.nil_append] at HAT
  go_enter Try.func38, Try.ntmps38
  go_wp2_with fail
  refine wp_region_bel (by kernel_rfl) (by kernel_rfl) ?_
  intro hne
  repeat go_big_quiet_step ((go_at_call 36; with_reducible exact Calls.bel_of_same (HAT.out _ (Tn.bel _))))
  refine wpQuiet_nil ?_
  rintro _ ⟨u, rfl⟩
  have HTu : Hid (Tn (fun _ => False) X u.w) := Tn.bel u
  have HTd : Hid (Tn (fun _ => False) X u.w.drew) := HTu.out.drew
  have HTa : Hid (Tn (fun _ => False) X (u.w.alloc (.cells #[.int .i64 (k : Int)] 3)).drew) := (HTu.out.alloc _).drew
  have HOW : Hid (∀ m, m ≤ l.length → ((u.w.alloc (.cells #[.int .i64 (k : Int)] 3)).drew).ownsRow (N + 6) 3 1 (.slice oa m oc) m (ks (l.take m))) := by
    intro m hm
    have := own_take (own_tn HROW.out HTa.out (fun _ _ => id)) hm
    rwa [← ks_take] at this
  have HFZ : Hid (∀ m va vc Y, m ≤ l.length → popK A x.s.b l = l.take m → Y.ownsRow (N + 6) 3 1 (.slice va (m + 1) vc) (m + 1) (ks (l.take m) ++ ks [k]) → ((u.w.alloc (.cells #[.int .i64 (k : Int)] 3)).drew).grownBy Y (Value.slice oa m oc).ownBlock → ((Value.slice va (m + 1) vc).ownBlock = (Value.slice oa m oc).ownBlock ∨ (Value.slice va (m + 1) vc).ownBlock = some ((u.w.alloc (.cells #[.int .i64 (k : Int)] 3)).drew).heap.size) → IsCells Y (N + 4) cs ∧ Hid (Q (.returned (.tuple #[])) (Y.setCell ⟨N + 4, sN, none⟩ (.slice va (m + 1) vc)))) := fun m va vc Y h1 h2 h3 h4 h5 => by
    obtain ⟨q1, q2⟩ := HFIN.out u.w HTu.out m va vc Y h1 h2 h3 h4 h5
    exact ⟨q1, HQ.out _ q2⟩
  have huz : X.heap.size ≤ u.w.heap.size := u.h.size
  have dg : (u.w.alloc (.cells #[.int .i64 (k : Int)] 3)).cell? ⟨g, o + k * 4 + 1, none⟩ = some (.int .u64 x.s.b) := ((HTu.out.alloc _).cell lg id).trans c1
  have d0 : (u.w.alloc (.cells #[.int .i64 (k : Int)] 3)).cell? ⟨N, 0, none⟩ = some (.slice (some ⟨g, o, none⟩) A.length ca) := ((HTu.out.alloc _).cell l0 id).trans e0
  have d4 : (u.w.alloc (.cells #[.int .i64 (k : Int)] 3)).cell? ⟨N + 4, sN, none⟩ = some (.slice oa l.length oc) := ((HTu.out.alloc _).cell l4 id).trans e4
  go_wp2_with fail
  go_region_law (first | (refine step_call3 (by rfl) (by rfl) (call39 _) (HNE.out _ HTd.out) (by rfl) (by rfl) (by rfl) ?_; rintro e w' ⟨m, hm, hp, rfl, hw'⟩; refine ⟨_, rfl, ?_⟩; have hw2 := hw'.symm; clear hw'; subst hw2; have HP : Hid (popK A x.s.b l = l.take m) := hp; clear hp) | (refine step_call3 (by rfl) (by rfl) (call39 _) (HNE.out _ HTa.out) (by rfl) (by rfl) (by rfl) ?_; rintro e w' ⟨m, hm, hp, rfl, hw'⟩; refine ⟨_, rfl, ?_⟩; have hw2 := hw'.symm; clear hw'; subst hw2; have HP : Hid (popK A x.s.b l = l.take m) := hp; clear hp) | (refine step_app (by rfl) _ _ (by rfl) Try.underlying32 info3 rfl (by decide) (N + 6) (.slice oa m oc) m (ks (l.take m)) (by rfl) (HOW.out m hm) (some ⟨u.w.heap.size, 0, none⟩) 1 1 (ks [k]) (by rfl) (by rfl) (ks_news2 u.w k) (ks_one _) (by unfold maxLen; omega) (by omega) (by simp; omega) ?_; intro v1 Y hown1 hg1 _ hat1; obtain ⟨va, vc, hvv⟩ := own_slice hown1; subst hvv; obtain ⟨i9, j9⟩ := HFZ.out m va vc Y hm HP.out hown1 hg1 hat1; have c9 : Y.cell? ⟨N + 4, sN, none⟩ = some (.slice oa l.length oc) := (i9.cell sN).trans HCS.out; have f9 : Y.frozen? ⟨N + 4, sN, none⟩ = false := i9.frozen sN; have l9 := i9.lt; clear hown1 hg1 hat1 i9))
  all_goals (refine bodyPost_end (results_none rfl _ _ _) rfl ?_; exact j9.out)

end Go.Proofs.Ytafpfelgngniiaa
