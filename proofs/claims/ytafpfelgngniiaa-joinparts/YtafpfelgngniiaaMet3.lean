/- meet's second closure: one of d comes, and is told. -/
import Derived.Test.YtafpfelgngniiaaStc
namespace Go.Proofs.Ytafpfelgngniiaa
open Go.RowKit
set_option linter.unusedVariables false
attribute [local go_sem] Bel.cell Bel.fz

theorem KsAt.tn' {w w' : World} {a : Option Addr} {l : List Nat} (h : KsAt w a l) (t : Tn (fun _ => False) w w') : KsAt w' a l := fun i j hj => by
  obtain ⟨g, h1, h2, h3⟩ := h i j hj
  exact ⟨g, h1, Nat.lt_of_lt_of_le h2 t.size, (t.cell h2 id).trans h3⟩
theorem PlsAt.tn' {w w' : World} {B : Nat} {a : Option Addr} {L : List Pl} (h : PlsAt w B a L) (t : Tn (fun _ => False) w w') (hB : B ≤ w.heap.size) : PlsAt w' w'.heap.size a L :=
  (h.below (t.below hB (fun _ h => h.elim)) (Nat.le_refl _)).more (Nat.le_trans hB t.size)

/-- Who is told, as a function: it turns its own blocks alone. -/
def Tells (tf : Nat) (tb : Array Value) (dr : Bool) (A D : List Pl) (J : TeI) : Prop :=
  ∀ (i : Nat) (Cj : Nat → Prop) (W : World) (y : Pl) (oa : Option Addr) (oc : Nat), D[i]? = some y → J i Cj W → KsAt W oa (opn dr A y.s) → (opn dr A y.s).length ≤ oc → (opn dr A y.s).length ≤ A.length → (∀ b, (Value.slice oa (opn dr A y.s).length oc).ownBlock = some b → ¬ Cj b) →
    Calls Try.prog tf (#[.int .i64 (i : Int), .slice oa (opn dr A y.s).length oc] ++ tb) W fun e W' => (∃ v, e = .returned v) ∧ ∃ C', Tn Cj W W' ∧ (∀ b, C' b → Cj b ∨ W.heap.size ≤ b) ∧ J (i + 1) C' W'

set_option maxRecDepth 100000 in
set_option maxHeartbeats 4000000 in
theorem minner_any {N B : Nat} {dr : Bool} {A D : List Pl} {a d : Option Addr} {ca cd tf : Nat} {tb : Array Value} {J : TeI} (hJ : TeOk J B) (hCan : Can A D) (lA : A.length ≤ 8192) (lD : D.length ≤ 8192) (et : ∀ args w, (callFunc tf args).run Try.prog w = .ok (.enter tf args) w) (hT : Tells tf tb dr A D J) (k i : Nat) (C : Nat → Prop) (X : World) (y : Pl) (hy : D[i]? = some y) (hx : ∀ x, A[k]? = some x → y.s.b ≤ x.s.b) (h : MtI N B dr A D a d ca cd tf tb J k i C X) :
    Calls Try.prog 40 (#[.int .i64 (i : Int)] ++ #[.pointer (some ⟨N + 5, 0, none⟩), .pointer (some ⟨N + 1, 0, none⟩), .pointer (some ⟨N, 0, none⟩), .pointer (some ⟨N + 4, 0, none⟩), .pointer (some ⟨N + 3, 0, none⟩)]) X (ThP (MtI N B dr A D a d ca cd tf tb J) k (i + 1) C X) := by
  obtain ⟨Cj, cs, S, c, rfl, hM⟩ := h
  have hv := hCan.vd y (List.mem_of_getElem? hy)
  have hil := (List.getElem?_eq_some_iff.1 hy).1
  obtain ⟨sN, hsN, hs65⟩ : ∃ sN : Nat, (sN : Int) = (if dr = true then y.s.l else 0) ∧ sN < 65 := by
    cases dr with
    | true => exact ⟨y.s.l.toNat, by simp; omega, by omega⟩
    | false => exact ⟨0, rfl, by omega⟩
  obtain ⟨oa, oc, hcs, hrow⟩ := hM.st.row sN hs65
  have hop := hM.mp.opn hCan hM.pl hy hx
  rw [← hsN] at hop
  obtain ⟨l, hl⟩ : ∃ l, S sN = l := ⟨_, rfl⟩
  rw [hl] at hcs hrow hop
  have hll : l.length ≤ k := by rw [← hl]; exact hM.pl.len _
  have hkA := hM.mp.le
  obtain ⟨hk1, hk2⟩ := row_ks hrow
  have hBX : B ≤ X.heap.size := by have := hM.b0.lt; have := hM.bn; omega
  have HNE : Hid (∀ W, Tn (fun _ => False) X W → Calls Try.prog 39 #[.slice a A.length ca, .slice oa l.length oc, .int .u64 y.s.b] W fun e w' => ∃ m, m ≤ l.length ∧ popK A y.s.b l = l.take m ∧ e = .returned (.slice oa m oc) ∧ w' = W) := fun W t => nend_any W (hM.pa.tn' t hBX) lA (hk1.tn' t) hk2 (fun j hj => by have := hM.pl.lt sN j (by rw [hl]; exact hj); omega) (by omega) y.s.b
  have HAT : Hid (∀ W, Tn (fun _ => False) X W → Calls Try.prog 36 (#[.int .i64 y.s.l] ++ #[.pointer (some ⟨N + 2, 0, none⟩)]) W fun e w' => e = .returned (.int .i64 (sN : Int)) ∧ w' = W) := fun W t => by
    have := at_any W (N + 2) dr (hM.b2.tn t id) y.s.l
    rw [← hsN] at this
    exact this
  have HFIN : Hid (∀ X2, Tn (fun _ => False) X X2 → ∀ m, m ≤ l.length → popK A y.s.b l = l.take m → (X2.setCell ⟨N + 4, sN, none⟩ (.slice oa m oc)).cell? ⟨N + 3, 0, none⟩ = some (.func (.func tf) #[] tb) ∧ (X2.setCell ⟨N + 4, sN, none⟩ (.slice oa m oc)).cell? ⟨N + 4, sN, none⟩ = some (.slice oa m oc) ∧ N + 4 < (X2.setCell ⟨N + 4, sN, none⟩ (.slice oa m oc)).heap.size ∧
      ∀ Y, Tn (fun _ => False) (X2.setCell ⟨N + 4, sN, none⟩ (.slice oa m oc)) Y → Calls Try.prog tf (#[.int .i64 (i : Int), .slice oa m oc] ++ tb) Y fun e W' => (∃ v, e = .returned v) ∧ ThS (MtI N B dr A D a d ca cd tf tb J) k (i + 1) (MtC N cs Cj) X W') := by
    intro X2 tX2 m hm hp
    have hM2 := hM.tn hJ tX2 (fun _ h => h.elim)
    have hrow2 := own_tn hrow tX2 (fun _ _ => id)
    have hlen : (l.take m).length = m := by simp; omega
    have hst := hM2.pl.look (hM2.mp.cd y hy) (sN : Int)
    rw [hl, hp] at hst
    have hrm := own_take hrow2 hm
    rw [← ks_take] at hrm
    have hab : (Value.slice oa m oc).ownBlock = (Value.slice oa l.length oc).ownBlock := by cases oa <;> rfl
    obtain ⟨g1, g2, g3⟩ := MtS.move (va := oa) (vc := oc) (l := l.take m) hJ hM2 hs65 hcs (Tn.refl _ _) (by rw [hlen]; exact hrm) (fun b hb => by rw [hlen, hab] at hb; exact .inl hb) hst (hM2.mp.inner hCan hy hx)
    rw [hlen] at g1 g2 g3
    refine ⟨g1.b3.cell 0, ?_, g1.st.box.lt, fun Y tY => ?_⟩
    · rw [g1.st.box.cell sN]
      simp [hM.st.size, hs65]
    · have g1Y := g1.tn hJ tY (fun _ h => h.elim)
      obtain ⟨oa', oc', h1, h2⟩ := g1Y.st.row sN hs65
      rw [upd_same, hlen] at h1 h2
      have e1 : (cs.setIfInBounds sN (.slice oa m oc))[sN]? = some (.slice oa m oc) := by simp [hM.st.size, hs65]
      rw [e1] at h1
      cases h1
      have hks := row_ks (l := l.take m) (by rw [hlen]; exact h2)
      have hoe : l.take m = opn dr A y.s := by rw [← hp]; exact hop
      have hln : (opn dr A y.s).length = m := by rw [← hoe, hlen]
      have hc := hT i Cj Y y oa oc hy g1Y.j (by rw [← hoe]; exact hks.1) (by rw [← hoe]; exact hks.2) (by rw [hln]; omega) (fun b hb hc => (g1Y.ap b hc).2 ⟨sN, _, e1, by rw [hln] at hb; exact hb⟩)
      rw [hln] at hc
      refine hc.mono ?_
      rintro e W' ⟨hv', C', t', hC', hj'⟩
      obtain ⟨q1, q2, q3⟩ := g1Y.told hJ t' hC' hj'
      have tXY : Tn (MtC N cs Cj) X Y := ((tX2.mono (fun _ _ h => h.elim)).trans g2 (fun _ _ h => h)).trans tY (fun _ _ h => h.elim)
      have g3' : ∀ b, MtC N (cs.setIfInBounds sN (.slice oa m oc)) Cj b → MtC N cs Cj b ∨ X.heap.size ≤ b := fun b hb => (g3 b hb).imp id (fun h => Nat.le_trans tX2.size h)
      exact ⟨hv', ThS.then ⟨_, q2, q3, C', _, _, _, rfl, q1⟩ tXY g3'⟩
  obtain ⟨g, o, rfl, hg, c0, c1, c2, c3⟩ := hM.pd i y hy
  have e5 : X.cell? ⟨N + 5, 0, none⟩ = some (.func (.func 36) #[] #[.pointer (some ⟨N + 2, 0, none⟩)]) := hM.b5.cell 0
  have e0 : X.cell? ⟨N, 0, none⟩ = some (.slice a A.length ca) := hM.b0.cell 0
  have e1 : X.cell? ⟨N + 1, 0, none⟩ = some (.slice (some ⟨g, o, none⟩) D.length cd) := hM.b1.cell 0
  have e4 : X.cell? ⟨N + 4, sN, none⟩ = some (.slice oa l.length oc) := (hM.st.box.cell sN).trans hcs
  have f4 : X.frozen? ⟨N + 4, sN, none⟩ = false := hM.st.box.frozen sN
  have l5 := hM.b5.lt
  have l4 := hM.st.box.lt
  have l1 := hM.b1.lt
  have l0 := hM.b0.lt
  have lg : g < X.heap.size := by omega
  have HQ : Hid (∀ Y, ThS (MtI N B dr A D a (some ⟨g, o, none⟩) ca cd tf tb J) k (i + 1) (MtC N cs Cj) X Y → ThP (MtI N B dr A D a (some ⟨g, o, none⟩) ca cd tf tb J) k (i + 1) (MtC N cs Cj) X (.returned (.tuple #[])) Y) := fun Y h => ⟨⟨_, rfl⟩, h⟩
  have hx3 : y.s.l + 1 < 9223372036854775807 := by omega
  have hx4 : 0 ≤ y.s.l := by omega
  have hcsz : cs.size = 65 := hM.st.size
  generalize ThP (MtI N B dr A D a (some ⟨g, o, none⟩) ca cd tf tb J) k (i + 1) (MtC N cs Cj) X = Q at HQ ⊢
  clear hM hJ hCan hx hy hv hsN hcs hrow hl hk1 hk2 c0 hT hop
  have eg : ∀ args w, (callFunc 36 args).run Try.prog w = .ok (.enter 36 args) w := fun _ _ => by kernel_rfl
  have hsi : (sN : Int) < 65 := by omega
  have hsj : (0 : Int) ≤ (sN : Int) := by omega
  simp only [List.append_toArray, List.cons_append, List.nil_append]
  simp only [List.append_toArray, List.cons_append, List.nil_append] at HAT
  go_enter Try.func40, Try.ntmps40
  go_wp2_with fail
  refine wp_region_bel (by kernel_rfl) (by kernel_rfl) ?_
  intro hne
  repeat go_big_quiet_step ((go_at_call 36; with_reducible exact Calls.bel_of_same (HAT.out _ (Tn.bel _))))
  refine wpQuiet_nil ?_
  rintro _ ⟨u, rfl⟩
  have HTu : Hid (Tn (fun _ => False) X u.w) := Tn.bel u
  have HTd : Hid (Tn (fun _ => False) X u.w.drew) := HTu.out.drew
  have huz : X.heap.size ≤ u.w.heap.size := u.h.size
  go_wp2_with fail
  go_region_law (refine step_call3 (by rfl) (by rfl) (call39 _) (HNE.out _ HTd.out) (by rfl) (by rfl) (by rfl) ?_; rintro e w' ⟨m, hm, hp, rfl, hw'⟩; refine ⟨_, rfl, ?_⟩; have hw2 := hw'.symm; clear hw'; subst hw2; have HP : Hid (popK A y.s.b l = l.take m) := hp; clear hp)
  all_goals (
    obtain ⟨w3, w4, lv, hj⟩ := HFIN.out u.w HTu.out m hm HP.out
    have hm8 : m ≤ l.length := hm
    generalize u.w.setCell ⟨N + 4, sN, none⟩ (.slice oa m oc) = V at w3 w4 lv hj ⊢
    have hc : Calls Try.prog tf (#[.int .i64 (i : Int), .slice oa m oc] ++ tb) V.drew.drew fun e W' => (∃ v, e = .returned v) ∧ Q (.returned (.tuple #[])) W' := (hj V.drew.drew ((Tn.refl _ _).drew.drew)).mono (fun e W' h => ⟨h.1, HQ.out W' h.2⟩)
    clear hj e0 e1 e4 e5 f4 HAT HNE HFIN HP c1 c2 c3 HTu HTd HQ
    go_wp2_with fail
    go_region_with (first | ((with_reducible refine hc.mono ?_); rintro e W' ⟨⟨v, rfl⟩, hQ⟩; have HP : Hid (Q (.returned (.tuple #[])) W') := hQ; clear hQ hc))
    all_goals (
      go_wp2
      refine bodyPost_end (results_none rfl _ _ _) rfl ?_
      exact HP.out))

end Go.Proofs.Ytafpfelgngniiaa
