/- nest: both lists at once. -/
import Derived.Test.YtmeinebfdljndaaNst
namespace Go.Proofs.Ytmeinebfdljndaa
open Go.RowKit
set_option linter.unusedVariables false

theorem mgP_outer {A D : List Sp} {k i : Nat} {x : Sp} (hx : A[k]? = some x) (hy : ∀ y, D[i]? = some y → x.b < y.b) : mgP (A.drop k) (D.drop i) = x :: mgP (A.drop (k + 1)) (D.drop i) := by
  have hk := (List.getElem?_eq_some_iff.1 hx).1
  have e : A.drop k = x :: A.drop (k + 1) := by rw [List.drop_eq_getElem_cons hk, (List.getElem?_eq_some_iff.1 hx).2]
  rw [e]
  by_cases hi : i < D.length
  · have e2 : D.drop i = D[i] :: D.drop (i + 1) := List.drop_eq_getElem_cons hi
    rw [e2, mgP, if_pos (hy _ (List.getElem?_eq_getElem hi))]
  · have e2 : D.drop i = [] := List.drop_eq_nil_of_le (by omega)
    rw [e2, mgP_nil, mgP_nil]
theorem mgP_inner {A D : List Sp} {k i : Nat} {y : Sp} (hy : D[i]? = some y) (hx : ∀ x, A[k]? = some x → y.b ≤ x.b) : mgP (A.drop k) (D.drop i) = y :: mgP (A.drop k) (D.drop (i + 1)) := by
  have hi := (List.getElem?_eq_some_iff.1 hy).1
  have e : D.drop i = y :: D.drop (i + 1) := by rw [List.drop_eq_getElem_cons hi, (List.getElem?_eq_some_iff.1 hy).2]
  rw [e]
  by_cases hk : k < A.length
  · have e2 : A.drop k = A[k] :: A.drop (k + 1) := List.drop_eq_getElem_cons hk
    rw [e2, mgP, if_neg (by have := hx _ (List.getElem?_eq_getElem hk); omega)]
  · have e2 : A.drop k = [] := List.drop_eq_nil_of_le (by omega)
    rw [e2]
    simp [mgP]
def sps (L : List Pl) : List Sp := L.map Pl.s
theorem sps_get {L : List Pl} {i : Nat} {x : Pl} (h : L[i]? = some x) : (sps L)[i]? = some x.s := by simp [sps, h]
theorem sps_some {L : List Pl} {i : Nat} {y : Sp} (h : (sps L)[i]? = some y) : ∃ x, L[i]? = some x ∧ x.s = y := by
  simp only [sps, List.getElem?_map, Option.map_eq_some_iff] at h
  exact h

/-- nest under way: so many of both lists came. -/
def NeI (N B : Nat) (A D : List Pl) (a d : Option Addr) (ca cd : Nat) : ThI := fun k i C X =>
  ∃ P C', C = (fun b => C' b ∨ b = N ∨ b = N + 1 ∨ b = N + 4) ∧ NsS (N + 5) (N + 2) (N + 3) (P.foldl come ([], true)) C' X ∧ P ++ mgP ((sps A).drop k) ((sps D).drop i) = mgP (sps A) (sps D) ∧ P.length = k + i ∧
    IsCells X N #[.slice a A.length ca] ∧ IsCells X (N + 1) #[.slice d D.length cd] ∧ IsCells X (N + 4) #[.func (.func 121) #[] #[.pointer (some ⟨N + 2, 0, none⟩), .pointer (some ⟨N + 3, 0, none⟩)]] ∧ PlsAt X B a A ∧ PlsAt X B d D ∧ B ≤ N
theorem NeI.ok (N B : Nat) (A D : List Pl) (a d : Option Addr) (ca cd : Nat) : ThOk (NeI N B A D a d ca cd) B := by
  refine ⟨?_, ?_⟩
  · rintro k i C W ⟨P, C', rfl, h1, h2, h3, h4, h5, h6, h7, h8, h9⟩
    have hl := h1.lt
    have := h6.lt
    refine ⟨by omega, fun b hb => ?_⟩
    rcases hb with hb | rfl | rfl | rfl
    · have := hl b hb
      exact ⟨by omega, this.2⟩
    · exact ⟨h9, h4.lt⟩
    · exact ⟨by omega, h5.lt⟩
    · exact ⟨by omega, h6.lt⟩
  · rintro k i C X W W' ⟨P, C', rfl, h1, h2, h3, h4, h5, h6, h7, h8, h9⟩ t hA
    have hb : Below B W W' := t.below (by have := h4.lt; omega) (fun k hk => (hA k hk).1)
    exact ⟨P, C', rfl, h1.tn t (fun b hb ha => (hA b ha).2 (.inl hb)), h2, h3, h4.tn t (fun ha => (hA _ ha).2 (.inr (.inl rfl))), h5.tn t (fun ha => (hA _ ha).2 (.inr (.inr (.inl rfl)))), h6.tn t (fun ha => (hA _ ha).2 (.inr (.inr (.inr rfl)))), h7.below hb (Nat.le_refl _), h8.below hb (Nat.le_refl _), h9⟩
theorem come_len (L : List Sp) (z : List Sp × Bool) : (L.foldl come z).1.length ≤ z.1.length + L.length := by
  induction L generalizing z with
  | nil => simp
  | cons s L ih =>
    have h1 := ih (come z s)
    have h2 : (come z s).1.length ≤ z.1.length + 1 := by
      obtain ⟨r, e, -, -⟩ := pop_eq s.b z.1
      have := congrArg List.length e
      simp [come] at this ⊢
      omega
    simp only [List.foldl_cons, List.length_cons]
    omega
/-- One of either list came. -/
theorem NeI.step {N B : Nat} {A D : List Pl} {a d : Option Addr} {ca cd : Nat} {k i k' i' : Nat} {P : List Sp} {C' C2 : Nat → Prop} {X Y : World} {s : Sp} (h2 : P ++ mgP ((sps A).drop k) ((sps D).drop i) = mgP (sps A) (sps D)) (hm : mgP ((sps A).drop k) ((sps D).drop i) = s :: mgP ((sps A).drop k') ((sps D).drop i')) (h3 : P.length = k + i) (hk : k' + i' = k + i + 1)
    (h4 : IsCells X N #[.slice a A.length ca]) (h5 : IsCells X (N + 1) #[.slice d D.length cd]) (h6 : IsCells X (N + 4) #[.func (.func 121) #[] #[.pointer (some ⟨N + 2, 0, none⟩), .pointer (some ⟨N + 3, 0, none⟩)]]) (h7 : PlsAt X B a A) (h8 : PlsAt X B d D) (h9 : B ≤ N)
    (hC : ∀ b, C' b → (b = N + 2 ∨ b = N + 3 ∨ N + 5 ≤ b)) (t : Tn C' X Y) (hC2 : ∀ b, C2 b → C' b ∨ X.heap.size ≤ b) (hs : NsS (N + 5) (N + 2) (N + 3) (come (P.foldl come ([], true)) s) C2 Y) :
    ThS (NeI N B A D a d ca cd) k' i' (fun b => C' b ∨ b = N ∨ b = N + 1 ∨ b = N + 4) X Y := by
  have hb : Below B X Y := t.below (by have := h4.lt; omega) (fun k hk => by have := hC k hk; omega)
  refine ⟨fun b => C2 b ∨ b = N ∨ b = N + 1 ∨ b = N + 4, t.mono (fun _ _ h => .inl h), fun b hb => ?_, P ++ [s], C2, rfl, ?_, ?_, ?_, h4.tn t (fun h => by have := hC _ h; omega), h5.tn t (fun h => by have := hC _ h; omega), h6.tn t (fun h => by have := hC _ h; omega), h7.below hb (Nat.le_refl _), h8.below hb (Nat.le_refl _), h9⟩
  · rcases hb with hb | hb
    · exact (hC2 b hb).imp .inl id
    · exact .inl (.inr hb)
  · rw [List.foldl_append]
    exact hs
  · rw [← h2, hm]
    simp
  · simp
    omega

set_option maxRecDepth 100000 in
set_option maxHeartbeats 1000000 in
theorem nouter_any {N B : Nat} {A D : List Pl} {a d : Option Addr} {ca cd : Nat} (lA : A.length ≤ 8192) (lD : D.length ≤ 8192) (k i : Nat) (C : Nat → Prop) (X : World) (x : Pl) (hx : A[k]? = some x) (hy : ∀ y, D[i]? = some y → x.s.b < y.s.b) (h : NeI N B A D a d ca cd k i C X) :
    Calls Try.prog 122 (#[.int .i64 (k : Int)] ++ #[.pointer (some ⟨N + 4, 0, none⟩), .pointer (some ⟨N, 0, none⟩)]) X (ThP (NeI N B A D a d ca cd) (k + 1) i C X) := by
  obtain ⟨P, C', rfl, h1, h2, h3, h4, h5, h6, h7, h8, h9⟩ := h
  have hm := mgP_outer (sps_get hx) (D := sps D) (i := i) (fun y hy' => by obtain ⟨z, hz, rfl⟩ := sps_some hy'; exact hy z hz)
  have hk := (List.getElem?_eq_some_iff.1 hx).1
  obtain ⟨g, o, rfl, hg, c0, c1, c2, c3⟩ := h7 k x hx
  have tD : Tn (fun _ => False) X X.drew := (Tn.refl _ _).drew
  have hz := come_len P ([], true)
  have hcm : Calls Try.prog 121 #[.agg (sv x.s), .pointer (some ⟨N + 2, 0, none⟩), .pointer (some ⟨N + 3, 0, none⟩)] X.drew (ThP (NeI N B A D (some ⟨g, o, none⟩) d ca cd) (k + 1) i (fun b => C' b ∨ b = N ∨ b = N + 1 ∨ b = N + 4) X) := by
    refine (come_any X.drew (h1.tn tD (fun _ _ => id)) x.s (by have h := congrArg List.length h2; rw [List.length_append, (mgP_perm (sps A) (sps D)).length_eq] at h; simp [sps] at h hz; omega)).mono ?_
    rintro e Y ⟨hv, C2, t, hc2, hs⟩
    refine ⟨hv, NeI.step h2 hm h3 (by omega) h4 h5 h6 h7 h8 h9 (fun b hb => (h1.lt b hb).1.imp id (fun h => h.imp id id)) ((tD.mono (fun _ _ h => h.elim)).trans t (fun _ _ h => h)) hc2 hs⟩
  have e4 : X.drew.cell? ⟨N + 4, 0, none⟩ = some (.func (.func 121) #[] #[.pointer (some ⟨N + 2, 0, none⟩), .pointer (some ⟨N + 3, 0, none⟩)]) := h6.cell 0
  have e0 : X.drew.cell? ⟨N, 0, none⟩ = some (.slice (some ⟨g, o, none⟩) A.length ca) := h4.cell 0
  have d1 : X.drew.cell? ⟨g, o + k * 4 + 1, none⟩ = some (.int .u64 x.s.b) := c1
  have d2 : X.drew.cell? ⟨g, o + k * 4 + 2, none⟩ = some (.int .u64 x.s.e) := c2
  have d3 : X.drew.cell? ⟨g, o + k * 4 + 3, none⟩ = some (.int .i64 x.s.l) := c3
  have l0 := h4.lt
  have l4 := h6.lt
  have lg : g < X.heap.size := by omega
  have HM : Hid (ThP (NeI N B A D (some ⟨g, o, none⟩) d ca cd) (k + 1) i (fun b => C' b ∨ b = N ∨ b = N + 1 ∨ b = N + 4) X = ThP (NeI N B A D (some ⟨g, o, none⟩) d ca cd) (k + 1) i (fun b => C' b ∨ b = N ∨ b = N + 1 ∨ b = N + 4) X) := rfl
  obtain ⟨Q, hQ⟩ : ∃ Q, ThP (NeI N B A D (some ⟨g, o, none⟩) d ca cd) (k + 1) i (fun b => C' b ∨ b = N ∨ b = N + 1 ∨ b = N + 4) X = Q := ⟨_, rfl⟩
  rw [hQ] at hcm ⊢
  have HQ : Hid (∀ v w', Q (.returned v) w' → Q (.returned (.tuple #[])) w') := by
    intro v w' h
    rw [← hQ] at h ⊢
    exact ⟨⟨_, rfl⟩, h.2⟩
  have HQv : Hid (∀ e w', Q e w' → ∃ v, e = .returned v) := by
    intro e w' h
    rw [← hQ] at h
    exact h.1
  clear hQ HM h1 h2 h3 h4 h5 h6 h7 h8 h9 hm hx hy c0 c1 c2 c3 tD hz
  unfold sv at hcm
  have eg : ∀ args w, (callFunc 121 args).run Try.prog w = .ok (.enter 121 args) w := fun _ _ => by kernel_rfl
  simp only [List.append_toArray, List.cons_append, List.nil_append]
  go_enter Try.func122, Try.ntmps122
  go_wp2_with fail
  go_region_with (first | (go_at_call 121; (with_reducible refine hcm.mono ?_); intro e Y hP; obtain ⟨v, rfl⟩ := HQv.out e Y hP; have HP : Hid (Q (.returned (.tuple #[])) Y) := HQ.out v Y hP; clear hP hcm))
  all_goals (
    go_wp2
    refine bodyPost_end (results_none rfl _ _ _) rfl ?_
    exact HP.out)

set_option maxRecDepth 100000 in
set_option maxHeartbeats 1000000 in
theorem ninner_any {N B : Nat} {A D : List Pl} {a d : Option Addr} {ca cd : Nat} (lA : A.length ≤ 8192) (lD : D.length ≤ 8192) (k i : Nat) (C : Nat → Prop) (X : World) (x : Pl) (hx : D[i]? = some x) (hy : ∀ y, A[k]? = some y → x.s.b ≤ y.s.b) (h : NeI N B A D a d ca cd k i C X) :
    Calls Try.prog 123 (#[.int .i64 (i : Int)] ++ #[.pointer (some ⟨N + 4, 0, none⟩), .pointer (some ⟨N + 1, 0, none⟩)]) X (ThP (NeI N B A D a d ca cd) k (i + 1) C X) := by
  obtain ⟨P, C', rfl, h1, h2, h3, h4, h5, h6, h7, h8, h9⟩ := h
  have hm := mgP_inner (sps_get hx) (A := sps A) (k := k) (fun y hy' => by obtain ⟨z, hz, rfl⟩ := sps_some hy'; exact hy z hz)
  have hk := (List.getElem?_eq_some_iff.1 hx).1
  obtain ⟨g, o, rfl, hg, c0, c1, c2, c3⟩ := h8 i x hx
  have tD : Tn (fun _ => False) X X.drew := (Tn.refl _ _).drew
  have hz := come_len P ([], true)
  have hcm : Calls Try.prog 121 #[.agg (sv x.s), .pointer (some ⟨N + 2, 0, none⟩), .pointer (some ⟨N + 3, 0, none⟩)] X.drew (ThP (NeI N B A D a (some ⟨g, o, none⟩) ca cd) k (i + 1) (fun b => C' b ∨ b = N ∨ b = N + 1 ∨ b = N + 4) X) := by
    refine (come_any X.drew (h1.tn tD (fun _ _ => id)) x.s (by have h := congrArg List.length h2; rw [List.length_append, (mgP_perm (sps A) (sps D)).length_eq] at h; simp [sps] at h hz; omega)).mono ?_
    rintro e Y ⟨hv, C2, t, hc2, hs⟩
    refine ⟨hv, NeI.step h2 hm h3 (by omega) h4 h5 h6 h7 h8 h9 (fun b hb => (h1.lt b hb).1.imp id (fun h => h.imp id id)) ((tD.mono (fun _ _ h => h.elim)).trans t (fun _ _ h => h)) hc2 hs⟩
  have e4 : X.drew.cell? ⟨N + 4, 0, none⟩ = some (.func (.func 121) #[] #[.pointer (some ⟨N + 2, 0, none⟩), .pointer (some ⟨N + 3, 0, none⟩)]) := h6.cell 0
  have e0 : X.drew.cell? ⟨N + 1, 0, none⟩ = some (.slice (some ⟨g, o, none⟩) D.length cd) := h5.cell 0
  have d1 : X.drew.cell? ⟨g, o + i * 4 + 1, none⟩ = some (.int .u64 x.s.b) := c1
  have d2 : X.drew.cell? ⟨g, o + i * 4 + 2, none⟩ = some (.int .u64 x.s.e) := c2
  have d3 : X.drew.cell? ⟨g, o + i * 4 + 3, none⟩ = some (.int .i64 x.s.l) := c3
  have l0 := h5.lt
  have l4 := h6.lt
  have lg : g < X.heap.size := by omega
  have HM : Hid (ThP (NeI N B A D a (some ⟨g, o, none⟩) ca cd) k (i + 1) (fun b => C' b ∨ b = N ∨ b = N + 1 ∨ b = N + 4) X = ThP (NeI N B A D a (some ⟨g, o, none⟩) ca cd) k (i + 1) (fun b => C' b ∨ b = N ∨ b = N + 1 ∨ b = N + 4) X) := rfl
  obtain ⟨Q, hQ⟩ : ∃ Q, ThP (NeI N B A D a (some ⟨g, o, none⟩) ca cd) k (i + 1) (fun b => C' b ∨ b = N ∨ b = N + 1 ∨ b = N + 4) X = Q := ⟨_, rfl⟩
  rw [hQ] at hcm ⊢
  have HQ : Hid (∀ v w', Q (.returned v) w' → Q (.returned (.tuple #[])) w') := by
    intro v w' h
    rw [← hQ] at h ⊢
    exact ⟨⟨_, rfl⟩, h.2⟩
  have HQv : Hid (∀ e w', Q e w' → ∃ v, e = .returned v) := by
    intro e w' h
    rw [← hQ] at h
    exact h.1
  clear hQ HM h1 h2 h3 h4 h5 h6 h7 h8 h9 hm hx hy c0 c1 c2 c3 tD hz
  unfold sv at hcm
  have eg : ∀ args w, (callFunc 121 args).run Try.prog w = .ok (.enter 121 args) w := fun _ _ => by kernel_rfl
  simp only [List.append_toArray, List.cons_append, List.nil_append]
  go_enter Try.func123, Try.ntmps123
  go_wp2_with fail
  go_region_with (first | (go_at_call 121; (with_reducible refine hcm.mono ?_); intro e Y hP; obtain ⟨v, rfl⟩ := HQv.out e Y hP; have HP : Hid (Q (.returned (.tuple #[])) Y) := HQ.out v Y hP; clear hP hcm))
  all_goals (
    go_wp2
    refine bodyPost_end (results_none rfl _ _ _) rfl ?_
    exact HP.out)

end Go.Proofs.Ytmeinebfdljndaa
