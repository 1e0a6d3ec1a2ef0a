/- Whether two lists can be joined: both sides' answers in plain are one; joinable. -/
import Derived.Test.YtmeinebfdljndaaRis
namespace Go.Proofs.Ytmeinebfdljndaa
open Go.RowKit
set_option linter.unusedVariables false

def errP (A D : List Pl) : Int := if 8192 < A.length ∨ 8192 < D.length then 2 else if oneS (sps A) none ≠ 0 then oneS (sps A) none else if oneS (sps D) none ≠ 0 then oneS (sps D) none else if ((mgP (sps A) (sps D)).foldl come ([], true)).2 = true then 0 else 111
def errR (A D : List Pl) : Int := if 8192 < A.length ∨ 8192 < D.length then 2 else if oneS (sps A) none ≠ 0 then oneS (sps A) none else if oneS (sps D) none ≠ 0 then oneS (sps D) none else if fitR [] (mgR (sps A) (sps D)) = true then 0 else 111
theorem val_iff {x : Sp} : val x = true ↔ 1 ≤ x.b ∧ x.b < x.e ∧ x.e < 4611686018427387904 ∧ 0 ≤ x.l ∧ x.l < 64 := by simp [val]
theorem oneS_ok {L : List Sp} {pv : Option Int} (h : oneS L pv = 0) : (∀ x ∈ L, val x = true) ∧ L.Pairwise (fun x y => x.b < y.b) ∧ ∀ p, pv = some p → ∀ x ∈ L, p < x.b := by
  induction L generalizing pv with
  | nil => exact ⟨fun _ h => (by cases h), .nil, fun _ _ _ h => (by cases h)⟩
  | cons x r ih =>
    unfold oneS at h
    split at h
    · cases h
    · rename_i hv
      split at h
      · cases h
      · rename_i hlw
        obtain ⟨h1, h2, h3⟩ := ih h
        have hv' : val x = true := by cases hq : val x with
          | true => rfl
          | false => exact absurd hq hv
        refine ⟨fun y hy => ?_, List.pairwise_cons.2 ⟨fun y hy => h3 _ rfl y hy, h2⟩, fun p hp y hy => ?_⟩
        · rcases List.mem_cons.1 hy with rfl | hy
          · exact hv'
          · exact h1 y hy
        · subst hp
          have hx : p < x.b := by simp [low] at hlw; omega
          rcases List.mem_cons.1 hy with rfl | hy
          · exact hx
          · have := h3 _ rfl y hy; omega
theorem fine_both {A D : List Sp} (hA : oneS A none = 0) (hD : oneS D none = 0) : (((mgP A D).foldl come ([], true)).2 = true ↔ Fine A D) ∧ (fitR [] (mgR A D) = true ↔ Fine A D) := by
  obtain ⟨a1, a2, -⟩ := oneS_ok hA
  obtain ⟨d1, d2, -⟩ := oneS_ok hD
  have rA : Ris A := a2.imp (fun h => by omega)
  have rD : Ris D := d2.imp (fun h => by omega)
  have hv : ∀ x ∈ A ++ D, x.b < x.e := fun x hx => by
    rcases List.mem_append.1 hx with h | h
    · exact (val_iff.1 (a1 x h)).2.1
    · exact (val_iff.1 (d1 x h)).2.1
  have h0 : ∀ x ∈ A ++ D, 0 ≤ x.b := fun x hx => by
    rcases List.mem_append.1 hx with h | h
    · have := (val_iff.1 (a1 x h)).1; omega
    · have := (val_iff.1 (d1 x h)).1; omega
  exact ⟨fine_P rA rD hv h0, fine_R rA rD hv h0⟩
theorem err_eq (A D : List Pl) : errP A D = errR A D := by
  unfold errP errR
  split
  · rfl
  · split
    · rfl
    · rename_i h1
      split
      · rfl
      · rename_i h2
        obtain ⟨f1, f2⟩ := fine_both (A := sps A) (D := sps D) (by simpa using h1) (by simpa using h2)
        by_cases hf : Fine (sps A) (sps D)
        · rw [if_pos (f1.2 hf), if_pos (f2.2 hf)]
        · rw [if_neg (fun h => hf (f1.1 h)), if_neg (fun h => hf (f2.1 h))]
theorem err_can {A D : List Pl} (h : errP A D = 0) : Can A D ∧ A.length ≤ 8192 ∧ D.length ≤ 8192 := by
  unfold errP at h
  split at h
  · cases h
  · rename_i hl
    split at h
    · rename_i h1; exact absurd h h1
    · rename_i h1
      split at h
      · rename_i h2; exact absurd h h2
      · rename_i h2
        split at h
        · rename_i h3
          have h1' : oneS (sps A) none = 0 := by simpa using h1
          have h2' : oneS (sps D) none = 0 := by simpa using h2
          obtain ⟨a1, a2, -⟩ := oneS_ok h1'
          obtain ⟨d1, d2, -⟩ := oneS_ok h2'
          refine ⟨⟨fun x hx => ?_, fun x hx => ?_, ?_, ?_, (fine_both h1' h2').1.1 h3⟩, by omega, by omega⟩
          · have := val_iff.1 (a1 x.s (List.mem_map.2 ⟨x, hx, rfl⟩)); omega
          · have := val_iff.1 (d1 x.s (List.mem_map.2 ⟨x, hx, rfl⟩)); omega
          · unfold sps at a2; rw [List.pairwise_map] at a2; exact a2
          · unfold sps at d2; rw [List.pairwise_map] at d2; exact d2
        · cases h

set_option maxRecDepth 100000 in
set_option maxHeartbeats 1000000 in
theorem joinable_any (w : World) {A D : List Pl} {a d : Option Addr} {ca cd : Nat} (hA : PlsAt w w.heap.size a A) (hD : PlsAt w w.heap.size d D) (hva : ∀ x ∈ A, Lvl x.s) (hvd : ∀ x ∈ D, Lvl x.s) (y : Int) (hy : errP A D = y) :
    Calls Try.prog 95 #[.slice a A.length ca, .slice d D.length cd] w fun e w' => e = .returned (.int .i64 y) ∧ Below w.heap.size w w' := by
  unfold errP at hy
  by_cases h1 : 8192 < A.length
  · rw [if_pos (.inl h1)] at hy
    subst hy
    have hd : decide ((8192 : Int) < (A.length : Int)) = true := by simp; omega
    clear hA hD hva hvd
    go_enter Try.func95, Try.ntmps95
    go_wp2
    go_ret
    exact ⟨rfl, Below.refl _ _⟩
  · by_cases h2 : 8192 < D.length
    · rw [if_pos (.inr h2)] at hy
      subst hy
      clear hA hD hva hvd
      go_enter Try.func95, Try.ntmps95
      go_wp2
      go_ret
      exact ⟨rfl, Below.refl _ _⟩
    · rw [if_neg (by omega)] at hy
      have hra := fun y hy => rises_any w hA (cap := ca) (by omega) hva y hy
      have hrd := fun (w' : World) (hb : Below w.heap.size w w') y hy => rises_any w' (cap := cd) ((hD.below hb (Nat.le_refl _)).more hb.size) (by omega) hvd y hy
      have hne := fun (w' : World) (hb : Below w.heap.size w w') y hy => nest_any w' (ca := ca) (cd := cd) ((hA.below hb (Nat.le_refl _)).more hb.size) ((hD.below hb (Nat.le_refl _)).more hb.size) (by omega) (by omega) y hy
      have HRD : Hid (∀ (w' : World), Below w.heap.size w w' → ∀ y, oneS (sps D) none = y → Calls Try.prog 109 #[.slice d D.length cd] w' fun e w'' => e = .returned (.int .i64 y) ∧ Below w'.heap.size w' w'') := hrd
      have HNE : Hid (∀ (w' : World), Below w.heap.size w w' → ∀ y, ((mgP (sps A) (sps D)).foldl come ([], true)).2 = y → Calls Try.prog 110 #[.slice a A.length ca, .slice d D.length cd] w' fun e w'' => e = .returned (.bool y) ∧ Below w'.heap.size w' w'') := hne
      clear hrd hne hA hD hva hvd
      obtain ⟨p, hp⟩ : ∃ p, oneS (sps A) none = p := ⟨_, rfl⟩
      obtain ⟨q, hq⟩ : ∃ q, oneS (sps D) none = q := ⟨_, rfl⟩
      obtain ⟨z, hz⟩ : ∃ z, ((mgP (sps A) (sps D)).foldl come ([], true)).2 = z := ⟨_, rfl⟩
      have hr1 := hra p hp
      have HQ : Hid (oneS (sps D) none = q ∧ ((mgP (sps A) (sps D)).foldl come ([], true)).2 = z) := ⟨hq, hz⟩
      rw [hp, hq, hz] at hy
      clear hp hq hz hra
      by_cases hp0 : p = 0
      · subst hp0
        rw [if_neg (by simp)] at hy
        by_cases hq0 : q = 0
        · subst hq0
          rw [if_neg (by simp)] at hy
          cases z with
          | true =>
            rw [if_pos rfl] at hy
            subst hy
            go_enter Try.func95, Try.ntmps95
            go_wp2_with fail
            with_reducible refine hr1.mono ?_
            rintro e w1 ⟨rfl, hb1⟩
            have hr2 := HRD.out w1 hb1 0 HQ.out.1
            have HB1 : Hid (Below w.heap.size w w1) := hb1
            clear hb1 hr1
            go_wp2_with fail
            with_reducible refine hr2.mono ?_
            rintro e w2 ⟨rfl, hb2⟩
            have HB2 : Hid (Below w.heap.size w w2) := HB1.out.trans (hb2.mono HB1.out.size)
            have hr3 := HNE.out w2 HB2.out true HQ.out.2
            clear hb2 hr2
            go_wp2_with fail
            with_reducible refine hr3.mono ?_
            rintro e w3 ⟨rfl, hb3⟩
            have HB3 : Hid (Below w.heap.size w w3) := HB2.out.trans (hb3.mono HB2.out.size)
            clear hb3 hr3
            go_wp2
            go_ret
            exact ⟨rfl, HB3.out⟩
          | false =>
            rw [if_neg (by simp)] at hy
            subst hy
            go_enter Try.func95, Try.ntmps95
            go_wp2_with fail
            with_reducible refine hr1.mono ?_
            rintro e w1 ⟨rfl, hb1⟩
            have hr2 := HRD.out w1 hb1 0 HQ.out.1
            have HB1 : Hid (Below w.heap.size w w1) := hb1
            clear hb1 hr1
            go_wp2_with fail
            with_reducible refine hr2.mono ?_
            rintro e w2 ⟨rfl, hb2⟩
            have HB2 : Hid (Below w.heap.size w w2) := HB1.out.trans (hb2.mono HB1.out.size)
            have hr3 := HNE.out w2 HB2.out false HQ.out.2
            clear hb2 hr2
            go_wp2_with fail
            with_reducible refine hr3.mono ?_
            rintro e w3 ⟨rfl, hb3⟩
            have HB3 : Hid (Below w.heap.size w w3) := HB2.out.trans (hb3.mono HB2.out.size)
            clear hb3 hr3
            go_wp2
            go_ret
            exact ⟨rfl, HB3.out⟩
        · rw [if_pos hq0] at hy
          subst hy
          have hqb : (q == 0) = false := beq_eq_false_iff_ne.2 hq0
          clear hq0
          go_enter Try.func95, Try.ntmps95
          go_wp2_with fail
          with_reducible refine hr1.mono ?_
          rintro e w1 ⟨rfl, hb1⟩
          have hr2 := HRD.out w1 hb1 q HQ.out.1
          have HB1 : Hid (Below w.heap.size w w1) := hb1
          clear hb1 hr1
          go_wp2_with fail
          with_reducible refine hr2.mono ?_
          rintro e w2 ⟨rfl, hb2⟩
          have HB2 : Hid (Below w.heap.size w w2) := HB1.out.trans (hb2.mono HB1.out.size)
          clear hb2 hr2
          go_wp2
          go_ret
          exact ⟨rfl, HB2.out⟩
      · rw [if_pos hp0] at hy
        subst hy
        have hpb : (p == 0) = false := beq_eq_false_iff_ne.2 hp0
        clear hp0
        go_enter Try.func95, Try.ntmps95
        go_wp2_with fail
        with_reducible refine hr1.mono ?_
        rintro e w1 ⟨rfl, hb1⟩
        have HB1 : Hid (Below w.heap.size w w1) := hb1
        clear hb1 hr1
        go_wp2
        go_ret
        exact ⟨rfl, HB1.out⟩

end Go.Proofs.Ytmeinebfdljndaa
