/- Relations of two spans: the program's answer. -/
import Derived.Test.YtmeinebfdljndaaSp
namespace Go.Proofs.Ytmeinebfdljndaa
open Go.RowKit
set_option linter.unusedVariables false
attribute [local go_sem] Bel.cell Bel.fz

def rel (a b : Sp) : Int × Int :=
  if val a = false ∨ val b = false then (0, 110) else if slf a b = true then (1, 0) else if par a b = true then (2, 0) else if par b a = true then (3, 0) else if anc a b = true then (4, 0) else if anc b a = true then (5, 0) else if fol a b = true then (6, 0) else if fol b a = true then (7, 0) else (0, 111)

/-- At the first world. -/
theorem Calls.bel_first {P : Program} {f : FuncId} {args : Array Value} {W : World} {v : Value}
    (h : Calls P f args W fun e w' => e = .returned v ∧ Below W.heap.size W w') : Calls P f args W fun e w'' => e = .returned v ∧ ∃ u' : Bel W, w'' = u'.w :=
  h.mono fun _ w' ⟨he, hm⟩ => ⟨he, ⟨w', hm⟩, rfl⟩

theorem rel_end {w W : World} (h : Below w.heap.size w W) (u : Bel W) : Below w.heap.size w u.w := h.trans (u.h.mono h.size)

set_option maxRecDepth 100000 in
set_option maxHeartbeats 1000000 in
theorem rel_any (w : World) (a b : Sp) (ha : Lvl a) (hb : Lvl b) : Calls Try.prog 59 #[.agg (sv a), .agg (sv b)] w fun e w' => e = .returned (.tuple #[.int .i64 (rel a b).1, .int .i64 (rel a b).2]) ∧ Below w.heap.size w w' := by
  have hva := fun W => val_any W a
  have hvb := fun W => val_any W b
  have h1 := fun W => self_any W a b
  have h2 := fun W => par_any W a b ha hb
  have h3 := fun W => child_any W a b ha hb
  have h4 := fun W => anc_any W a b
  have h5 := fun W => desc_any W a b
  have h6 := fun W => fol_any W a b
  have h7 := fun W => prec_any W a b
  have HR : Hid (rel a b = rel a b) := rfl
  cases e0 : val a
  · rw [e0] at hva
    have HX : Hid (rel a b = (0, 110)) := by show _ = _; simp [rel, e0]
    generalize rel a b = y at *
    clear e0
    obtain ⟨a1, a2, a3⟩ := a
    obtain ⟨b1, b2, b3⟩ := b
    unfold sv at *
    simp only at *
    go_enter Try.func59, Try.ntmps59
    go_wp2_with fail
    refine (Calls.bel_first (hva _)).mono ?_
    rintro e _ ⟨rfl, u0, rfl⟩
    go_wp2
    go_ret2
    exact ⟨by rw [HX.out]; rfl, rel_end (below2 _ _ _) u0⟩
  · rw [e0] at hva
    cases e1 : val b
    · rw [e1] at hvb
      have HX : Hid (rel a b = (0, 110)) := by show _ = _; simp [rel, e0, e1]
      generalize rel a b = y at *
      clear e0 e1
      obtain ⟨a1, a2, a3⟩ := a
      obtain ⟨b1, b2, b3⟩ := b
      unfold sv at *
      simp only at *
      go_enter Try.func59, Try.ntmps59
      go_wp2_with fail
      refine (Calls.bel_first (hva _)).mono ?_
      rintro e _ ⟨rfl, u0, rfl⟩
      go_wp2_with fail
      refine (Calls.bel_of (hvb _)).mono ?_
      rintro e _ ⟨rfl, u1, rfl⟩
      go_wp2
      go_ret2
      exact ⟨by rw [HX.out]; rfl, rel_end (below2 _ _ _) u1⟩
    · rw [e1] at hvb
      cases e2 : slf a b
      · rw [e2] at h1
        cases e3 : par a b
        · rw [e3] at h2
          cases e4 : par b a
          · rw [e4] at h3
            cases e5 : anc a b
            · rw [e5] at h4
              cases e6 : anc b a
              · rw [e6] at h5
                cases e7 : fol a b
                · rw [e7] at h6
                  cases e8 : fol b a
                  · rw [e8] at h7
                    have HX : Hid (rel a b = (0, 111)) := by show _ = _; simp [rel, e0, e1, e2, e3, e4, e5, e6, e7, e8]
                    generalize rel a b = y at *
                    clear e0 e1 e2 e3 e4 e5 e6 e7 e8
                    obtain ⟨a1, a2, a3⟩ := a
                    obtain ⟨b1, b2, b3⟩ := b
                    unfold sv at *
                    simp only at *
                    go_enter Try.func59, Try.ntmps59
                    go_wp2_with fail
                    refine (Calls.bel_first (hva _)).mono ?_
                    rintro e _ ⟨rfl, u0, rfl⟩
                    go_wp2_with fail
                    refine (Calls.bel_of (hvb _)).mono ?_
                    rintro e _ ⟨rfl, u1, rfl⟩
                    go_wp2_with fail
                    refine (Calls.bel_of (h1 _)).mono ?_
                    rintro e _ ⟨rfl, u2, rfl⟩
                    go_wp2_with fail
                    refine (Calls.bel_of (h2 _)).mono ?_
                    rintro e _ ⟨rfl, u3, rfl⟩
                    go_wp2_with fail
                    refine (Calls.bel_of (h3 _)).mono ?_
                    rintro e _ ⟨rfl, u4, rfl⟩
                    go_wp2_with fail
                    refine (Calls.bel_of (h4 _)).mono ?_
                    rintro e _ ⟨rfl, u5, rfl⟩
                    go_wp2_with fail
                    refine (Calls.bel_of (h5 _)).mono ?_
                    rintro e _ ⟨rfl, u6, rfl⟩
                    go_wp2_with fail
                    refine (Calls.bel_of (h6 _)).mono ?_
                    rintro e _ ⟨rfl, u7, rfl⟩
                    go_wp2_with fail
                    refine (Calls.bel_of (h7 _)).mono ?_
                    rintro e _ ⟨rfl, u8, rfl⟩
                    go_wp2
                    go_ret2
                    exact ⟨by rw [HX.out]; rfl, rel_end (below2 _ _ _) u8⟩
                  · rw [e8] at h7
                    have HX : Hid (rel a b = (7, 0)) := by show _ = _; simp [rel, e0, e1, e2, e3, e4, e5, e6, e7, e8]
                    generalize rel a b = y at *
                    clear e0 e1 e2 e3 e4 e5 e6 e7 e8
                    obtain ⟨a1, a2, a3⟩ := a
                    obtain ⟨b1, b2, b3⟩ := b
                    unfold sv at *
                    simp only at *
                    go_enter Try.func59, Try.ntmps59
                    go_wp2_with fail
                    refine (Calls.bel_first (hva _)).mono ?_
                    rintro e _ ⟨rfl, u0, rfl⟩
                    go_wp2_with fail
                    refine (Calls.bel_of (hvb _)).mono ?_
                    rintro e _ ⟨rfl, u1, rfl⟩
                    go_wp2_with fail
                    refine (Calls.bel_of (h1 _)).mono ?_
                    rintro e _ ⟨rfl, u2, rfl⟩
                    go_wp2_with fail
                    refine (Calls.bel_of (h2 _)).mono ?_
                    rintro e _ ⟨rfl, u3, rfl⟩
                    go_wp2_with fail
                    refine (Calls.bel_of (h3 _)).mono ?_
                    rintro e _ ⟨rfl, u4, rfl⟩
                    go_wp2_with fail
                    refine (Calls.bel_of (h4 _)).mono ?_
                    rintro e _ ⟨rfl, u5, rfl⟩
                    go_wp2_with fail
                    refine (Calls.bel_of (h5 _)).mono ?_
                    rintro e _ ⟨rfl, u6, rfl⟩
                    go_wp2_with fail
                    refine (Calls.bel_of (h6 _)).mono ?_
                    rintro e _ ⟨rfl, u7, rfl⟩
                    go_wp2_with fail
                    refine (Calls.bel_of (h7 _)).mono ?_
                    rintro e _ ⟨rfl, u8, rfl⟩
                    go_wp2
                    go_ret2
                    exact ⟨by rw [HX.out]; rfl, rel_end (below2 _ _ _) u8⟩
                · rw [e7] at h6
                  have HX : Hid (rel a b = (6, 0)) := by show _ = _; simp [rel, e0, e1, e2, e3, e4, e5, e6, e7]
                  generalize rel a b = y at *
                  clear e0 e1 e2 e3 e4 e5 e6 e7
                  obtain ⟨a1, a2, a3⟩ := a
                  obtain ⟨b1, b2, b3⟩ := b
                  unfold sv at *
                  simp only at *
                  go_enter Try.func59, Try.ntmps59
                  go_wp2_with fail
                  refine (Calls.bel_first (hva _)).mono ?_
                  rintro e _ ⟨rfl, u0, rfl⟩
                  go_wp2_with fail
                  refine (Calls.bel_of (hvb _)).mono ?_
                  rintro e _ ⟨rfl, u1, rfl⟩
                  go_wp2_with fail
                  refine (Calls.bel_of (h1 _)).mono ?_
                  rintro e _ ⟨rfl, u2, rfl⟩
                  go_wp2_with fail
                  refine (Calls.bel_of (h2 _)).mono ?_
                  rintro e _ ⟨rfl, u3, rfl⟩
                  go_wp2_with fail
                  refine (Calls.bel_of (h3 _)).mono ?_
                  rintro e _ ⟨rfl, u4, rfl⟩
                  go_wp2_with fail
                  refine (Calls.bel_of (h4 _)).mono ?_
                  rintro e _ ⟨rfl, u5, rfl⟩
                  go_wp2_with fail
                  refine (Calls.bel_of (h5 _)).mono ?_
                  rintro e _ ⟨rfl, u6, rfl⟩
                  go_wp2_with fail
                  refine (Calls.bel_of (h6 _)).mono ?_
                  rintro e _ ⟨rfl, u7, rfl⟩
                  go_wp2
                  go_ret2
                  exact ⟨by rw [HX.out]; rfl, rel_end (below2 _ _ _) u7⟩
              · rw [e6] at h5
                have HX : Hid (rel a b = (5, 0)) := by show _ = _; simp [rel, e0, e1, e2, e3, e4, e5, e6]
                generalize rel a b = y at *
                clear e0 e1 e2 e3 e4 e5 e6
                obtain ⟨a1, a2, a3⟩ := a
                obtain ⟨b1, b2, b3⟩ := b
                unfold sv at *
                simp only at *
                go_enter Try.func59, Try.ntmps59
                go_wp2_with fail
                refine (Calls.bel_first (hva _)).mono ?_
                rintro e _ ⟨rfl, u0, rfl⟩
                go_wp2_with fail
                refine (Calls.bel_of (hvb _)).mono ?_
                rintro e _ ⟨rfl, u1, rfl⟩
                go_wp2_with fail
                refine (Calls.bel_of (h1 _)).mono ?_
                rintro e _ ⟨rfl, u2, rfl⟩
                go_wp2_with fail
                refine (Calls.bel_of (h2 _)).mono ?_
                rintro e _ ⟨rfl, u3, rfl⟩
                go_wp2_with fail
                refine (Calls.bel_of (h3 _)).mono ?_
                rintro e _ ⟨rfl, u4, rfl⟩
                go_wp2_with fail
                refine (Calls.bel_of (h4 _)).mono ?_
                rintro e _ ⟨rfl, u5, rfl⟩
                go_wp2_with fail
                refine (Calls.bel_of (h5 _)).mono ?_
                rintro e _ ⟨rfl, u6, rfl⟩
                go_wp2
                go_ret2
                exact ⟨by rw [HX.out]; rfl, rel_end (below2 _ _ _) u6⟩
            · rw [e5] at h4
              have HX : Hid (rel a b = (4, 0)) := by show _ = _; simp [rel, e0, e1, e2, e3, e4, e5]
              generalize rel a b = y at *
              clear e0 e1 e2 e3 e4 e5
              obtain ⟨a1, a2, a3⟩ := a
              obtain ⟨b1, b2, b3⟩ := b
              unfold sv at *
              simp only at *
              go_enter Try.func59, Try.ntmps59
              go_wp2_with fail
              refine (Calls.bel_first (hva _)).mono ?_
              rintro e _ ⟨rfl, u0, rfl⟩
              go_wp2_with fail
              refine (Calls.bel_of (hvb _)).mono ?_
              rintro e _ ⟨rfl, u1, rfl⟩
              go_wp2_with fail
              refine (Calls.bel_of (h1 _)).mono ?_
              rintro e _ ⟨rfl, u2, rfl⟩
              go_wp2_with fail
              refine (Calls.bel_of (h2 _)).mono ?_
              rintro e _ ⟨rfl, u3, rfl⟩
              go_wp2_with fail
              refine (Calls.bel_of (h3 _)).mono ?_
              rintro e _ ⟨rfl, u4, rfl⟩
              go_wp2_with fail
              refine (Calls.bel_of (h4 _)).mono ?_
              rintro e _ ⟨rfl, u5, rfl⟩
              go_wp2
              go_ret2
              exact ⟨by rw [HX.out]; rfl, rel_end (below2 _ _ _) u5⟩
          · rw [e4] at h3
            have HX : Hid (rel a b = (3, 0)) := by show _ = _; simp [rel, e0, e1, e2, e3, e4]
            generalize rel a b = y at *
            clear e0 e1 e2 e3 e4
            obtain ⟨a1, a2, a3⟩ := a
            obtain ⟨b1, b2, b3⟩ := b
            unfold sv at *
            simp only at *
            go_enter Try.func59, Try.ntmps59
            go_wp2_with fail
            refine (Calls.bel_first (hva _)).mono ?_
            rintro e _ ⟨rfl, u0, rfl⟩
            go_wp2_with fail
            refine (Calls.bel_of (hvb _)).mono ?_
            rintro e _ ⟨rfl, u1, rfl⟩
            go_wp2_with fail
            refine (Calls.bel_of (h1 _)).mono ?_
            rintro e _ ⟨rfl, u2, rfl⟩
            go_wp2_with fail
            refine (Calls.bel_of (h2 _)).mono ?_
            rintro e _ ⟨rfl, u3, rfl⟩
            go_wp2_with fail
            refine (Calls.bel_of (h3 _)).mono ?_
            rintro e _ ⟨rfl, u4, rfl⟩
            go_wp2
            go_ret2
            exact ⟨by rw [HX.out]; rfl, rel_end (below2 _ _ _) u4⟩
        · rw [e3] at h2
          have HX : Hid (rel a b = (2, 0)) := by show _ = _; simp [rel, e0, e1, e2, e3]
          generalize rel a b = y at *
          clear e0 e1 e2 e3
          obtain ⟨a1, a2, a3⟩ := a
          obtain ⟨b1, b2, b3⟩ := b
          unfold sv at *
          simp only at *
          go_enter Try.func59, Try.ntmps59
          go_wp2_with fail
          refine (Calls.bel_first (hva _)).mono ?_
          rintro e _ ⟨rfl, u0, rfl⟩
          go_wp2_with fail
          refine (Calls.bel_of (hvb _)).mono ?_
          rintro e _ ⟨rfl, u1, rfl⟩
          go_wp2_with fail
          refine (Calls.bel_of (h1 _)).mono ?_
          rintro e _ ⟨rfl, u2, rfl⟩
          go_wp2_with fail
          refine (Calls.bel_of (h2 _)).mono ?_
          rintro e _ ⟨rfl, u3, rfl⟩
          go_wp2
          go_ret2
          exact ⟨by rw [HX.out]; rfl, rel_end (below2 _ _ _) u3⟩
      · rw [e2] at h1
        have HX : Hid (rel a b = (1, 0)) := by show _ = _; simp [rel, e0, e1, e2]
        generalize rel a b = y at *
        clear e0 e1 e2
        obtain ⟨a1, a2, a3⟩ := a
        obtain ⟨b1, b2, b3⟩ := b
        unfold sv at *
        simp only at *
        go_enter Try.func59, Try.ntmps59
        go_wp2_with fail
        refine (Calls.bel_first (hva _)).mono ?_
        rintro e _ ⟨rfl, u0, rfl⟩
        go_wp2_with fail
        refine (Calls.bel_of (hvb _)).mono ?_
        rintro e _ ⟨rfl, u1, rfl⟩
        go_wp2_with fail
        refine (Calls.bel_of (h1 _)).mono ?_
        rintro e _ ⟨rfl, u2, rfl⟩
        go_wp2
        go_ret2
        exact ⟨by rw [HX.out]; rfl, rel_end (below2 _ _ _) u2⟩

end Go.Proofs.Ytmeinebfdljndaa
