/- The document's Joins. -/
import Derived.Test.YtafpfelgngniiaaTho2
namespace Go.Proofs.Ytafpfelgngniiaa
open Go.RowKit
set_option linter.unusedVariables false

set_option maxRecDepth 100000 in
theorem rjoins_any (w : World) (a b : Sp) (dr : Bool) (ha : Lvl a) (hb : Lvl b) : Calls Try.prog 25 #[.agg (sv a), .agg (sv b), .bool dr] w fun e w' => e = .returned (.bool (jns dr a b)) ∧ Below w.heap.size w w' := by
  have hc := fun W => rarnd_any W a b
  have hp := fun W => rpar_any W a b ha hb
  have HP : Hid (jns dr a b = (anc a b && (!dr || par a b))) := rfl
  clear ha hb
  generalize anc a b = z at *
  generalize par a b = y at *
  generalize jns dr a b = r at *
  obtain ⟨a1, a2, a3⟩ := a
  obtain ⟨b1, b2, b3⟩ := b
  unfold sv at *
  simp only at *
  cases z
  · go_enter Try.func25, Try.ntmps25
    go_wp2_with fail
    refine (hc _).mono ?_
    rintro e w' ⟨rfl, hbb⟩
    obtain ⟨hq, hf⟩ := bcell hbb
    have hz := hbb.size
    simp at hz
    go_wp2
    go_ret
    exact ⟨ret_bool (by rw [HP.out]; rfl), (below2 _ _ _).trans (hbb.mono (by simp; omega))⟩
  · cases dr
    · go_enter Try.func25, Try.ntmps25
      go_wp2_with fail
      refine (hc _).mono ?_
      rintro e w' ⟨rfl, hbb⟩
      obtain ⟨hq, hf⟩ := bcell hbb
      have hz := hbb.size
      simp at hz
      go_wp2
      go_ret
      exact ⟨ret_bool (by rw [HP.out]; rfl), (below2 _ _ _).trans (hbb.mono (by simp; omega))⟩
    · go_enter Try.func25, Try.ntmps25
      go_wp2_with fail
      refine (hc _).mono ?_
      rintro e w' ⟨rfl, hbb⟩
      obtain ⟨hq, hf⟩ := bcell hbb
      have hz := hbb.size
      simp at hz
      go_wp2_with fail
      refine (hp _).mono ?_
      rintro e w2 ⟨rfl, hbc⟩
      go_wp2
      go_ret
      exact ⟨ret_bool (by rw [HP.out]; cases y <;> rfl), (below2 _ _ _).trans ((hbb.mono (by simp; omega)).trans (hbc.mono (by omega)))⟩

end Go.Proofs.Ytafpfelgngniiaa
