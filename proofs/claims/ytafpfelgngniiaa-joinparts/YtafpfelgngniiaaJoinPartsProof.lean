/- Proved: for any two lists of nodes with their spans, espalierlaw11.JoinParts answers true: Inner and Without share the second list, Count adds up to the pairs, direct pairs are pairs, and where the lists cannot be all joins answer the same error; no condition. -/
import Derived.Test.YtafpfelgngniiaaRead
import Derived.Test.YtafpfelgngniiaaPar
import Derived.ShutString
import Derived.Below
namespace Go.Proofs.Ytafpfelgngniiaa.joinParts
open Go.ChangeShapes Go.WideShapes Go.ChangeAt Go.RowKit Go.Deep
set_option linter.unusedVariables false

theorem own : ownKnob Try.prog.godebug = none := by kernel_rfl
theorem laidOut : laidOutB Try.prog = true := by kernel_rfl

set_option maxRecDepth 100000 in
theorem lifted (os : Os) (started : os.Started) (H : Type) (enc : TypeId × Value → H) :
    ReturnsInHanded {} Try.checked os 4 .any (Rows.joinPartsSpec.pre6 enc Try.prog Try.f4 Rows.joinPartsRow.domain false) (Rows.joinPartsSpec.post enc Try.prog Try.f4 false true false false) := by
  refine returnsInHanded_of_change_sized (C := Try.checked) own started (by kernel_rfl) Try.func4
    (ChangeSpec.witness6 (enc := enc) (C := Try.checked) false ⟨#[], #[.slice none 0 0, .slice none 0 0], []⟩ 8 (by kernel_rfl) (by kernel_rfl) (by kernel_rfl) (by kernel_rfl)) ?_
  intro W base args ds gs before hval0 hW hcnd hsz _
  have hval : ∀ (j : Nat) t v, Try.f4.params[j]? = some t → args[j]? = some v → Value.okWide Try.prog W .any base t v := hval0
  have hW' := hW
  obtain ⟨p, q, hA0, hV, rfl, hfz, hnd⟩ := hW
  have hA : DataW.TrodAll enc Try.prog W 0 (fun _ => true) true Try.f4.params.toList args.toList ds p := hA0
  have hsz' : (DataW.weightsEach Try.prog (Try.f4.params.toList ++ Rows.joinPartsSpec.plain.varTypes Try.prog) (ds ++ gs)).all (· ≤ reachBytes) = true := hsz
  rw [Try.params4] at hA hval hsz'
  obtain ⟨v0, vs0, d0, ds0, p0, q0, hargs, rfl, rfl, h0, r0⟩ := trodAll_cons hA
  obtain ⟨v1, vs1, d1, ds1, p1, q1, rfl, rfl, rfl, h1, r1⟩ := trodAll_cons r0
  obtain ⟨rfl, rfl, rfl⟩ := trodAll_nil r1
  obtain rfl : args = #[v0, v1] := by cases args; simp_all
  obtain ⟨rfl, rfl⟩ := trodVars_none hV
  obtain ⟨la, ll, lc, rfl⟩ := okWide_slice Try.underlying22 (hval 0 22 v0 rfl rfl)
  obtain ⟨ma, ml, mc, rfl⟩ := okWide_slice Try.underlying22 (hval 1 22 v1 rfl rfl)
  have k0 := h0
  have lt0 : ∀ x ∈ p0, x.block < W.heap.size := by obtain ⟨m, hm⟩ := k0; exact DataW.trod_lt m _ _ _ hm
  obtain ⟨f0, hf0⟩ := h0
  have k1 := h1
  have lt1 : ∀ x ∈ p1, x.block < W.heap.size := by obtain ⟨m, hm⟩ := k1; exact DataW.trod_lt m _ _ _ hm
  obtain ⟨f1, hf1⟩ := h1
  have hww := fun y hy => (by simpa using List.all_eq_true.1 hsz' y hy : y ≤ reachBytes)
  have hw0 : Wt 22 d0 := wt_each (ts := [22, 22] ++ Rows.joinPartsSpec.plain.varTypes Try.prog) (ds := [d0, d1] ++ []) hww (j := 0) rfl rfl
  have hw1 : Wt 22 d1 := wt_each (ts := [22, 22] ++ Rows.joinPartsSpec.plain.varTypes Try.prog) (ds := [d0, d1] ++ []) hww (j := 1) rfl rfl
  obtain ⟨A, rfl, sA, cA, hA1, vA⟩ := pls_of (by simpa [Value.cells] using hf0) hw0
  obtain ⟨D, rfl, sD, cD, hD1, vD⟩ := pls_of (by simpa [Value.cells] using hf1) hw1
  clear hA0 hval0
  unfold reachBytes at sA sD
  refine (parts_walk W hA1 hD1 vA vD cA cD (by unfold maxLen; omega) (by omega) (by unfold maxLen; omega) (by omega)).mono fun e W' ⟨he, bel⟩ => ?_
  subst he
  exact ⟨_, rfl, _, _, _, [], _, [], hW', trodAll_mk1 (shut_bool Try.underlying4 _), (trodAll_cons_mk (Below.trod laidOut (by kernel_rfl) (of_decide_eq_true (by kernel_rfl)) k0 bel lt0) (trodAll_cons_mk (Below.trod laidOut (by kernel_rfl) (of_decide_eq_true (by kernel_rfl)) k1 bel lt1) trodAll_mk0)), rfl, bel.frame _, fun h => by cases h⟩

theorem over : Rows.joinPartsRow.holds Try.pinned (OpenSpec.ofChange Rows.joinPartsSpec) :=
  OpenClaim.holds_of_wide 4 Try.f4 rfl rfl rfl rfl rfl rfl rfl ⟨rfl, rfl, rfl, rfl, rfl⟩ rfl rfl rfl rfl rfl (by kernel_rfl) Try.func4 (by kernel_rfl)
    (of_decide_eq_true (by kernel_rfl)) (by unfold Func.isWrapper; first | (rw [if_pos (by decide +kernel)]; kernel_rfl) | (rw [if_neg (by decide +kernel)]; exact ⟨rfl, rfl⟩))
    (fun os started H enc _ => lifted os started H enc)

end Go.Proofs.Ytafpfelgngniiaa.joinParts
namespace Go.Proofs.Ytafpfelgngniiaa

theorem joinParts_holds : Rows.JoinPartsSaid := joinParts.over
#print axioms joinParts_holds

end Go.Proofs.Ytafpfelgngniiaa
