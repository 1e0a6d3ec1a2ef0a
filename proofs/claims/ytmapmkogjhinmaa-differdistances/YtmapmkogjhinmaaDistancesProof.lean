/- Proved: for any two forests espalierlaw18.DifferDistances answers true: Distance of the program answers the number and the error that the document's own Distance answers, and neither forest is changed; the arguments read as they did; no condition. -/
import Derived.Test.YtmapmkogjhinmaaA04
import Derived.Test.YtmapmkogjhinmaaA18
import Derived.ShutString
import Derived.Below
namespace Go.Proofs.Ytmapmkogjhinmaa.differDistances
open Go.ChangeShapes Go.WideShapes Go.ChangeAt Go.RowKit Go.Deep
set_option linter.unusedVariables false
set_option linter.unusedSimpArgs false
set_option maxRecDepth 100000
theorem own : ownKnob Try.prog.godebug = none := by kernel_rfl
theorem laidOut : laidOutB Try.prog = true := by kernel_rfl
theorem lifted (os : Os) (started : os.Started) (H : Type) (enc : TypeId × Value -> H) :
  ReturnsInHanded {} Try.checked os 3 .any (Rows.differDistancesSpec.pre6 enc Try.prog Try.f3 Rows.differDistancesRow.domain false) (Rows.differDistancesSpec.post enc Try.prog Try.f3 false true false false) := by
 refine returnsInHanded_of_change_sized (C := Try.checked) own started (by kernel_rfl) Try.func3
  (ChangeSpec.witness6 (enc := enc) (C := Try.checked) false ⟨#[], #[.slice none 0 0, .slice none 0 0], []⟩ 8 (by kernel_rfl) (by kernel_rfl) (by kernel_rfl) (by kernel_rfl)) ?_
 intro W base args ds gs before hval0 hW hcnd hsz _
 have hval : ∀ (j : Nat) t v, Try.f3.params[j]? = some t -> args[j]? = some v -> Value.okWide Try.prog W .any base t v := hval0
 have hW' := hW
 obtain ⟨p, q, hA0, hV, rfl, hfz, hnd⟩ := hW
 have hA : DataW.TrodAll enc Try.prog W 0 (fun _ => true) true Try.f3.params.toList args.toList ds p := hA0
 have hsz' : (DataW.weightsEach Try.prog (Try.f3.params.toList ++ Rows.differDistancesSpec.plain.varTypes Try.prog) (ds ++ gs)).all (· <= reachBytes) = true := hsz
 rw [Try.params3] at hA hval hsz'
 obtain ⟨v0, vs0, d0, ds0, p0, q0, hargs, rfl, rfl, h0, r0⟩ := trodAll_cons hA
 obtain ⟨v1, vs1, d1, ds1, p1, q1, rfl, rfl, rfl, h1, r1⟩ := trodAll_cons r0
 obtain ⟨rfl, rfl, rfl⟩ := trodAll_nil r1
 obtain rfl : args = #[v0, v1] := by cases args; simp_all
 obtain ⟨rfl, rfl⟩ := trodVars_none hV
 obtain ⟨a0, n0, c0, rfl, _⟩ := okWide_slice Try.underlying22 (hval 0 22 v0 rfl rfl)
 obtain ⟨a1, n1, c1, rfl, _⟩ := okWide_slice Try.underlying22 (hval 1 22 v1 rfl rfl)
 have k1 := h0
 have k2 := h1
 have lt1 : ∀ x ∈ p0, x.block < W.heap.size := by obtain ⟨m, hm⟩ := k1; exact DataW.trod_lt m _ _ _ hm
 have lt2 : ∀ x ∈ p1, x.block < W.heap.size := by obtain ⟨m, hm⟩ := k2; exact DataW.trod_lt m _ _ _ hm
 obtain ⟨fuel, hf⟩ := h0
 obtain ⟨fuel2, hf2⟩ := h1
 have hw : Wt 22 d0 := wt_each (ts := [22, 22] ++ Rows.differDistancesSpec.plain.varTypes Try.prog) (ds := [d0, d1] ++ []) (fun y hy => by simpa using List.all_eq_true.1 hsz' y hy) (j := 0) rfl rfl
 have hw2 : Wt 22 d1 := wt_each (ts := [22, 22] ++ Rows.differDistancesSpec.plain.varTypes Try.prog) (ds := [d0, d1] ++ []) (fun y hy => by simpa using List.all_eq_true.1 hsz' y hy) (j := 1) rfl rfl
 obtain ⟨N, L, rfl, ha, la⟩ := forest_of (by simpa [Value.cells] using hf) hw
 obtain ⟨N2, L2, rfl, hb, lb⟩ := forest_of (by simpa [Value.cells] using hf2) hw2
 clear hA0 hval0
 refine (distances_walk N N2 W a0 a1 L L2 c0 c1 ha hb la lb).mono fun e W' ⟨he, bel⟩ => ?_
 subst he
 exact ⟨_, rfl, _, _, _, [], _, [], hW', trodAll_mk1 (shut_bool Try.underlying4 _), (trodAll_cons_mk (Below.trod laidOut (by kernel_rfl) (of_decide_eq_true (by kernel_rfl)) k1 bel lt1) (trodAll_cons_mk (Below.trod laidOut (by kernel_rfl) (of_decide_eq_true (by kernel_rfl)) k2 bel lt2) trodAll_mk0)), rfl, bel.frame _, fun h => by cases h⟩
theorem over : Rows.differDistancesRow.holds Try.pinned (OpenSpec.ofChange Rows.differDistancesSpec) :=
 OpenClaim.holds_of_wide 3 Try.f3 rfl rfl rfl rfl rfl rfl rfl ⟨rfl, rfl, rfl, rfl, rfl⟩ rfl rfl rfl rfl rfl (by kernel_rfl) Try.func3 (by kernel_rfl)
  (of_decide_eq_true (by kernel_rfl)) (by unfold Func.isWrapper; first | (rw [if_pos (by decide +kernel)]; kernel_rfl) | (rw [if_neg (by decide +kernel)]; exact ⟨rfl, rfl⟩))
  (fun os started H enc _ => lifted os started H enc)
end Go.Proofs.Ytmapmkogjhinmaa.differDistances
namespace Go.Proofs.Ytmapmkogjhinmaa
theorem differDistances_holds : Rows.DifferDistancesSaid := differDistances.over
#print axioms differDistances_holds
end Go.Proofs.Ytmapmkogjhinmaa
