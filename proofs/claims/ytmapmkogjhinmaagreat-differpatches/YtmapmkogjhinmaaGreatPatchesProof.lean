/- Proved: for any forest and any list of edits espalierlaw18.DifferPatches answers true: Patch of the program answers the forest, the number and the error that the document's own Patch answers, and neither the forest nor the edits that were handed in are changed; the arguments read as they did; no condition. -/
import Derived.Test.YtmapmkogjhinmaaGreatA20
import Derived.Test.YtmapmkogjhinmaaGreatA27
import Derived.ShutString
import Derived.Below
namespace Go.Proofs.YtmapmkogjhinmaaGreat.differPatches
open Go.ChangeShapes Go.WideShapes Go.ChangeAt Go.RowKit Go.Deep
set_option linter.unusedVariables false
set_option linter.unusedSimpArgs false
set_option maxRecDepth 100000
theorem own : ownKnob Tryz.prog.godebug = none := by kernel_rfl
theorem laidOut : laidOutB Tryz.prog = true := by kernel_rfl
theorem lifted (os : Os) (started : os.Started) (H : Type) (enc : TypeId × Value -> H) :
  ReturnsInHanded {} Tryz.checked os 3 .any (Rows.differPatchesSpec.pre6 enc Tryz.prog Tryz.f3 Rows.differPatchesRow.domain false) (Rows.differPatchesSpec.post enc Tryz.prog Tryz.f3 false true false false) := by
 refine returnsInHanded_of_change_sized (C := Tryz.checked) own started (by kernel_rfl) Tryz.func3
  (ChangeSpec.witness6 (enc := enc) (C := Tryz.checked) false ⟨#[], #[.slice none 0 0, .slice none 0 0], []⟩ 8 (by kernel_rfl) (by kernel_rfl) (by kernel_rfl) (by kernel_rfl)) ?_
 intro W base args ds gs before hval0 hW hcnd hsz _
 have hval : ∀ (j : Nat) t v, Tryz.f3.params[j]? = some t -> args[j]? = some v -> Value.okWide Tryz.prog W .any base t v := hval0
 have hW' := hW
 obtain ⟨p, q, hA0, hV, rfl, hfz, hnd⟩ := hW
 have hA : DataW.TrodAll enc Tryz.prog W 0 (fun _ => true) true Tryz.f3.params.toList args.toList ds p := hA0
 have hsz' : (DataW.weightsEach Tryz.prog (Tryz.f3.params.toList ++ Rows.differPatchesSpec.plain.varTypes Tryz.prog) (ds ++ gs)).all (· <= reachBytes) = true := hsz
 rw [Tryz.params3] at hA hval hsz'
 obtain ⟨v0, vs0, d0, ds0, p0, q0, hargs, rfl, rfl, h0, r0⟩ := trodAll_cons hA
 obtain ⟨v1, vs1, d1, ds1, p1, q1, rfl, rfl, rfl, h1, r1⟩ := trodAll_cons r0
 obtain ⟨rfl, rfl, rfl⟩ := trodAll_nil r1
 obtain rfl : args = #[v0, v1] := by cases args; simp_all
 obtain ⟨rfl, rfl⟩ := trodVars_none hV
 obtain ⟨a0, n0, c0, rfl, _⟩ := okWide_slice Tryz.underlying22 (hval 0 22 v0 rfl rfl)
 obtain ⟨a1, n1, c1, rfl, _⟩ := okWide_slice Tryz.underlying23 (hval 1 23 v1 rfl rfl)
 have k1 := h0
 have k2 := h1
 have lt1 : ∀ x ∈ p0, x.block < W.heap.size := by obtain ⟨m, hm⟩ := k1; exact DataW.trod_lt m _ _ _ hm
 have lt2 : ∀ x ∈ p1, x.block < W.heap.size := by obtain ⟨m, hm⟩ := k2; exact DataW.trod_lt m _ _ _ hm
 obtain ⟨fuel, hf⟩ := h0
 obtain ⟨fuel2, hf2⟩ := h1
 have hw : Wt 22 d0 := wt_each (ts := [22, 23] ++ Rows.differPatchesSpec.plain.varTypes Tryz.prog) (ds := [d0, d1] ++ []) (fun y hy => by simpa using List.all_eq_true.1 hsz' y hy) (j := 0) rfl rfl
 have hw2 : Wt 23 d1 := wt_each (ts := [22, 23] ++ Rows.differPatchesSpec.plain.varTypes Tryz.prog) (ds := [d0, d1] ++ []) (fun y hy => by simpa using List.all_eq_true.1 hsz' y hy) (j := 1) rfl rfl
 obtain ⟨N, L, rfl, ha, la⟩ := forest_of (by simpa [Value.cells] using hf) hw
 obtain ⟨l, rfl, hb, lb⟩ := ops_of (by simpa [Value.cells] using hf2) hw2
 clear hA0 hval0
 refine (patches_walk N W a0 L c0 a1 l c1 ha la hb lb).mono fun e W' ⟨he, bel⟩ => ?_
 subst he
 exact ⟨_, rfl, _, _, _, [], _, [], hW', trodAll_mk1 (shut_bool Tryz.underlying4 _), (trodAll_cons_mk (Below.trod laidOut (by kernel_rfl) (of_decide_eq_true (by kernel_rfl)) k1 bel lt1) (trodAll_cons_mk (Below.trod laidOut (by kernel_rfl) (of_decide_eq_true (by kernel_rfl)) k2 bel lt2) trodAll_mk0)), rfl, bel.frame _, fun h => by cases h⟩
theorem over : Rows.differPatchesRow.holds Tryz.pinned (OpenSpec.ofChange Rows.differPatchesSpec) :=
 OpenClaim.holds_of_wide 3 Tryz.f3 rfl rfl rfl rfl rfl rfl rfl ⟨rfl, rfl, rfl, rfl, rfl⟩ rfl rfl rfl rfl rfl (by kernel_rfl) Tryz.func3 (by kernel_rfl)
  (of_decide_eq_true (by kernel_rfl)) (by unfold Func.isWrapper; first | (rw [if_pos (by decide +kernel)]; kernel_rfl) | (rw [if_neg (by decide +kernel)]; exact ⟨rfl, rfl⟩))
  (fun os started H enc _ => lifted os started H enc)
end Go.Proofs.YtmapmkogjhinmaaGreat.differPatches
namespace Go.Proofs.YtmapmkogjhinmaaGreat
theorem differPatches_holds : Rows.DifferPatchesSaid := differPatches.over
#print axioms differPatches_holds
end Go.Proofs.YtmapmkogjhinmaaGreat
