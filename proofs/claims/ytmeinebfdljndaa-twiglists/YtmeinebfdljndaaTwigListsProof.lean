/- Proved: for any pattern, any nodes with their spans, any names and any number of the call that panics, espalierlaw12.TwigLists answers true: the program's Lists answers what the document's does, calls the function once for each node, in order, and stops at a panic; what was handed in stays; no condition. -/
import Derived.Test.YtmeinebfdljndaaRead
import Derived.Test.YtmeinebfdljndaaLaw
import Derived.ShutString
import Derived.Below
namespace Go.Proofs.Ytmeinebfdljndaa.twigLists
open Go.ChangeShapes Go.WideShapes Go.ChangeAt Go.RowKit Go.Deep
set_option linter.unusedVariables false

theorem own : ownKnob Try.prog.godebug = none := by kernel_rfl
theorem laidOut : laidOutB Try.prog = true := by kernel_rfl

set_option maxRecDepth 100000 in
theorem lifted (os : Os) (started : os.Started) (H : Type) (enc : TypeId × Value → H) :
    ReturnsInHanded {} Try.checked os 3 .any (Rows.twigListsSpec.pre6 enc Try.prog Try.f3 Rows.twigListsRow.domain false) (Rows.twigListsSpec.post enc Try.prog Try.f3 false true false false) := by
  refine returnsInHanded_of_change_sized (C := Try.checked) own started (by kernel_rfl) Try.func3
    (ChangeSpec.witness6 (enc := enc) (C := Try.checked) false ⟨#[], #[.agg #[.string ⟨#[]⟩, .bool false, .slice none 0 0], .slice none 0 0, .slice none 0 0, .int .i64 0], []⟩ 8 (by kernel_rfl) (by kernel_rfl) (by kernel_rfl) (by kernel_rfl)) ?_
  intro W base args ds gs before hval0 hW hcnd hsz _
  have hval : ∀ (j : Nat) t v, Try.f3.params[j]? = some t → args[j]? = some v → Value.okWide Try.prog W .any base t v := hval0
  have hW' := hW
  obtain ⟨p, q, hA0, hV, rfl, hfz, hnd⟩ := hW
  have hA : DataW.TrodAll enc Try.prog W 0 (fun _ => true) true Try.f3.params.toList args.toList ds p := hA0
  have hsz' : (DataW.weightsEach Try.prog (Try.f3.params.toList ++ Rows.twigListsSpec.plain.varTypes Try.prog) (ds ++ gs)).all (· ≤ reachBytes) = true := hsz
  rw [Try.params3] at hA hval hsz'
  obtain ⟨v0, vs0, d0, ds0, p0, q0, hargs, rfl, rfl, h0, r0⟩ := trodAll_cons hA
  obtain ⟨v1, vs1, d1, ds1, p1, q1, rfl, rfl, rfl, h1, r1⟩ := trodAll_cons r0
  obtain ⟨v2, vs2, d2, ds2, p2, q2, rfl, rfl, rfl, h2, r2⟩ := trodAll_cons r1
  obtain ⟨v3, vs3, d3, ds3, p3, q3, rfl, rfl, rfl, h3, r3⟩ := trodAll_cons r2
  obtain ⟨rfl, rfl, rfl⟩ := trodAll_nil r3
  obtain rfl : args = #[v0, v1, v2, v3] := by cases args; simp_all
  obtain ⟨rfl, rfl⟩ := trodVars_none hV
  obtain ⟨cs, rfl, _⟩ := okWide_struct Try.underlying24 (hval 0 24 v0 rfl rfl)
  obtain ⟨la, ll, lc, rfl⟩ := okWide_slice Try.underlying25 (hval 1 25 v1 rfl rfl)
  obtain ⟨ma, ml, mc, rfl⟩ := okWide_slice Try.underlying26 (hval 2 26 v2 rfl rfl)
  obtain ⟨pan, rfl, rfl, rfl, w3⟩ := open_int Try.underlying3 (hval 3 3 v3 rfl rfl) h3
  have k0 := h0
  have lt0 : ∀ x ∈ p0, x.block < W.heap.size := by obtain ⟨m, hm⟩ := k0; exact DataW.trod_lt m _ _ _ hm
  obtain ⟨f0, hf0⟩ := h0
  have k1 := h1
  have lt1 : ∀ x ∈ p1, x.block < W.heap.size := by obtain ⟨m, hm⟩ := k1; exact DataW.trod_lt m _ _ _ hm
  obtain ⟨f1, hf1⟩ := h1
  have k2 := h2
  have lt2 : ∀ x ∈ p2, x.block < W.heap.size := by obtain ⟨m, hm⟩ := k2; exact DataW.trod_lt m _ _ _ hm
  obtain ⟨f2, hf2⟩ := h2
  have hww := fun y hy => (by simpa using List.all_eq_true.1 hsz' y hy : y ≤ reachBytes)
  have hw0 : Wt 24 d0 := wt_each (ts := [24, 25, 26, 3] ++ Rows.twigListsSpec.plain.varTypes Try.prog) (ds := [d0, d1, d2, .lit (.int .i64 pan)] ++ []) hww (j := 0) rfl rfl
  have hw1 : Wt 25 d1 := wt_each (ts := [24, 25, 26, 3] ++ Rows.twigListsSpec.plain.varTypes Try.prog) (ds := [d0, d1, d2, .lit (.int .i64 pan)] ++ []) hww (j := 1) rfl rfl
  have hw2 : Wt 26 d2 := wt_each (ts := [24, 25, 26, 3] ++ Rows.twigListsSpec.plain.varTypes Try.prog) (ds := [d0, d1, d2, .lit (.int .i64 pan)] ++ []) hww (j := 2) rfl rfl
  obtain ⟨t, ht⟩ := pat_of f0 f0 _ _ (Nat.le_refl _) (by simpa [Value.cells] using hf0) hw0
  have ht2 : TwAt W W.heap.size f0 cs t := by simpa using ht
  obtain ⟨nm, dr, ka, kl, kc, rfl⟩ := ht2.form
  obtain ⟨N, rfl, sN, cN, hN1, vN⟩ := pls_of (by simpa [Value.cells] using hf1) hw1
  obtain ⟨A, rfl, sA, hA1⟩ := strs_of (by simpa [Value.cells] using hf2) hw2
  clear hA0 hval0
  unfold reachBytes at sN sA
  refine (law_walk W ht2 hN1 cN vN (by omega) hA1 (by omega) pan).mono fun e W' ⟨he, bel⟩ => ?_
  subst he
  exact ⟨_, rfl, _, _, _, [], _, [], hW', trodAll_mk1 (shut_bool Try.underlying4 _), (trodAll_cons_mk (Below.trod laidOut (by kernel_rfl) (of_decide_eq_true (by kernel_rfl)) k0 bel lt0) (trodAll_cons_mk (Below.trod laidOut (by kernel_rfl) (of_decide_eq_true (by kernel_rfl)) k1 bel lt1) (trodAll_cons_mk (Below.trod laidOut (by kernel_rfl) (of_decide_eq_true (by kernel_rfl)) k2 bel lt2) (trodAll_cons_mk (shut_int Try.underlying3 w3) trodAll_mk0)))), rfl, bel.frame _, fun h => by cases h⟩

theorem over : Rows.twigListsRow.holds Try.pinned (OpenSpec.ofChange Rows.twigListsSpec) :=
  OpenClaim.holds_of_wide 3 Try.f3 rfl rfl rfl rfl rfl rfl rfl ⟨rfl, rfl, rfl, rfl, rfl⟩ rfl rfl rfl rfl rfl (by kernel_rfl) Try.func3 (by kernel_rfl)
    (of_decide_eq_true (by kernel_rfl)) (by unfold Func.isWrapper; first | (rw [if_pos (by decide +kernel)]; kernel_rfl) | (rw [if_neg (by decide +kernel)]; exact ⟨rfl, rfl⟩))
    (fun os started H enc _ => lifted os started H enc)

end Go.Proofs.Ytmeinebfdljndaa.twigLists
namespace Go.Proofs.Ytmeinebfdljndaa

theorem twigLists_holds : Rows.TwigListsSaid := twigLists.over
#print axioms twigLists_holds

end Go.Proofs.Ytmeinebfdljndaa
