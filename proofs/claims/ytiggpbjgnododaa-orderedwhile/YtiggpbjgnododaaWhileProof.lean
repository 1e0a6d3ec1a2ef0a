/- Proved: for every two lists of acts, espalierlaw07.OrderedWhile answers true: a list that is changed while it is ranged over goes on with what it held when the range began, and every change is the document's; no condition. -/
import Derived.Test.YtiggpbjgnododaaActsProof
import Derived.Test.YtiggpbjgnododaaTww
namespace Go.Proofs.Ytiggpbjgnododaa.orderedWhile
open Go.ChangeShapes Go.WideShapes Go.ChangeAt Go.RowKit Go.Deep
set_option linter.unusedVariables false

theorem own : ownKnob Try.prog.godebug = none := by kernel_rfl
theorem laidOut : laidOutB Try.prog = true := by kernel_rfl

set_option maxRecDepth 100000 in
theorem lifted (os : Os) (started : os.Started) (H : Type) (enc : TypeId × Value → H) :
    ReturnsInHanded {} Try.checked os 4 .any (Rows.orderedWhileSpec.pre6 enc Try.prog Try.f4 Rows.orderedWhileRow.domain false) (Rows.orderedWhileSpec.post enc Try.prog Try.f4 false true false false) := by
  refine returnsInHanded_of_change_sized (C := Try.checked) own started (by kernel_rfl) Try.func4
    (ChangeSpec.witness6 (enc := enc) (C := Try.checked) false ⟨#[], #[.slice none 0 0, .slice none 0 0], []⟩ 8 (by kernel_rfl) (by kernel_rfl) (by kernel_rfl) (by kernel_rfl)) ?_
  intro W base args ds gs before hval0 hW hcnd hsz _
  have hval : ∀ (j : Nat) t v, Try.f4.params[j]? = some t → args[j]? = some v → Value.okWide Try.prog W .any base t v := hval0
  have hW' := hW
  obtain ⟨p, q, hA0, hV, rfl, hfz, hnd⟩ := hW
  have hA : DataW.TrodAll enc Try.prog W 0 (fun _ => true) true Try.f4.params.toList args.toList ds p := hA0
  have hsz' : (DataW.weightsEach Try.prog (Try.f4.params.toList ++ Rows.orderedWhileSpec.plain.varTypes Try.prog) (ds ++ gs)).all (· ≤ reachBytes) = true := hsz
  rw [Try.params4] at hA hval hsz'
  obtain ⟨v0, vs0, d0, ds0, p0, q0, hargs, rfl, rfl, h0, r0⟩ := trodAll_cons hA
  obtain ⟨v1, vs1, d1, ds1, p1, q1, rfl, rfl, rfl, h1, r1⟩ := trodAll_cons r0
  obtain ⟨rfl, rfl, rfl⟩ := trodAll_nil r1
  obtain rfl : args = #[v0, v1] := by cases args; simp_all
  obtain ⟨rfl, rfl⟩ := trodVars_none hV
  obtain ⟨a0, len0, cap0, rfl⟩ := okWide_slice Try.underlying22 (hval 0 22 v0 rfl rfl)
  obtain ⟨a1, len1, cap1, rfl⟩ := okWide_slice Try.underlying22 (hval 1 22 v1 rfl rfl)
  have k0 := h0
  have k1 := h1
  have lt0 : ∀ x ∈ p0, x.block < W.heap.size := by obtain ⟨m, hm⟩ := k0; exact DataW.trod_lt m _ _ _ hm
  have lt1 : ∀ x ∈ p1, x.block < W.heap.size := by obtain ⟨m, hm⟩ := k1; exact DataW.trod_lt m _ _ _ hm
  obtain ⟨fuel0, hf0⟩ := h0
  obtain ⟨fuel1, hf1⟩ := h1
  have hacts0 := orderedActs.isActs_of (by simpa [Value.cells] using hf0) (fun _ => rfl)
  have hacts1 := orderedActs.isActs_of (by simpa [Value.cells] using hf1) (fun _ => rfl)
  have hlen0 : len0 ≤ 4398046511104 := by
    rcases hacts0.2 with ⟨e, _⟩ | ⟨es, rest, e, he⟩
    · omega
    · have e' : d0 = .slice es rest := e
      subst e'
      have hb := sized_slice hsz' (j := 0) (t := 22) (e := 36) rfl rfl Try.underlying22
      rw [orderedActs.bytes36] at hb
      unfold reachBytes at hb
      omega
  have hlen1 : len1 ≤ 4398046511104 := by
    rcases hacts1.2 with ⟨e, _⟩ | ⟨es, rest, e, he⟩
    · omega
    · have e' : d1 = .slice es rest := e
      subst e'
      have hb := sized_slice hsz' (j := 1) (t := 22) (e := 36) rfl rfl Try.underlying22
      rw [orderedActs.bytes36] at hb
      unfold reachBytes at hb
      omega
  clear hA0 hval0
  refine (T.while_walk a0 len0 cap0 a1 len1 cap1 W hacts0.1 hacts1.1 hlen0 hlen1).mono fun e W' ⟨he, bel⟩ => ?_
  subst he
  exact ⟨_, rfl, _, _, _, [], _, [], hW', trodAll_mk1 (shut_bool Try.underlying4 _), (trodAll_cons_mk (Below.trod laidOut (by kernel_rfl) (of_decide_eq_true (by kernel_rfl)) k0 bel lt0) (trodAll_cons_mk (Below.trod laidOut (by kernel_rfl) (of_decide_eq_true (by kernel_rfl)) k1 bel lt1) trodAll_mk0)), rfl, bel.frame _, fun h => by cases h⟩

theorem over : Rows.orderedWhileRow.holds Try.pinned (OpenSpec.ofChange Rows.orderedWhileSpec) :=
  OpenClaim.holds_of_wide 4 Try.f4 rfl rfl rfl rfl rfl rfl rfl ⟨rfl, rfl, rfl, rfl, rfl⟩ rfl rfl rfl rfl rfl (by kernel_rfl) Try.func4 (by kernel_rfl)
    (of_decide_eq_true (by kernel_rfl)) (by unfold Func.isWrapper; first | (rw [if_pos (by decide +kernel)]; kernel_rfl) | (rw [if_neg (by decide +kernel)]; exact ⟨rfl, rfl⟩))
    (fun os started H enc _ => lifted os started H enc)

end Go.Proofs.Ytiggpbjgnododaa.orderedWhile
namespace Go.Proofs.Ytiggpbjgnododaa

theorem orderedWhile_holds : Rows.OrderedWhileSaid := orderedWhile.over
#print axioms orderedWhile_holds

end Go.Proofs.Ytiggpbjgnododaa
