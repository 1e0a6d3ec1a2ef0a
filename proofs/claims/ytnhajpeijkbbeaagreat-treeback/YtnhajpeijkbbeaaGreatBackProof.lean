/- Proved: for any list of acts, any tree and any act espalierlaw03.TreeBack answers true: a tree that is put in reads as it was, under itself it is not moved, moved away and back all is as ahead, taken away none of its handles is live, or it is refused and all tells as before; the arguments read as they did; no condition. -/
import Derived.Test.YtnhajpeijkbbeaaGreatB28
import Derived.Test.YtnhajpeijkbbeaaGreatB29
import Derived.ShutString
import Derived.Below
namespace Go.Proofs.YtnhajpeijkbbeaaGreat.treeBack
open Go.ChangeShapes Go.WideShapes Go.ChangeAt Go.RowKit Go.Deep
set_option linter.unusedVariables false
set_option linter.unusedSimpArgs false
set_option maxRecDepth 100000
theorem own : ownKnob Tryz.prog.godebug = none := by kernel_rfl
theorem laidOut : laidOutB Tryz.prog = true := by kernel_rfl
theorem lifted (os : Os) (started : os.Started) (H : Type) (enc : TypeId × Value -> H) :
  ReturnsInHanded {} Tryz.checked os 5 .any (Rows.treeBackSpec.pre6 enc Tryz.prog Tryz.f5 Rows.treeBackRow.domain false) (Rows.treeBackSpec.post enc Tryz.prog Tryz.f5 false true false false) := by
 refine returnsInHanded_of_change_sized (C := Tryz.checked) own started (by kernel_rfl) Tryz.func5
  (ChangeSpec.witness6 (enc := enc) (C := Tryz.checked) false ⟨#[], #[.slice none 0 0, .agg #[.int .i64 0, .string ⟨#[]⟩, .slice none 0 0, .string ⟨#[]⟩, .slice none 0 0], .agg #[.int .i64 0, .int .i64 0, .bool false, .int .u64 0, .int .u64 0, .string ⟨#[]⟩, .string ⟨#[]⟩, .int .i64 0, .string ⟨#[]⟩, .slice none 0 0, .string ⟨#[]⟩, .slice none 0 0]], []⟩ 8 (by kernel_rfl) (by kernel_rfl) (by kernel_rfl) (by kernel_rfl)) ?_
 intro W base args ds gs before hval0 hW hcnd hsz _
 have hval : ∀ (j : Nat) t v, Tryz.f5.params[j]? = some t -> args[j]? = some v -> Value.okWide Tryz.prog W .any base t v := hval0
 have hW' := hW
 obtain ⟨p, q, hA0, hV, rfl, hfz, hnd⟩ := hW
 have hA : DataW.TrodAll enc Tryz.prog W 0 (fun _ => true) true Tryz.f5.params.toList args.toList ds p := hA0
 have hsz' : (DataW.weightsEach Tryz.prog (Tryz.f5.params.toList ++ Rows.treeBackSpec.plain.varTypes Tryz.prog) (ds ++ gs)).all (· <= reachBytes) = true := hsz
 rw [Tryz.params5] at hA hval hsz'
 obtain ⟨v0, vs0, d0, ds0, p0, q0, hargs, rfl, rfl, h0, r0⟩ := trodAll_cons hA
 obtain ⟨v1, vs1, d1, ds1, p1, q1, rfl, rfl, rfl, h1, r1⟩ := trodAll_cons r0
 obtain ⟨v2, vs2, d2, ds2, p2, q2, rfl, rfl, rfl, h2, r2⟩ := trodAll_cons r1
 obtain ⟨rfl, rfl, rfl⟩ := trodAll_nil r2
 obtain rfl : args = #[v0, v1, v2] := by cases args; simp_all
 obtain ⟨rfl, rfl⟩ := trodVars_none hV
 obtain ⟨a0, n0, c0, rfl, _⟩ := okWide_slice Tryz.underlying26 (hval 0 26 v0 rfl rfl)
 obtain ⟨xs, rfl, hxs⟩ := okWide_struct Tryz.underlying46 (hval 1 46 v1 rfl rfl)
 obtain ⟨ys, rfl, hys⟩ := okWide_struct Tryz.underlying48 (hval 2 48 v2 rfl rfl)
 have k1 := h0
 have k2 := h1
 have k3 := h2
 have lt1 : ∀ x ∈ p0, x.block < W.heap.size := by obtain ⟨m, hm⟩ := k1; exact DataW.trod_lt m _ _ _ hm
 have lt2 : ∀ x ∈ p1, x.block < W.heap.size := by obtain ⟨m, hm⟩ := k2; exact DataW.trod_lt m _ _ _ hm
 have lt3 : ∀ x ∈ p2, x.block < W.heap.size := by obtain ⟨m, hm⟩ := k3; exact DataW.trod_lt m _ _ _ hm
 obtain ⟨fuel, hf⟩ := h0
 obtain ⟨fuel2, hf2⟩ := h1
 obtain ⟨fuel3, hf3⟩ := h2
 have hwe : ∀ y ∈ DataW.weightsEach Tryz.prog ([26, 46, 48] ++ Rows.treeBackSpec.plain.varTypes Tryz.prog) ([d0, d1, d2] ++ []), y <= reachBytes := fun y hy => by simpa using List.all_eq_true.1 hsz' y hy
 have hw : Wt 26 d0 := wt_each hwe (j := 0) rfl rfl
 have hw2 : Wt 46 d1 := wt_each hwe (j := 1) rfl rfl
 have hw3 : Wt 48 d2 := wt_each hwe (j := 2) rfl rfl
 obtain ⟨ha, la⟩ := acts_of (by simpa [Value.cells] using hf) hw
 obtain ⟨t, ht⟩ := tree_of fuel2 fuel2 _ _ (Nat.le_refl _) (by simpa [Value.cells] using hf2) hw2
 obtain ⟨k, wh, how, n, a, nm, vl, xk, xn, xa, xal, xac, xt, xka, xkl, xkc, hn, hal, hys2, -⟩ := act_form (by simpa [Value.cells] using hf3) hw3 (by have := hys; rw [cells48] at this; simpa using this)
 have hcs : xs.toList.toArray = xs := by simp
 rw [hcs] at ht
 obtain rfl : ys = actv k wh how n a nm vl xk xn xa xal xac xt xka xkl xkc := by
  have : ys.toList.toArray = ys := by simp
  rw [<- this, hys2]
 obtain ⟨uk, un, ua, ual, uac, ut, uka, ukl, ukc, rfl⟩ := ht.form
 clear hA0 hval0
 refine (back_walk W a0 n0 c0 ha la uk un ua ual uac ut uka ukl ukc fuel2 t ht k wh how n a nm vl xk xn xa xal xac xt xka xkl xkc hn hal).mono fun e W' ⟨he, bel⟩ => ?_
 subst he
 exact ⟨_, rfl, _, _, _, [], _, [], hW', trodAll_mk1 (shut_bool Tryz.underlying4 _), (trodAll_cons_mk (Below.trod laidOut (by kernel_rfl) (of_decide_eq_true (by kernel_rfl)) k1 bel lt1) (trodAll_cons_mk (Below.trod laidOut (by kernel_rfl) (of_decide_eq_true (by kernel_rfl)) k2 bel lt2) (trodAll_cons_mk (Below.trod laidOut (by kernel_rfl) (of_decide_eq_true (by kernel_rfl)) k3 bel lt3) trodAll_mk0))), rfl, bel.frame _, fun h => by cases h⟩
theorem over : Rows.treeBackRow.holds Tryz.pinned (OpenSpec.ofChange Rows.treeBackSpec) :=
 OpenClaim.holds_of_wide 5 Tryz.f5 rfl rfl rfl rfl rfl rfl rfl ⟨rfl, rfl, rfl, rfl, rfl⟩ rfl rfl rfl rfl rfl (by kernel_rfl) Tryz.func5 (by kernel_rfl)
  (of_decide_eq_true (by kernel_rfl)) (by unfold Func.isWrapper; first | (rw [if_pos (by decide +kernel)]; kernel_rfl) | (rw [if_neg (by decide +kernel)]; exact ⟨rfl, rfl⟩))
  (fun os started H enc _ => lifted os started H enc)
end Go.Proofs.YtnhajpeijkbbeaaGreat.treeBack
namespace Go.Proofs.YtnhajpeijkbbeaaGreat
theorem treeBack_holds : Rows.TreeBackSaid := treeBack.over
#print axioms treeBack_holds
end Go.Proofs.YtnhajpeijkbbeaaGreat
