/- Proved: for every list of acts, espalierlaw07.OrderedActs answers true: whatever is put in and dropped, every answer of the list is the document's, and it holds the same in the same order; no condition. -/
import Derived.Test.YtiggpbjgnododaaRows
import Derived.Test.YtiggpbjgnododaaTac
import Derived.WalkKit
import Derived.ProofKit
import Derived.OpenShut
import Derived.ShutString
import Derived.ChangeOld
import Derived.Below
import Derived.SizedLaws
import Derived.Deep.Slices
namespace Go.Proofs.Ytiggpbjgnododaa.orderedActs
open Go.ChangeShapes Go.WideShapes Go.ChangeAt Go.RowKit Go.Deep
open Go.ChangeMaps (open_string shut_string)
set_option linter.unusedVariables false

theorem own : ownKnob Try.prog.godebug = none := by kernel_rfl
theorem laidOut : laidOutB Try.prog = true := by kernel_rfl
theorem cells36 : Try.prog.cellsOf 36 = 4 := by kernel_rfl
theorem bytes36 : Try.prog.bytesOf 36 = 32 := by kernel_rfl


set_option maxRecDepth 100000 in
/-- A slice of acts, read as data, is a slice of acts. -/
theorem isActs_of {H : Type} {enc : TypeId × Value → H} {W : World} {base : Nat} {sp : Nat → Bool} {held : Bool} {fuel : Nat} {a : Option Addr} {len cap : Nat} {x : DataW H × List MemPlace}
    (h : DataW.trod enc Try.prog W base sp held fuel 22 [.slice a len cap] = some x) (hsp : ∀ b, sp b = true) :
    T.IsActs W a len ∧ ((len = 0 ∧ x.1 = .nil) ∨ ∃ es rest, x.1 = .slice es rest ∧ es.length = len) := by
  rcases open_slice Try.underlying22 h with ⟨hcs, hx⟩ | ⟨ad, l, c, m, n, D, Pl, hcs, hb, hl, hm, hmm, hx, hel⟩
  · simp at hcs
    obtain ⟨rfl, rfl, rfl⟩ := hcs
    exact ⟨fun i hi => by omega, .inl ⟨rfl, by rw [hx]⟩⟩
  · simp at hcs
    obtain ⟨rfl, rfl, rfl⟩ := hcs
    rw [hsp, if_pos rfl] at hmm
    subst hmm
    refine ⟨fun i hi => ?_, .inr ⟨_, _, by rw [hx], by simp⟩⟩
    obtain ⟨cs', h1, h2⟩ := hel i (by omega)
    rw [cells36] at h1
    obtain ⟨xs, n', _, _, h3, h4, h5⟩ := DataW.trod_struct Try.underlying36 h2
    rw [cells36] at h3
    have c3 : Try.prog.cellsOf 3 = 1 := by kernel_rfl
    have c28 : Try.prog.cellsOf 28 = 2 := by kernel_rfl
    have x3 : xs.length = 3 := h4
    have g0 : DataW.trod enc Try.prog W base sp held n' 3 ((cs'.drop 0).take (Try.prog.cellsOf 3)) = xs[0]? := h5 0 _ rfl
    have g1 : DataW.trod enc Try.prog W base sp held n' 3 ((cs'.drop 1).take (Try.prog.cellsOf 3)) = xs[1]? := h5 1 _ rfl
    have g2 : DataW.trod enc Try.prog W base sp held n' 28 ((cs'.drop 2).take (Try.prog.cellsOf 28)) = xs[2]? := h5 2 _ rfl
    rw [c3, List.getElem?_eq_getElem (by omega)] at g0 g1
    rw [c28, List.getElem?_eq_getElem (by omega)] at g2
    obtain ⟨k0, e0, _, _⟩ := DataW.trod_int Try.underlying3 g0
    obtain ⟨k1, e1, _, _⟩ := DataW.trod_int Try.underlying3 g1
    obtain ⟨ys, m', _, _, i3, i4, i5⟩ := DataW.trod_struct Try.underlying28 g2
    have y2 : ys.length = 2 := i4
    have f0 : DataW.trod enc Try.prog W base sp held m' 3 ((((cs'.drop 2).take 2).drop 0).take (Try.prog.cellsOf 3)) = ys[0]? := i5 0 _ rfl
    have f1 : DataW.trod enc Try.prog W base sp held m' 3 ((((cs'.drop 2).take 2).drop 1).take (Try.prog.cellsOf 3)) = ys[1]? := i5 1 _ rfl
    rw [c3, List.getElem?_eq_getElem (by omega)] at f0 f1
    obtain ⟨k2, e2, _, _⟩ := DataW.trod_int Try.underlying3 f0
    obtain ⟨k3, e3, _, _⟩ := DataW.trod_int Try.underlying3 f1
    obtain ⟨q0, q1, q2, q3, rfl⟩ : ∃ q0 q1 q2 q3, cs' = [q0, q1, q2, q3] := by
      match cs', h3 with
      | [q0, q1, q2, q3], _ => exact ⟨q0, q1, q2, q3, rfl⟩
    simp at e0 e1 e2 e3
    subst e0 e1 e2 e3
    obtain ⟨_, _, hcell⟩ := World.cells?_some h1
    obtain ⟨b, off, spot⟩ := ad
    have hspot : spot = none := by
      obtain ⟨cs0, z1, _⟩ := hel 0 (by omega)
      rw [cells36] at z1
      obtain ⟨_, z2, z3⟩ := World.cells?_some z1
      have z4 := z3 0 (by omega)
      rw [List.getElem?_eq_getElem (by omega)] at z4
      simpa [Addr.add] using World.cell?_spot z4
    subst hspot
    have r0 := hcell 0 (by omega)
    have r1 := hcell 1 (by omega)
    have r2 := hcell 2 (by omega)
    have r3 := hcell 3 (by omega)
    rw [addr_add, addr_add] at r0 r1 r2 r3
    simp only [Nat.add_zero] at r0
    exact ⟨b, off, k0, k1, k2, k3, rfl, World.block_lt_of_cell? W _ r0, r0, r1, r2, r3⟩

theorem walk (a : Option Addr) (len cap : Nat) (w : World) (h : T.IsActs w a len) (hl : len ≤ 4398046511104) :
    Calls Try.prog 3 #[.slice a len cap] w fun e w' => e = .returned (.bool true) ∧ Below w.heap.size w w' := T.acts_walk a len cap w h hl

set_option maxRecDepth 100000 in
theorem lifted (os : Os) (started : os.Started) (H : Type) (enc : TypeId × Value → H) :
    ReturnsInHanded {} Try.checked os 3 .any (Rows.orderedActsSpec.pre6 enc Try.prog Try.f3 Rows.orderedActsRow.domain false) (Rows.orderedActsSpec.post enc Try.prog Try.f3 false true false false) := by
  refine returnsInHanded_of_change_sized (C := Try.checked) own started (by kernel_rfl) Try.func3
    (ChangeSpec.witness6 (enc := enc) (C := Try.checked) false ⟨#[], #[.slice none 0 0], []⟩ 8 (by kernel_rfl) (by kernel_rfl) (by kernel_rfl) (by kernel_rfl)) ?_
  intro W base args ds gs before hval0 hW hcnd hsz _
  have hval : ∀ (j : Nat) t v, Try.f3.params[j]? = some t → args[j]? = some v → Value.okWide Try.prog W .any base t v := hval0
  have hW' := hW
  obtain ⟨p, q, hA0, hV, rfl, hfz, hnd⟩ := hW
  have hA : DataW.TrodAll enc Try.prog W 0 (fun _ => true) true Try.f3.params.toList args.toList ds p := hA0
  have hsz' : (DataW.weightsEach Try.prog (Try.f3.params.toList ++ Rows.orderedActsSpec.plain.varTypes Try.prog) (ds ++ gs)).all (· ≤ reachBytes) = true := hsz
  rw [Try.params3] at hA hval hsz'
  obtain ⟨v0, vs0, d0, ds0, p0, q0, hargs, rfl, rfl, h0, r0⟩ := trodAll_cons hA
  obtain ⟨rfl, rfl, rfl⟩ := trodAll_nil r0
  obtain rfl : args = #[v0] := by cases args; simp_all
  obtain ⟨rfl, rfl⟩ := trodVars_none hV
  obtain ⟨a1, len1, cap1, rfl⟩ := okWide_slice Try.underlying22 (hval 0 22 v0 rfl rfl)
  have k1 := h0
  have lt1 : ∀ x ∈ p0, x.block < W.heap.size := by obtain ⟨m, hm⟩ := k1; exact DataW.trod_lt m _ _ _ hm
  obtain ⟨fuel, hf⟩ := h0
  have hacts := isActs_of (by simpa [Value.cells] using hf) (fun _ => rfl)
  have hlen : len1 ≤ 4398046511104 := by
    rcases hacts.2 with ⟨e, _⟩ | ⟨es, rest, e, he⟩
    · omega
    · have e' : d0 = .slice es rest := e
      subst e'
      have hb := sized_slice hsz' (j := 0) (t := 22) (e := 36) rfl rfl Try.underlying22
      rw [bytes36] at hb
      unfold reachBytes at hb
      omega
  clear hA0 hval0
  refine (walk a1 len1 cap1 W hacts.1 hlen).mono fun e W' ⟨he, bel⟩ => ?_
  subst he
  exact ⟨_, rfl, _, _, _, [], _, [], hW', trodAll_mk1 (shut_bool Try.underlying4 _), (trodAll_cons_mk (Below.trod laidOut (by kernel_rfl) (of_decide_eq_true (by kernel_rfl)) k1 bel lt1) trodAll_mk0), rfl, bel.frame _, fun h => by cases h⟩

theorem over : Rows.orderedActsRow.holds Try.pinned (OpenSpec.ofChange Rows.orderedActsSpec) :=
  OpenClaim.holds_of_wide 3 Try.f3 rfl rfl rfl rfl rfl rfl rfl ⟨rfl, rfl, rfl, rfl, rfl⟩ rfl rfl rfl rfl rfl (by kernel_rfl) Try.func3 (by kernel_rfl)
    (of_decide_eq_true (by kernel_rfl)) (by unfold Func.isWrapper; first | (rw [if_pos (by decide +kernel)]; kernel_rfl) | (rw [if_neg (by decide +kernel)]; exact ⟨rfl, rfl⟩))
    (fun os started H enc _ => lifted os started H enc)

end Go.Proofs.Ytiggpbjgnododaa.orderedActs
namespace Go.Proofs.Ytiggpbjgnododaa

theorem orderedActs_holds : Rows.OrderedActsSaid := orderedActs.over
#print axioms orderedActs_holds

end Go.Proofs.Ytiggpbjgnododaa
