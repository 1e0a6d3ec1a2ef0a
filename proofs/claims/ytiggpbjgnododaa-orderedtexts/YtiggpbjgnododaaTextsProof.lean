/- Proved: for every list of texts, espalierlaw07.OrderedTexts answers true: a list of texts in the order of their lengths keeps the first one of each length, tells its place and lends it again; no condition. -/
import Derived.Test.YtiggpbjgnododaaRows
import Derived.Test.YtiggpbjgnododaaStw
import Derived.WalkKit
import Derived.ProofKit
import Derived.OpenShut
import Derived.ShutString
import Derived.ChangeOld
import Derived.Below
import Derived.SizedLaws
import Derived.SliceStrings
import Derived.Deep.Slices
namespace Go.Proofs.Ytiggpbjgnododaa.orderedTexts
open Go.ChangeShapes Go.WideShapes Go.ChangeAt Go.RowKit Go.Deep
open Go.ChangeMaps (open_string shut_string)
set_option linter.unusedVariables false

theorem own : ownKnob Try.prog.godebug = none := by kernel_rfl
theorem laidOut : laidOutB Try.prog = true := by kernel_rfl
theorem cells9 : Try.prog.cellsOf 9 = 1 := by kernel_rfl
theorem bytes9 : Try.prog.bytesOf 9 = 16 := by kernel_rfl

set_option maxRecDepth 100000 in
/-- A slice of texts, read as data, is a slice of texts. -/
theorem strs_of {H : Type} {enc : TypeId × Value → H} {W : World} {base : Nat} {sp : Nat → Bool} {held : Bool} {fuel : Nat} {a : Option Addr} {len cap : Nat} {x : DataW H × List MemPlace}
    (h : DataW.trod enc Try.prog W base sp held fuel 69 [.slice a len cap] = some x) (hsp : ∀ b, sp b = true) :
    ∃ l : List ByteArray, l.length = len ∧ S.Strs W a l ∧ ((len = 0 ∧ x.1 = .nil) ∨ ∃ es rest, x.1 = .slice es rest ∧ es.length = len) := by
  rcases open_slice Try.underlying69 h with ⟨hcs, hx⟩ | ⟨ad, l, c, m, n, D, Pl, hcs, hb, hl, hm, hmm, hx, hel⟩
  · simp at hcs
    obtain ⟨rfl, rfl, rfl⟩ := hcs
    exact ⟨[], rfl, fun i y hy => by simp at hy, .inl ⟨rfl, by rw [hx]⟩⟩
  · simp at hcs
    obtain ⟨rfl, rfl, rfl⟩ := hcs
    rw [hsp, if_pos rfl] at hmm
    subst hmm
    have each : ∀ i, i < len → ∃ (b off : Nat) (s : ByteArray), ad = ⟨b, off, none⟩ ∧ b < W.heap.size ∧ W.cell? ⟨b, off + i, none⟩ = some (.string s) := by
      intro i hi
      obtain ⟨cs', h1, h2⟩ := hel i (by omega)
      rw [cells9] at h1
      obtain ⟨s, e0, _, _⟩ := DataW.trod_string Try.underlying9 h2
      subst e0
      obtain ⟨_, _, hcell⟩ := World.cells?_some h1
      have r0 := hcell 0 (by omega)
      obtain ⟨b, off, spot⟩ := ad
      have hspot : spot = none := by
        obtain ⟨cs0, z1, _⟩ := hel 0 (by omega)
        rw [cells9] at z1
        obtain ⟨_, z2, z3⟩ := World.cells?_some z1
        have z4 := z3 0 (by omega)
        rw [List.getElem?_eq_getElem (by omega)] at z4
        simpa [Addr.add] using World.cell?_spot z4
      subst hspot
      rw [addr_add, addr_add] at r0
      simp at r0
      exact ⟨b, off, s, rfl, World.block_lt_of_cell? W _ r0, r0⟩
    have h0 : ∃ l : List ByteArray, l.length = len ∧ ∀ i y, l[i]? = some y → ∃ b off, ad = ⟨b, off, none⟩ ∧ b < W.heap.size ∧ W.cell? ⟨b, off + i, none⟩ = some (.string y) := by
      clear h hx hel
      have : ∀ k, k ≤ len → ∃ l : List ByteArray, l.length = k ∧ ∀ i y, l[i]? = some y → ∃ b off, ad = ⟨b, off, none⟩ ∧ b < W.heap.size ∧ W.cell? ⟨b, off + i, none⟩ = some (.string y) := by
        intro k
        induction k with
        | zero => intro _; exact ⟨[], rfl, fun i y hy => by simp at hy⟩
        | succ k ih =>
          intro hk
          obtain ⟨l, hl1, hl2⟩ := ih (by omega)
          obtain ⟨b, off, s, e, h1, h2⟩ := each k (by omega)
          refine ⟨l ++ [s], by simp [hl1], fun i y hy => ?_⟩
          by_cases hi : i < l.length
          · rw [List.getElem?_append_left hi] at hy
            exact hl2 i y hy
          · rw [List.getElem?_append_right (by omega)] at hy
            have hi0 : i - l.length = 0 := by
              have := (List.getElem?_eq_some_iff.1 hy).1
              simp at this
              omega
            rw [hi0] at hy
            simp at hy
            subst hy
            have : i = k := by omega
            subst this
            exact ⟨b, off, e, h1, h2⟩
      exact this len (Nat.le_refl _)
    obtain ⟨l, hl1, hl2⟩ := h0
    refine ⟨l, hl1, fun i y hy => ?_, .inr ⟨_, _, by rw [hx], by simp⟩⟩
    obtain ⟨b, off, e, h1, h2⟩ := hl2 i y hy
    exact ⟨b, off, by rw [e], h1, h2⟩

set_option maxRecDepth 100000 in
theorem lifted (os : Os) (started : os.Started) (H : Type) (enc : TypeId × Value → H) :
    ReturnsInHanded {} Try.checked os 7 .any (Rows.orderedTextsSpec.pre6 enc Try.prog Try.f7 Rows.orderedTextsRow.domain false) (Rows.orderedTextsSpec.post enc Try.prog Try.f7 false true false false) := by
  refine returnsInHanded_of_change_sized (C := Try.checked) own started (by kernel_rfl) Try.func7
    (ChangeSpec.witness6 (enc := enc) (C := Try.checked) false ⟨#[], #[.slice none 0 0], []⟩ 8 (by kernel_rfl) (by kernel_rfl) (by kernel_rfl) (by kernel_rfl)) ?_
  intro W base args ds gs before hval0 hW hcnd hsz _
  have hval : ∀ (j : Nat) t v, Try.f7.params[j]? = some t → args[j]? = some v → Value.okWide Try.prog W .any base t v := hval0
  have hW' := hW
  obtain ⟨p, q, hA0, hV, rfl, hfz, hnd⟩ := hW
  have hA : DataW.TrodAll enc Try.prog W 0 (fun _ => true) true Try.f7.params.toList args.toList ds p := hA0
  have hsz' : (DataW.weightsEach Try.prog (Try.f7.params.toList ++ Rows.orderedTextsSpec.plain.varTypes Try.prog) (ds ++ gs)).all (· ≤ reachBytes) = true := hsz
  rw [Try.params7] at hA hval hsz'
  obtain ⟨v0, vs0, d0, ds0, p0, q0, hargs, rfl, rfl, h0, r0⟩ := trodAll_cons hA
  obtain ⟨rfl, rfl, rfl⟩ := trodAll_nil r0
  obtain rfl : args = #[v0] := by cases args; simp_all
  obtain ⟨rfl, rfl⟩ := trodVars_none hV
  obtain ⟨a1, len1, cap1, rfl⟩ := okWide_slice Try.underlying69 (hval 0 69 v0 rfl rfl)
  have k1 := h0
  have lt1 : ∀ x ∈ p0, x.block < W.heap.size := by obtain ⟨m, hm⟩ := k1; exact DataW.trod_lt m _ _ _ hm
  obtain ⟨fuel, hf⟩ := h0
  obtain ⟨l, hl1, hl2, hl3⟩ := strs_of (by simpa [Value.cells] using hf) (fun _ => rfl)
  have hlen : len1 ≤ 8796093022208 := by
    rcases hl3 with ⟨e, _⟩ | ⟨es, rest, e, he⟩
    · omega
    · have e' : d0 = .slice es rest := e
      subst e'
      have hb := sized_slice hsz' (j := 0) (t := 69) (e := 9) rfl rfl Try.underlying69
      rw [bytes9] at hb
      unfold reachBytes at hb
      omega
  clear hA0 hval0
  subst hl1
  refine (S.texts_walk a1 cap1 l W hl2 hlen).mono fun e W' ⟨he, bel⟩ => ?_
  subst he
  exact ⟨_, rfl, _, _, _, [], _, [], hW', trodAll_mk1 (shut_bool Try.underlying4 _), (trodAll_cons_mk (Below.trod laidOut (by kernel_rfl) (of_decide_eq_true (by kernel_rfl)) k1 bel lt1) trodAll_mk0), rfl, bel.frame _, fun h => by cases h⟩

theorem over : Rows.orderedTextsRow.holds Try.pinned (OpenSpec.ofChange Rows.orderedTextsSpec) :=
  OpenClaim.holds_of_wide 7 Try.f7 rfl rfl rfl rfl rfl rfl rfl ⟨rfl, rfl, rfl, rfl, rfl⟩ rfl rfl rfl rfl rfl (by kernel_rfl) Try.func7 (by kernel_rfl)
    (of_decide_eq_true (by kernel_rfl)) (by unfold Func.isWrapper; first | (rw [if_pos (by decide +kernel)]; kernel_rfl) | (rw [if_neg (by decide +kernel)]; exact ⟨rfl, rfl⟩))
    (fun os started H enc _ => lifted os started H enc)

end Go.Proofs.Ytiggpbjgnododaa.orderedTexts
namespace Go.Proofs.Ytiggpbjgnododaa

theorem orderedTexts_holds : Rows.OrderedTextsSaid := orderedTexts.over
#print axioms orderedTexts_holds

end Go.Proofs.Ytiggpbjgnododaa
