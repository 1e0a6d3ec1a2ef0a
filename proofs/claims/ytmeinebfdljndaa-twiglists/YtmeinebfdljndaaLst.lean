/- Lists. -/
import Derived.Test.YtmeinebfdljndaaLs2
import Derived.Test.YtmeinebfdljndaaCop
namespace Go.Proofs.Ytmeinebfdljndaa
open Go.RowKit Go.Shelf
set_option linter.unusedVariables false

set_option maxRecDepth 100000 in
set_option maxHeartbeats 2000000 in
theorem clone_any (w : World) {ad : Addr} {c : Nat} {L : List Pl} (h : PlsAt w w.heap.size (some ad) L) (hL : L.length ≤ 4096) :
    Calls Try.prog 23 #[.slice (some ad) L.length c] w fun e w' => ∃ va vc, e = .returned (.slice va L.length vc) ∧ w'.ownsRow w.heap.size 38 4 (.slice va L.length vc) L.length (plCells L) ∧ Below w.heap.size w w' := by
  have hb : Below w.heap.size w (w.alloc (.cells #[] 38)) := (Below.refl _ _).alloc (Nat.le_refl _) _
  have HN2 : Hid (∀ j u, (plCells L)[j]? = some u → ∃ ad', some ad = some ad' ∧ (w.alloc (.cells #[] 38)).cell? (ad'.add j) = some u) := pls_news h hb
  have HOW : Hid ((w.alloc (.cells #[] 38)).ownsRow w.heap.size 38 4 (.slice (some ⟨w.heap.size, 0, none⟩) 0 0) 0 []) := own_new w 38 4
  have HB : Hid (∀ va vc w3, w3.ownsRow w.heap.size 38 4 (.slice va (0 + L.length) vc) (0 + L.length) ([] ++ plCells L) → (w.alloc (.cells #[] 38)).grownBy w3 (Value.slice (some ⟨w.heap.size, 0, none⟩) 0 0).ownBlock → ∃ va' vc', Ending.returned (.slice va L.length vc) = .returned (.slice va' L.length vc') ∧ w3.ownsRow w.heap.size 38 4 (.slice va' L.length vc') L.length (plCells L) ∧ Below w.heap.size w w3) := fun va vc w3 q1 q2 => by
    rw [Nat.zero_add, List.nil_append] at q1
    exact ⟨va, vc, rfl, q1, hb.grown q2 (by simp) (fun k hk => by cases hk; exact Nat.le_refl _)⟩
  have hq1 : ∀ w, (binOp .eql 25 (.slice (some ad) L.length c) (.slice none 0 0)).run Try.prog w = .ok (.bool false) w := fun _ => by kernel_rfl
  have tok : True := trivial
  clear hb h
  go_enter Try.func23, Try.ntmps23
  go_wp2_with (at_builtin; have _t := tok; refine wpList_app (by rfl) _ _ (by rfl) Try.underlying25 info38 rfl (by decide) w.heap.size (.slice (some ⟨w.heap.size, 0, none⟩) 0 0) 0 [] (by rfl) HOW.out (some ad) L.length c (plCells L) (by rfl) (plCells_length L) HN2.out (plCells_one _) (by unfold maxLen; omega) (by omega) (by simp) ?_; intro v1 w3 hown1 hg1 _ hat1; obtain ⟨va, vc, hvv⟩ := own_slice hown1; subst hvv; have HX := HB.out va vc w3 hown1 hg1; have HX2 : Hid (∃ va' vc', Ending.returned (.slice va L.length vc) = .returned (.slice va' L.length vc') ∧ w3.ownsRow w.heap.size 38 4 (.slice va' L.length vc') L.length (plCells L) ∧ Below w.heap.size w w3) := HX; clear tok _t hown1 hg1 hat1 HX HB HOW HN2)
  go_ret
  exact HX2.out

theorem info25 : InfoOf Try.prog 25 (.slice none 0 0) 1 24 := by unfold InfoOf; kernel_rfl
theorem made_sl (n : Nat) : madeCells (Value.slice none 0 0).cells (n * 1) = slA n (fun _ => []) (fun _ => (none, 0)) := by
  apply Array.ext
  · simp [madeCells, slA]
  · intro i h1 h2
    simp [madeCells, slA, Value.cells, Nat.mod_one]
theorem make_sl (W : World) (n : Nat) (hn : n ≤ 4096) : (Instr.makeSlice 27 (.int .i64 (n : Int)) (.int .i64 (n : Int))).run Try.prog W = .ok (.slice (some ⟨W.heap.size, 0, none⟩) n n) (W.alloc (.cells (slA n (fun _ => []) (fun _ => (none, 0))) 25)) := by
  obtain ⟨i0, hi0, hz0, hz1, hz2⟩ := info25.parts
  have := run_makeSlice (P := Try.prog) (w := W) 27 25 i0 (.slice none 0 0) Try.underlying27 hi0 hz0 .i64 .i64 (n : Int) (n : Int) (by omega) (by omega) (by rw [hz1]; omega) (by rw [hz2]; omega) (by omega)
  rw [this, hz1]
  have e : ((n : Int)).toNat = n := by omega
  rw [e, made_sl]
theorem EnvS.up {B B' cb gb lb lb' pb nb clb : Nat} {N : List Pl} {C : List ByteArray} {pan : Int} {na : Option Addr} {nc : Nat} {ca : Option Addr} {cc : Nat} {w : World} (h : EnvS B cb gb lb pb nb clb N C pan na nc ca cc w) (h1 : B ≤ B') (h2 : B' ≤ w.heap.size) (h3 : B ≤ lb') : EnvS B' cb gb lb' pb nb clb N C pan na nc ca cc w := by
  have g : ∀ b, Gd B cb gb lb b → Gd B' cb gb lb' b := fun b hb => by unfold Gd at *; omega
  refine ⟨h2, ⟨h.p.1, g _ h.p.2⟩, ⟨h.n.1, g _ h.n.2⟩, ⟨h.l.1, g _ h.l.2⟩, fun i x hx => ?_, fun i s hs => ?_, h.ne.1, by have := h.ne.2.1; omega, by have := h.ne.2.2; omega⟩
  · obtain ⟨b, o, e1, e2, e3⟩ := h.N i x hx
    exact ⟨b, o, e1, g _ e2, e3⟩
  · obtain ⟨b, o, e1, e2, e3⟩ := h.C i s hs
    exact ⟨b, o, e1, g _ e2, e3⟩

set_option maxRecDepth 100000 in
set_option maxHeartbeats 4000000 in
/-- A pattern that can't be, or no function. -/
theorem lists_first {n : Nat} (w : World) {nm : ByteArray} {dr : Bool} {ka : Option Addr} {kl kc : Nat} {t : TP n} (h : TwAt w w.heap.size n #[.string nm, .bool dr, .slice ka kl kc] t) (lv f : Value) (hl : ∃ a m c, lv = .slice a m c) (hf : f = .nilFunc ∨ ∃ p, f = .func (.func 8) #[] p) (y : Int) (hy : (chkT n t ≠ 0 ∧ y = chkT n t) ∨ (chkT n t = 0 ∧ f = .nilFunc ∧ y = 1)) :
    Calls Try.prog 6 #[.agg #[.string nm, .bool dr, .slice ka kl kc], lv, f] w fun e w' => e = .returned (.tuple #[.slice none 0 0, .int .i64 y]) ∧ Below w.heap.size w w' := by
  obtain ⟨la, lm, lc, rfl⟩ := hl
  have hf1 : f.oneCell' = true := by rcases hf with rfl | ⟨p, rfl⟩ <;> rfl
  obtain ⟨W, hW⟩ : ∃ W, (w.alloc (.cells #[.string nm, .bool dr, .slice ka kl kc] 24)).alloc (.cells #[f] 39) = W := ⟨_, rfl⟩
  have hb : Below w.heap.size w W := by rw [← hW]; exact ((Below.refl _ _).alloc (Nat.le_refl _) _).alloc (by simp) _
  have i1 : IsCells W (w.heap.size + 1) #[f] := by
    have := isCells_new (w.alloc (.cells #[.string nm, .bool dr, .slice ka kl kc] 24)) #[f] 39
    rw [hW] at this
    simpa using this
  have hpl := places_any W ((h.below hb (Nat.le_refl _)).mono hb.size)
  have HW : Hid ((w.alloc (.cells #[.string nm, .bool dr, .slice ka kl kc] 24)).alloc (.cells #[f] 39) = W) := hW
  have HB : Hid (Below w.heap.size w W ∧ IsCells W (w.heap.size + 1) #[f]) := ⟨hb, i1⟩
  clear h hb hW i1
  generalize plA n t = P at hpl
  generalize chkT n t = z at hpl hy
  have hq0 : ∀ w, (binOp .eql 39 .nilFunc .nilFunc).run Try.prog w = .ok (.bool true) w := fun _ => by kernel_rfl
  rcases hf with rfl | ⟨p, rfl⟩
  · rcases hy with ⟨hz, rfl⟩ | ⟨rfl, -, rfl⟩
    · go_enter Try.func6, Try.ntmps6
      go_wp2_with fail
      rw [HW.out]
      with_reducible refine hpl.mono ?_
      rintro e X ⟨pa, pc, rfl, -, hX⟩
      have HX : Hid (Below w.heap.size w (X.alloc (.cells #[.slice pa P.length pc] 61))) := (HB.out.1.trans (hX.mono HB.out.1.size)).alloc (by have := hX.size; have := HB.out.1.size; omega) _
      clear hX hpl
      go_wp2
      go_ret2
      exact ⟨rfl, HX.out⟩
    · go_enter Try.func6, Try.ntmps6
      go_wp2_with fail
      rw [HW.out]
      with_reducible refine hpl.mono ?_
      rintro e X ⟨pa, pc, rfl, -, hX⟩
      have HX : Hid (Below w.heap.size w (X.alloc (.cells #[.slice pa P.length pc] 61))) := (HB.out.1.trans (hX.mono HB.out.1.size)).alloc (by have := hX.size; have := HB.out.1.size; omega) _
      have f0 : X.cell? ⟨w.heap.size + 1, 0, none⟩ = some .nilFunc := (HB.out.2.of_block (hX.block _ HB.out.2.lt)).cell 0
      have fl : w.heap.size + 1 < X.heap.size := (HB.out.2.of_block (hX.block _ HB.out.2.lt)).lt
      clear hX hpl
      go_wp2
      go_ret2
      exact ⟨rfl, HX.out⟩
  · rcases hy with ⟨hz, rfl⟩ | ⟨-, hn, -⟩
    · go_enter Try.func6, Try.ntmps6
      go_wp2_with fail
      rw [HW.out]
      with_reducible refine hpl.mono ?_
      rintro e X ⟨pa, pc, rfl, -, hX⟩
      have HX : Hid (Below w.heap.size w (X.alloc (.cells #[.slice pa P.length pc] 61))) := (HB.out.1.trans (hX.mono HB.out.1.size)).alloc (by have := hX.size; have := HB.out.1.size; omega) _
      clear hX hpl
      go_wp2
      go_ret2
      exact ⟨rfl, HX.out⟩
    · cases hn

end Go.Proofs.Ytmeinebfdljndaa
