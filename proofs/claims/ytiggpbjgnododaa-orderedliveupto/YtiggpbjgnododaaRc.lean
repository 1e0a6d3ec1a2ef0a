/- A region that draws its order and whose calls stay within a class of worlds, in which every cell that is read is the same: one walk serves, in a round too. -/
import Derived.Test.YtiggpbjgnododaaRq
namespace Go.Proofs.Ytiggpbjgnododaa
open Go.RowKit Go.Shelf
set_option linter.unusedVariables false

/-- A world of a class. -/
structure WC (C : World → Prop) where
  w : World
  h : C w

theorem region_class {P : Program} {id : Nat} {Q : Exit → Act → World → Prop} {a : Act} {w : World} {l : List Oper} (C : World → Prop) (hm : P.follows .mixedOrders = true) (hB : Region.lexB .any l.toArray = true) (hC : C w.drew)
    (h : Nonempty (WC C) → wpQuiet P l.toArray (fun w' => ∃ u : WC C, w' = u.w) (fun a' => ∀ w', (∃ u : WC C, w' = u.w) → Q .normal a' w') l a) : (Code.region id l.toArray true).wp P Q a w :=
  wp_region_quiet (C := fun w' => ∃ u : WC C, w' = u.w) hm hB ⟨⟨w.drew, hC⟩, rfl⟩ (by simpa using h ⟨⟨w.drew, hC⟩⟩)

theorem region_class_round {P : Program} {id : Nat} {Q : Exit → Act → World → Prop} {a : Act} {w : World} {lo : Nat} {l : List Oper} (C : World → Prop) (hm : P.follows .mixedOrders = true) (hB : Region.lexB .any l.toArray = true) (hd : noDefer l.toArray = true) (hC : C w.drew)
    (h : Nonempty (WC C) → wpQuiet P l.toArray (fun w' => ∃ u : WC C, w' = u.w) (fun a' => ∀ w', (∃ u : WC C, w' = u.w) → Q .normal a' w') l a) : (Code.region id l.toArray true).wpIn (Fence.wide.inRound lo) 0 P Q a w := by
  have h' := h ⟨⟨w.drew, hC⟩⟩
  simp only [Region.lexB, Bool.and_eq_true] at hB
  refine wpIn_region_any hm (any_round (C := fun w' => ∃ u : WC C, w' = u.w) (Q := fun a' => ∀ w', (∃ u : WC C, w' = u.w) → Q .normal a' w') hd (fun _ w' hw' h => h w' hw') _ _ _ _ ⟨⟨w.drew, hC⟩, rfl⟩ ?_)
  have := wpAnyQ_lex (C := fun w' => ∃ u : WC C, w' = u.w) (md := .any) hB.1 l 0 (Array.replicate l.length false) a (by simp) (by simpa using hB.2) h'
  simpa using this

theorem Calls.wc_of {P : Program} {f : FuncId} {args : Array Value} {W : World} {C : World → Prop} {v : Value}
    (h : Calls P f args W fun e w' => e = .returned v ∧ C w') : Calls P f args W fun e w'' => e = .returned v ∧ ∃ u' : WC C, w'' = u'.w :=
  h.mono fun e w' ⟨he, hw⟩ => ⟨he, ⟨w', hw⟩, rfl⟩

end Go.Proofs.Ytiggpbjgnododaa
