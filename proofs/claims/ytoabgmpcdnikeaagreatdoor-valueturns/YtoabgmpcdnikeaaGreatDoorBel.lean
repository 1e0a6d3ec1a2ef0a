/- A statement whose order is open, whose operations only read, and whose calls make memory but turn none: one walk serves every order. -/
import Derived.Test.YtoabgmpcdnikeaaGreatDoorTd
namespace Go.Proofs.YtoabgmpcdnikeaaGreatDoor
open Go.RowKit
set_option linter.unusedVariables false

/-- A world in which all that was there is as it was. -/
structure Bel (W : World) where
  w : World
  h : Below W.heap.size W w

theorem Bel.cell {W : World} (u : Bel W) (b o : Nat) (h : b < W.heap.size) : u.w.cell? ⟨b, o, none⟩ = W.cell? ⟨b, o, none⟩ := u.h.cell (p := ⟨b, o, none⟩) h
theorem Bel.fz {W : World} (u : Bel W) (b o : Nat) (h : b < W.heap.size) : u.w.frozen? ⟨b, o, none⟩ = W.frozen? ⟨b, o, none⟩ := u.h.frozen (p := ⟨b, o, none⟩) h

theorem wp_region_bel {P : Program} {id : Nat} {Q : Exit → Act → World → Prop} {a : Act} {w : World} {l : List Oper} (hm : P.follows .mixedOrders = true) (hB : Region.lexB .any l.toArray = true)
    (h : Nonempty (Bel w) → wpQuiet P l.toArray (fun w' => ∃ u : Bel w, w' = u.w) (fun a' => ∀ w', (∃ u : Bel w, w' = u.w) → Q .normal a' w') l a) : (Code.region id l.toArray true).wp P Q a w :=
  wp_region_quiet (C := fun w' => ∃ u : Bel w, w' = u.w) hm hB ⟨⟨w.drew, (Below.refl _ _).drew⟩, rfl⟩ (by simpa using h ⟨⟨w, Below.refl _ _⟩⟩)

/-- A callee that makes memory. -/
theorem Calls.bel_of {P : Program} {f : FuncId} {args : Array Value} {W : World} {u : Bel W} {v : Value}
    (h : Calls P f args u.w fun e w' => e = .returned v ∧ Below u.w.heap.size u.w w') : Calls P f args u.w fun e w'' => e = .returned v ∧ ∃ u' : Bel W, w'' = u'.w :=
  h.mono fun _ w' ⟨he, hm⟩ => ⟨he, ⟨w', u.h.trans (hm.mono u.h.size)⟩, rfl⟩
/-- One that makes none. -/
theorem Calls.bel_of_same {P : Program} {f : FuncId} {args : Array Value} {W : World} {u : Bel W} {v : Value}
    (h : Calls P f args u.w fun e w' => e = .returned v ∧ w' = u.w) : Calls P f args u.w fun e w'' => e = .returned v ∧ ∃ u' : Bel W, w'' = u'.w :=
  h.mono fun _ w' ⟨he, hm⟩ => ⟨he, u, hm⟩

theorem bcell {W w1 : World} {B : Nat} (hb : Below B W w1) : (∀ b o, b < B → w1.cell? ⟨b, o, none⟩ = W.cell? ⟨b, o, none⟩) ∧ (∀ b o, b < B → w1.frozen? ⟨b, o, none⟩ = W.frozen? ⟨b, o, none⟩) :=
  ⟨fun b o h => hb.cell (p := ⟨b, o, none⟩) h, fun b o h => hb.frozen (p := ⟨b, o, none⟩) h⟩

end Go.Proofs.YtoabgmpcdnikeaaGreatDoor
