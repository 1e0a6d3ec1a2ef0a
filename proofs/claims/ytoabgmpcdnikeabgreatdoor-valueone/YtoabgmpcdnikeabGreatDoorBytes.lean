/- The document's Bytes: a character's bytes. -/
import Derived.Test.YtoabgmpcdnikeabGreatDoorSmall
import Derived.Laws.IdiomStrings
namespace Go.Proofs.YtoabgmpcdnikeabGreatDoor
open Go.RowKit
set_option linter.unusedVariables false

theorem addr_add (b j : Nat) : (⟨b, 0, none⟩ : Addr).add j = ⟨b, j, none⟩ := by
  unfold Addr.add
  split
  · rename_i h; rw [h]
  · simp
theorem conv_new (w : World) (l : List UInt8) (cs : Array Value) (hcs : cs = (Lib.byteCells l).toArray) (n : Nat) (hn : n = l.length) :
    (convert 59 9 (.slice (some ⟨w.heap.size, 0, none⟩) n n)).run Tryz.prog (w.alloc (.cells cs 5)) = .ok (.string ⟨l.toArray⟩) (w.alloc (.cells cs 5)) := by
  subst hn
  refine run_convert_bytes_back _ 59 9 5 _ _ l Tryz.underlying59 Tryz.underlying5 Tryz.underlying9 ?_
  intro j hj
  subst hcs
  have hh : (w.alloc (.cells (Lib.byteCells l).toArray 5)).heap[w.heap.size]? = some (.cells (Lib.byteCells l).toArray 5) := by simp [World.alloc, -World.alloc_eq]
  rw [addr_add]
  simp only [World.cell?, hh]
  simp [Lib.byteCells, hj]

theorem below_new (w : World) (o : Obj) : Below w.heap.size w (w.alloc o) := (Below.refl _ w).alloc (Nat.le_refl _) o

end Go.Proofs.YtoabgmpcdnikeabGreatDoor
