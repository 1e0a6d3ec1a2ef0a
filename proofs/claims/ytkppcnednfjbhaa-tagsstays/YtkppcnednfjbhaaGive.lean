/- What 'give' does: a further tag is linked in right behind a place. -/
import Derived.Test.YtkppcnednfjbhaaNumber
import Derived.Test.YtkppcnednfjbhaaIns
import Derived.RegionTactic
namespace Go.Proofs.Ytkppcnednfjbhaa
open Go.RowKit Go.Maps
set_option linter.unusedVariables false

theorem eq_map_some (m : Nat) (w : World) : Sem.run Try.prog (binOp BinOp.eql 24 (.map (some m)) (.map none)) w = .ok (.bool false) w := by kernel_rfl
theorem eq_map_none (w : World) : Sem.run Try.prog (binOp BinOp.eql 24 (.map none) (.map none)) w = .ok (.bool true) w := by kernel_rfl

theorem heap_drew (w : World) : w.drew.heap = w.heap := rfl
theorem alloc_get (w : World) (o : Obj) {k : Nat} (h : k < w.heap.size) : (w.alloc o).heap[k]? = w.heap[k]? := Below.heap_alloc _ _ _ h
theorem size_set (w : World) (a : Addr) (v : Value) : (w.setCell a v).heap.size = w.heap.size := by simp [World.setCell]

set_option maxHeartbeats 1000000 in
theorem give_mid (w : World) (pb m gv b nb : Nat) (f : Nat → Option Nat) (N : Nat) (hm : w.cell? ⟨pb, 0, none⟩ = some (.map (some m))) (hg : w.cell? ⟨pb, 5, none⟩ = some (.int .u64 (gv : Int))) (hf : ∀ k, w.frozen? ⟨pb, k, none⟩ = false) (hps : pb < w.heap.size) (hmp : m ≠ pb) (hms : m < w.heap.size)
    (hn : w.cell? ⟨b, 3, none⟩ = some (.pointer (some ⟨nb, 0, none⟩))) (hfb : ∀ k, w.frozen? ⟨b, k, none⟩ = false) (hne : b ≠ pb) (hbs : b < w.heap.size) (hmb : m ≠ b) (hp2 : w.cell? ⟨nb, 2, none⟩ = some (.pointer (some ⟨b, 0, none⟩))) (hfn : ∀ k, w.frozen? ⟨nb, k, none⟩ = false) (hnp : nb ≠ pb) (hns : nb < w.heap.size) (hmn : m ≠ nb) (hnb : nb ≠ b) 
    (hgv : gv < 18446744073709551615) (hmap : PMap w m f N) (hf0 : f (gv + 1) = none) (hN : N < 8192) :
    Calls Try.prog 26 #[.pointer (some ⟨pb, 0, none⟩), .pointer (some ⟨b, 0, none⟩)] w fun e w' => e = .returned (.pointer (some ⟨w.heap.size, 0, none⟩)) ∧ PMap w' m (fun s => if s = gv + 1 then some w.heap.size else f s) (N + 1) ∧
      World.mapTurned ((((w.setCell ⟨pb, 5, none⟩ (.int .u64 ((gv : Int) + 1))).setCell ⟨b, 3, none⟩ (.pointer (some ⟨w.heap.size, 0, none⟩))).setCell ⟨nb, 2, none⟩ (.pointer (some ⟨w.heap.size, 0, none⟩))).alloc (.cells #[.int .u64 ((gv : Int) + 1), .int .u64 0, .pointer (some ⟨b, 0, none⟩), .pointer (some ⟨nb, 0, none⟩)] 29)).drew.drew w' m := by
  have hq := eq_map_some m w
  have hXm : PMap ((((w.setCell ⟨pb, 5, none⟩ (.int .u64 ((gv : Int) + 1))).setCell ⟨b, 3, none⟩ (.pointer (some ⟨w.heap.size, 0, none⟩))).setCell ⟨nb, 2, none⟩ (.pointer (some ⟨w.heap.size, 0, none⟩))).alloc (.cells #[.int .u64 ((gv : Int) + 1), .int .u64 0, .pointer (some ⟨b, 0, none⟩), .pointer (some ⟨nb, 0, none⟩)] 29)).drew.drew m f N := hmap.of_block (by rw [heap_drew, heap_drew, alloc_get _ _ (by simp only [size_set]; exact hms), Below.heap_setCell _ _ _ _ (by simpa using hmn), Below.heap_setCell _ _ _ _ (by simpa using hmb), Below.heap_setCell _ _ _ _ (by simpa using hmp)])
  obtain ⟨w2, hrun, hP2, hturn⟩ := hXm.store (t := gv + 1) (by omega) hf0 (by unfold maxLen; omega) w.heap.size
  have hrun' : (Instr.mapUpdate 24 (.map (some m)) (.int .u64 ((gv : Int) + 1)) (.pointer (some ⟨w.heap.size, 0, none⟩))).run Try.prog ((((w.setCell ⟨pb, 5, none⟩ (.int .u64 ((gv : Int) + 1))).setCell ⟨b, 3, none⟩ (.pointer (some ⟨w.heap.size, 0, none⟩))).setCell ⟨nb, 2, none⟩ (.pointer (some ⟨w.heap.size, 0, none⟩))).alloc (.cells #[.int .u64 ((gv : Int) + 1), .int .u64 0, .pointer (some ⟨b, 0, none⟩), .pointer (some ⟨nb, 0, none⟩)] 29)).drew.drew = .ok () w2 := hrun
  have HP : Hid (PMap w2 m (fun s => if s = gv + 1 then some w.heap.size else f s) (N + 1)) := hP2
  have HM : Hid (World.mapTurned ((((w.setCell ⟨pb, 5, none⟩ (.int .u64 ((gv : Int) + 1))).setCell ⟨b, 3, none⟩ (.pointer (some ⟨w.heap.size, 0, none⟩))).setCell ⟨nb, 2, none⟩ (.pointer (some ⟨w.heap.size, 0, none⟩))).alloc (.cells #[.int .u64 ((gv : Int) + 1), .int .u64 0, .pointer (some ⟨b, 0, none⟩), .pointer (some ⟨nb, 0, none⟩)] 29)).drew.drew w2 m) := hturn
  clear hrun hXm hmap hP2 hturn
  go_enter Try.func26, Try.ntmps26
  go_wp2
  go_region
  go_wp2
  go_region
  go_wp2
  go_ret
  exact ⟨rfl, HP.out, HM.out⟩

set_option maxHeartbeats 1000000 in
theorem give_last (w : World) (pb m gv b : Nat) (f : Nat → Option Nat) (N : Nat) (hm : w.cell? ⟨pb, 0, none⟩ = some (.map (some m))) (hg : w.cell? ⟨pb, 5, none⟩ = some (.int .u64 (gv : Int))) (hf : ∀ k, w.frozen? ⟨pb, k, none⟩ = false) (hps : pb < w.heap.size) (hmp : m ≠ pb) (hms : m < w.heap.size)
    (hn : w.cell? ⟨b, 3, none⟩ = some (.pointer none)) (hfb : ∀ k, w.frozen? ⟨b, k, none⟩ = false) (hne : b ≠ pb) (hbs : b < w.heap.size) (hmb : m ≠ b) 
    (hgv : gv < 18446744073709551615) (hmap : PMap w m f N) (hf0 : f (gv + 1) = none) (hN : N < 8192) :
    Calls Try.prog 26 #[.pointer (some ⟨pb, 0, none⟩), .pointer (some ⟨b, 0, none⟩)] w fun e w' => e = .returned (.pointer (some ⟨w.heap.size, 0, none⟩)) ∧ PMap w' m (fun s => if s = gv + 1 then some w.heap.size else f s) (N + 1) ∧
      World.mapTurned (((w.setCell ⟨pb, 5, none⟩ (.int .u64 ((gv : Int) + 1))).setCell ⟨b, 3, none⟩ (.pointer (some ⟨w.heap.size, 0, none⟩))).alloc (.cells #[.int .u64 ((gv : Int) + 1), .int .u64 0, .pointer (some ⟨b, 0, none⟩), .pointer none] 29)).drew.drew w' m := by
  have hq := eq_map_some m w
  have hXm : PMap (((w.setCell ⟨pb, 5, none⟩ (.int .u64 ((gv : Int) + 1))).setCell ⟨b, 3, none⟩ (.pointer (some ⟨w.heap.size, 0, none⟩))).alloc (.cells #[.int .u64 ((gv : Int) + 1), .int .u64 0, .pointer (some ⟨b, 0, none⟩), .pointer none] 29)).drew.drew m f N := hmap.of_block (by rw [heap_drew, heap_drew, alloc_get _ _ (by simp only [size_set]; exact hms), Below.heap_setCell _ _ _ _ (by simpa using hmb), Below.heap_setCell _ _ _ _ (by simpa using hmp)])
  obtain ⟨w2, hrun, hP2, hturn⟩ := hXm.store (t := gv + 1) (by omega) hf0 (by unfold maxLen; omega) w.heap.size
  have hrun' : (Instr.mapUpdate 24 (.map (some m)) (.int .u64 ((gv : Int) + 1)) (.pointer (some ⟨w.heap.size, 0, none⟩))).run Try.prog (((w.setCell ⟨pb, 5, none⟩ (.int .u64 ((gv : Int) + 1))).setCell ⟨b, 3, none⟩ (.pointer (some ⟨w.heap.size, 0, none⟩))).alloc (.cells #[.int .u64 ((gv : Int) + 1), .int .u64 0, .pointer (some ⟨b, 0, none⟩), .pointer none] 29)).drew.drew = .ok () w2 := hrun
  have HP : Hid (PMap w2 m (fun s => if s = gv + 1 then some w.heap.size else f s) (N + 1)) := hP2
  have HM : Hid (World.mapTurned (((w.setCell ⟨pb, 5, none⟩ (.int .u64 ((gv : Int) + 1))).setCell ⟨b, 3, none⟩ (.pointer (some ⟨w.heap.size, 0, none⟩))).alloc (.cells #[.int .u64 ((gv : Int) + 1), .int .u64 0, .pointer (some ⟨b, 0, none⟩), .pointer none] 29)).drew.drew w2 m) := hturn
  clear hrun hXm hmap hP2 hturn
  go_enter Try.func26, Try.ntmps26
  go_wp2
  go_region
  go_wp2
  go_region
  go_wp2
  go_ret
  exact ⟨rfl, HP.out, HM.out⟩

set_option maxHeartbeats 1000000 in
theorem give_front (w : World) (pb m gv nb : Nat) (f : Nat → Option Nat) (N : Nat) (hm : w.cell? ⟨pb, 0, none⟩ = some (.map (some m))) (hg : w.cell? ⟨pb, 5, none⟩ = some (.int .u64 (gv : Int))) (hf : ∀ k, w.frozen? ⟨pb, k, none⟩ = false) (hps : pb < w.heap.size) (hmp : m ≠ pb) (hms : m < w.heap.size)
    (hn : w.cell? ⟨pb, 4, none⟩ = some (.pointer (some ⟨nb, 0, none⟩))) (hp2 : w.cell? ⟨nb, 2, none⟩ = some (.pointer (some ⟨pb, 1, none⟩))) (hfn : ∀ k, w.frozen? ⟨nb, k, none⟩ = false) (hnp : nb ≠ pb) (hns : nb < w.heap.size) (hmn : m ≠ nb) 
    (hgv : gv < 18446744073709551615) (hmap : PMap w m f N) (hf0 : f (gv + 1) = none) (hN : N < 8192) :
    Calls Try.prog 26 #[.pointer (some ⟨pb, 0, none⟩), .pointer (some ⟨pb, 1, none⟩)] w fun e w' => e = .returned (.pointer (some ⟨w.heap.size, 0, none⟩)) ∧ PMap w' m (fun s => if s = gv + 1 then some w.heap.size else f s) (N + 1) ∧
      World.mapTurned ((((w.setCell ⟨pb, 5, none⟩ (.int .u64 ((gv : Int) + 1))).setCell ⟨pb, 4, none⟩ (.pointer (some ⟨w.heap.size, 0, none⟩))).setCell ⟨nb, 2, none⟩ (.pointer (some ⟨w.heap.size, 0, none⟩))).alloc (.cells #[.int .u64 ((gv : Int) + 1), .int .u64 0, .pointer (some ⟨pb, 1, none⟩), .pointer (some ⟨nb, 0, none⟩)] 29)).drew.drew w' m := by
  have hq := eq_map_some m w
  have hXm : PMap ((((w.setCell ⟨pb, 5, none⟩ (.int .u64 ((gv : Int) + 1))).setCell ⟨pb, 4, none⟩ (.pointer (some ⟨w.heap.size, 0, none⟩))).setCell ⟨nb, 2, none⟩ (.pointer (some ⟨w.heap.size, 0, none⟩))).alloc (.cells #[.int .u64 ((gv : Int) + 1), .int .u64 0, .pointer (some ⟨pb, 1, none⟩), .pointer (some ⟨nb, 0, none⟩)] 29)).drew.drew m f N := hmap.of_block (by rw [heap_drew, heap_drew, alloc_get _ _ (by simp only [size_set]; exact hms), Below.heap_setCell _ _ _ _ (by simpa using hmn), Below.heap_setCell _ _ _ _ (by simpa using hmp), Below.heap_setCell _ _ _ _ (by simpa using hmp)])
  obtain ⟨w2, hrun, hP2, hturn⟩ := hXm.store (t := gv + 1) (by omega) hf0 (by unfold maxLen; omega) w.heap.size
  have hrun' : (Instr.mapUpdate 24 (.map (some m)) (.int .u64 ((gv : Int) + 1)) (.pointer (some ⟨w.heap.size, 0, none⟩))).run Try.prog ((((w.setCell ⟨pb, 5, none⟩ (.int .u64 ((gv : Int) + 1))).setCell ⟨pb, 4, none⟩ (.pointer (some ⟨w.heap.size, 0, none⟩))).setCell ⟨nb, 2, none⟩ (.pointer (some ⟨w.heap.size, 0, none⟩))).alloc (.cells #[.int .u64 ((gv : Int) + 1), .int .u64 0, .pointer (some ⟨pb, 1, none⟩), .pointer (some ⟨nb, 0, none⟩)] 29)).drew.drew = .ok () w2 := hrun
  have HP : Hid (PMap w2 m (fun s => if s = gv + 1 then some w.heap.size else f s) (N + 1)) := hP2
  have HM : Hid (World.mapTurned ((((w.setCell ⟨pb, 5, none⟩ (.int .u64 ((gv : Int) + 1))).setCell ⟨pb, 4, none⟩ (.pointer (some ⟨w.heap.size, 0, none⟩))).setCell ⟨nb, 2, none⟩ (.pointer (some ⟨w.heap.size, 0, none⟩))).alloc (.cells #[.int .u64 ((gv : Int) + 1), .int .u64 0, .pointer (some ⟨pb, 1, none⟩), .pointer (some ⟨nb, 0, none⟩)] 29)).drew.drew w2 m) := hturn
  clear hrun hXm hmap hP2 hturn
  go_enter Try.func26, Try.ntmps26
  go_wp2
  go_region
  go_wp2
  go_region
  go_wp2
  go_ret
  exact ⟨rfl, HP.out, HM.out⟩

set_option maxHeartbeats 1000000 in
theorem give_only (w : World) (pb m gv : Nat) (f : Nat → Option Nat) (N : Nat) (hm : w.cell? ⟨pb, 0, none⟩ = some (.map (some m))) (hg : w.cell? ⟨pb, 5, none⟩ = some (.int .u64 (gv : Int))) (hf : ∀ k, w.frozen? ⟨pb, k, none⟩ = false) (hps : pb < w.heap.size) (hmp : m ≠ pb) (hms : m < w.heap.size)
    (hn : w.cell? ⟨pb, 4, none⟩ = some (.pointer none)) 
    (hgv : gv < 18446744073709551615) (hmap : PMap w m f N) (hf0 : f (gv + 1) = none) (hN : N < 8192) :
    Calls Try.prog 26 #[.pointer (some ⟨pb, 0, none⟩), .pointer (some ⟨pb, 1, none⟩)] w fun e w' => e = .returned (.pointer (some ⟨w.heap.size, 0, none⟩)) ∧ PMap w' m (fun s => if s = gv + 1 then some w.heap.size else f s) (N + 1) ∧
      World.mapTurned (((w.setCell ⟨pb, 5, none⟩ (.int .u64 ((gv : Int) + 1))).setCell ⟨pb, 4, none⟩ (.pointer (some ⟨w.heap.size, 0, none⟩))).alloc (.cells #[.int .u64 ((gv : Int) + 1), .int .u64 0, .pointer (some ⟨pb, 1, none⟩), .pointer none] 29)).drew.drew w' m := by
  have hq := eq_map_some m w
  have hXm : PMap (((w.setCell ⟨pb, 5, none⟩ (.int .u64 ((gv : Int) + 1))).setCell ⟨pb, 4, none⟩ (.pointer (some ⟨w.heap.size, 0, none⟩))).alloc (.cells #[.int .u64 ((gv : Int) + 1), .int .u64 0, .pointer (some ⟨pb, 1, none⟩), .pointer none] 29)).drew.drew m f N := hmap.of_block (by rw [heap_drew, heap_drew, alloc_get _ _ (by simp only [size_set]; exact hms), Below.heap_setCell _ _ _ _ (by simpa using hmp), Below.heap_setCell _ _ _ _ (by simpa using hmp)])
  obtain ⟨w2, hrun, hP2, hturn⟩ := hXm.store (t := gv + 1) (by omega) hf0 (by unfold maxLen; omega) w.heap.size
  have hrun' : (Instr.mapUpdate 24 (.map (some m)) (.int .u64 ((gv : Int) + 1)) (.pointer (some ⟨w.heap.size, 0, none⟩))).run Try.prog (((w.setCell ⟨pb, 5, none⟩ (.int .u64 ((gv : Int) + 1))).setCell ⟨pb, 4, none⟩ (.pointer (some ⟨w.heap.size, 0, none⟩))).alloc (.cells #[.int .u64 ((gv : Int) + 1), .int .u64 0, .pointer (some ⟨pb, 1, none⟩), .pointer none] 29)).drew.drew = .ok () w2 := hrun
  have HP : Hid (PMap w2 m (fun s => if s = gv + 1 then some w.heap.size else f s) (N + 1)) := hP2
  have HM : Hid (World.mapTurned (((w.setCell ⟨pb, 5, none⟩ (.int .u64 ((gv : Int) + 1))).setCell ⟨pb, 4, none⟩ (.pointer (some ⟨w.heap.size, 0, none⟩))).alloc (.cells #[.int .u64 ((gv : Int) + 1), .int .u64 0, .pointer (some ⟨pb, 1, none⟩), .pointer none] 29)).drew.drew w2 m) := hturn
  clear hrun hXm hmap hP2 hturn
  go_enter Try.func26, Try.ntmps26
  go_wp2
  go_region
  go_wp2
  go_region
  go_wp2
  go_ret
  exact ⟨rfl, HP.out, HM.out⟩

end Go.Proofs.Ytkppcnednfjbhaa
