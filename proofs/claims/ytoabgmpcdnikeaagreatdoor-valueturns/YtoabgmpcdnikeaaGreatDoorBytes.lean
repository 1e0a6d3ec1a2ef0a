/- The document's Bytes: a character's bytes. -/
import Derived.Test.YtoabgmpcdnikeaaGreatDoorSmall
import Derived.Laws.IdiomStrings
namespace Go.Proofs.YtoabgmpcdnikeaaGreatDoor
open Go.RowKit
set_option linter.unusedVariables false

theorem addr_add (b j : Nat) : (⟨b, 0, none⟩ : Addr).add j = ⟨b, j, none⟩ := by
  unfold Addr.add
  split
  · rename_i h; rw [h]
  · simp
theorem conv_new (w : World) (l : List UInt8) (cs : Array Value) (hcs : cs = (Lib.byteCells l).toArray) (n : Nat) (hn : n = l.length) :
    (convert 131 9 (.slice (some ⟨w.heap.size, 0, none⟩) n n)).run Tryz.prog (w.alloc (.cells cs 5)) = .ok (.string ⟨l.toArray⟩) (w.alloc (.cells cs 5)) := by
  subst hn
  refine run_convert_bytes_back _ 131 9 5 _ _ l Tryz.underlying131 Tryz.underlying5 Tryz.underlying9 ?_
  intro j hj
  subst hcs
  have hh : (w.alloc (.cells (Lib.byteCells l).toArray 5)).heap[w.heap.size]? = some (.cells (Lib.byteCells l).toArray 5) := by simp [World.alloc, -World.alloc_eq]
  rw [addr_add]
  simp only [World.cell?, hh]
  simp [Lib.byteCells, hj]

theorem below_new (w : World) (o : Obj) : Below w.heap.size w (w.alloc o) := (Below.refl _ w).alloc (Nat.le_refl _) o

set_option maxRecDepth 100000 in
set_option maxHeartbeats 2000000 in
theorem rbytes_one (w : World) (r : Int) (h0 : 0 ≤ r) (h : r < 128) (S : ByteArray) (hS : Hid (S = ⟨(enc r.toNat).toArray⟩)) :
    Calls Tryz.prog 118 #[.int .i64 r] w fun e w' => e = .returned (.string S) ∧ Below w.heap.size w w' := by
  have hconv : (convert 131 9 (.slice (some ⟨w.heap.size, 0, none⟩) 1 1)).run Tryz.prog (w.alloc (.cells #[.int .u8 (r)] 5)) = .ok (.string S) (w.alloc (.cells #[.int .u8 (r)] 5)) := by
    have hk : ∃ k : Nat, r = (k : Int) := ⟨r.toNat, by omega⟩
    obtain ⟨k, rfl⟩ := hk
    have he : enc (k : Int).toNat = [(k).toUInt8] := by
      simp only [Int.toNat_natCast, enc]
      rw [if_pos (by omega)]
    rw [hS.out, he]
    refine conv_new w _ _ ?_ 1 rfl
    simp only [Lib.byteCells, List.map_cons, List.map_nil, u8n (show k < 256 by omega)]
  go_enter Tryz.func118, Tryz.ntmps118
  go_wp2
  go_ret
  exact ⟨rfl, below_new w _⟩

set_option maxRecDepth 100000 in
set_option maxHeartbeats 2000000 in
theorem rbytes_two (w : World) (r : Int) (h0 : 128 ≤ r) (h : r < 2048) (S : ByteArray) (hS : Hid (S = ⟨(enc r.toNat).toArray⟩)) :
    Calls Tryz.prog 118 #[.int .i64 r] w fun e w' => e = .returned (.string S) ∧ Below w.heap.size w w' := by
  have hconv : (convert 131 9 (.slice (some ⟨w.heap.size, 0, none⟩) 2 2)).run Tryz.prog (w.alloc (.cells #[.int .u8 (192 + r / 64), .int .u8 (128 + r % 64)] 5)) = .ok (.string S) (w.alloc (.cells #[.int .u8 (192 + r / 64), .int .u8 (128 + r % 64)] 5)) := by
    have hk : ∃ k : Nat, r = (k : Int) := ⟨r.toNat, by omega⟩
    obtain ⟨k, rfl⟩ := hk
    have he : enc (k : Int).toNat = [(192 + k / 64).toUInt8, (128 + k % 64).toUInt8] := by
      simp only [Int.toNat_natCast, enc]
      rw [if_neg (by omega), if_pos (by omega)]
    rw [hS.out, he]
    refine conv_new w _ _ ?_ 2 rfl
    simp only [Lib.byteCells, List.map_cons, List.map_nil, u8n (show 192 + k / 64 < 256 by omega), u8n (show 128 + k % 64 < 256 by omega)]
    rfl
  go_enter Tryz.func118, Tryz.ntmps118
  go_wp2
  go_ret
  exact ⟨rfl, below_new w _⟩

set_option maxRecDepth 100000 in
set_option maxHeartbeats 2000000 in
theorem rbytes_three (w : World) (r : Int) (h0 : 2048 ≤ r) (h : r < 65536) (S : ByteArray) (hS : Hid (S = ⟨(enc r.toNat).toArray⟩)) :
    Calls Tryz.prog 118 #[.int .i64 r] w fun e w' => e = .returned (.string S) ∧ Below w.heap.size w w' := by
  have hconv : (convert 131 9 (.slice (some ⟨w.heap.size, 0, none⟩) 3 3)).run Tryz.prog (w.alloc (.cells #[.int .u8 (224 + r / 4096), .int .u8 (128 + r / 64 % 64), .int .u8 (128 + r % 64)] 5)) = .ok (.string S) (w.alloc (.cells #[.int .u8 (224 + r / 4096), .int .u8 (128 + r / 64 % 64), .int .u8 (128 + r % 64)] 5)) := by
    have hk : ∃ k : Nat, r = (k : Int) := ⟨r.toNat, by omega⟩
    obtain ⟨k, rfl⟩ := hk
    have he : enc (k : Int).toNat = [(224 + k / 4096).toUInt8, (128 + k / 64 % 64).toUInt8, (128 + k % 64).toUInt8] := by
      simp only [Int.toNat_natCast, enc]
      rw [if_neg (by omega), if_neg (by omega), if_pos (by omega)]
    rw [hS.out, he]
    refine conv_new w _ _ ?_ 3 rfl
    simp only [Lib.byteCells, List.map_cons, List.map_nil, u8n (show 224 + k / 4096 < 256 by omega), u8n (show 128 + k / 64 % 64 < 256 by omega), u8n (show 128 + k % 64 < 256 by omega)]
    rfl
  go_enter Tryz.func118, Tryz.ntmps118
  go_wp2
  go_ret
  exact ⟨rfl, below_new w _⟩

set_option maxRecDepth 100000 in
set_option maxHeartbeats 2000000 in
theorem rbytes_four (w : World) (r : Int) (h0 : 65536 ≤ r) (h : r ≤ 1114111) (S : ByteArray) (hS : Hid (S = ⟨(enc r.toNat).toArray⟩)) :
    Calls Tryz.prog 118 #[.int .i64 r] w fun e w' => e = .returned (.string S) ∧ Below w.heap.size w w' := by
  have hconv : (convert 131 9 (.slice (some ⟨w.heap.size, 0, none⟩) 4 4)).run Tryz.prog (w.alloc (.cells #[.int .u8 (240 + r / 262144), .int .u8 (128 + r / 4096 % 64), .int .u8 (128 + r / 64 % 64), .int .u8 (128 + r % 64)] 5)) = .ok (.string S) (w.alloc (.cells #[.int .u8 (240 + r / 262144), .int .u8 (128 + r / 4096 % 64), .int .u8 (128 + r / 64 % 64), .int .u8 (128 + r % 64)] 5)) := by
    have hk : ∃ k : Nat, r = (k : Int) := ⟨r.toNat, by omega⟩
    obtain ⟨k, rfl⟩ := hk
    have he : enc (k : Int).toNat = [(240 + k / 262144).toUInt8, (128 + k / 4096 % 64).toUInt8, (128 + k / 64 % 64).toUInt8, (128 + k % 64).toUInt8] := by
      simp only [Int.toNat_natCast, enc]
      rw [if_neg (by omega), if_neg (by omega), if_neg (by omega)]
    rw [hS.out, he]
    refine conv_new w _ _ ?_ 4 rfl
    simp only [Lib.byteCells, List.map_cons, List.map_nil, u8n (show 240 + k / 262144 < 256 by omega), u8n (show 128 + k / 4096 % 64 < 256 by omega), u8n (show 128 + k / 64 % 64 < 256 by omega), u8n (show 128 + k % 64 < 256 by omega)]
    rfl
  go_enter Tryz.func118, Tryz.ntmps118
  go_wp2
  go_ret
  exact ⟨rfl, below_new w _⟩

theorem rbytes_any (w : World) (r : Nat) (h : r ≤ 1114111) :
    Calls Tryz.prog 118 #[.int .i64 (r : Int)] w fun e w' => e = .returned (.string ⟨(enc r).toArray⟩) ∧ Below w.heap.size w w' := by
  have hS : Hid ((⟨(enc r).toArray⟩ : ByteArray) = ⟨(enc ((r : Int)).toNat).toArray⟩) := rfl
  rcases Nat.lt_or_ge r 128 with h1 | h1
  · exact rbytes_one w r (by omega) (by omega) _ hS
  rcases Nat.lt_or_ge r 2048 with h2 | h2
  · exact rbytes_two w r (by omega) (by omega) _ hS
  rcases Nat.lt_or_ge r 65536 with h3 | h3
  · exact rbytes_three w r (by omega) (by omega) _ hS
  · exact rbytes_four w r (by omega) (by omega) _ hS

end Go.Proofs.YtoabgmpcdnikeaaGreatDoor
