/- The document's Bytes: a character's bytes. -/
import Derived.Test.YtmifejkddgcbmaaGreatA02
import Derived.Laws.IdiomStrings
import Derived.Lib.OthersKept
namespace Go.Proofs.YtmifejkddgcbmaaGreat
open Go.RowKit
set_option linter.unusedVariables false
set_option linter.unusedSimpArgs false

theorem addr_add (b j : Nat) : (⟨b, 0, none⟩ : Addr).add j = ⟨b, j, none⟩ := by
  unfold Addr.add
  split
  · rename_i h; rw [h]
  · simp
theorem conv_new (w : World) (l : List UInt8) (cs : Array Value) (hcs : cs = (Lib.byteCells l).toArray) (n : Nat) (hn : n = l.length) :
    (convert 41 9 (.slice (some ⟨w.heap.size, 0, none⟩) n n)).run Tryz.prog (w.alloc (.cells cs 5)) = .ok (.string ⟨l.toArray⟩) (w.alloc (.cells cs 5)) := by
  subst hn
  refine run_convert_bytes_back _ 41 9 5 _ _ l Tryz.underlying41 Tryz.underlying5 Tryz.underlying9 ?_
  intro j hj
  subst hcs
  have hh : (w.alloc (.cells (Lib.byteCells l).toArray 5)).heap[w.heap.size]? = some (.cells (Lib.byteCells l).toArray 5) := by simp [World.alloc, -World.alloc_eq]
  rw [addr_add]
  simp only [World.cell?, hh]
  simp [Lib.byteCells, hj]

theorem below_new (w : World) (o : Obj) : Below w.heap.size w (w.alloc o) := (Below.refl _ w).alloc (Nat.le_refl _) o

set_option maxRecDepth 100000 in
set_option maxHeartbeats 2000000 in
theorem rbytes_one (w : World) (r : Int) (h0 : 0 ≤ r) (h : r < 128) (S : ByteArray) (hS : Hid (S = ⟨(enc r.toNat).toArray⟩)) :
    Calls Tryz.prog 118 #[.int .i64 r] w fun e w' => e = .returned (.string S) ∧ Below w.heap.size w w' := by
  have hconv : (convert 41 9 (.slice (some ⟨w.heap.size, 0, none⟩) 1 1)).run Tryz.prog (w.alloc (.cells #[.int .u8 (r)] 5)) = .ok (.string S) (w.alloc (.cells #[.int .u8 (r)] 5)) := by
    have hk : ∃ k : Nat, r = (k : Int) := ⟨r.toNat, by omega⟩
    obtain ⟨k, rfl⟩ := hk
    have he : enc (k : Int).toNat = [(k).toUInt8] := by
      simp only [Int.toNat_natCast, enc]
      rw [if_pos (by omega)]
    rw [hS.out, he]
    refine conv_new w _ _ ?_ 1 rfl
    simp only [Lib.byteCells, List.map_cons, List.map_nil, u8n (show k < 256 by omega)]
  go_enter Tryz.func118, Tryz.ntmps118
  go_wp2
  go_ret
  exact ⟨rfl, below_new w _⟩

set_option maxRecDepth 100000 in
set_option maxHeartbeats 2000000 in
theorem rbytes_two (w : World) (r : Int) (h0 : 128 ≤ r) (h : r < 2048) (S : ByteArray) (hS : Hid (S = ⟨(enc r.toNat).toArray⟩)) :
    Calls Tryz.prog 118 #[.int .i64 r] w fun e w' => e = .returned (.string S) ∧ Below w.heap.size w w' := by
  have hconv : (convert 41 9 (.slice (some ⟨w.heap.size, 0, none⟩) 2 2)).run Tryz.prog (w.alloc (.cells #[.int .u8 (192 + r / 64), .int .u8 (128 + r % 64)] 5)) = .ok (.string S) (w.alloc (.cells #[.int .u8 (192 + r / 64), .int .u8 (128 + r % 64)] 5)) := by
    have hk : ∃ k : Nat, r = (k : Int) := ⟨r.toNat, by omega⟩
    obtain ⟨k, rfl⟩ := hk
    have he : enc (k : Int).toNat = [(192 + k / 64).toUInt8, (128 + k % 64).toUInt8] := by
      simp only [Int.toNat_natCast, enc]
      rw [if_neg (by omega), if_pos (by omega)]
    rw [hS.out, he]
    refine conv_new w _ _ ?_ 2 rfl
    simp only [Lib.byteCells, List.map_cons, List.map_nil, u8n (show 192 + k / 64 < 256 by omega), u8n (show 128 + k % 64 < 256 by omega)]
    rfl
  go_enter Tryz.func118, Tryz.ntmps118
  go_wp2
  go_ret
  exact ⟨rfl, below_new w _⟩

set_option maxRecDepth 100000 in
set_option maxHeartbeats 2000000 in
theorem rbytes_three (w : World) (r : Int) (h0 : 2048 ≤ r) (h : r < 65536) (S : ByteArray) (hS : Hid (S = ⟨(enc r.toNat).toArray⟩)) :
    Calls Tryz.prog 118 #[.int .i64 r] w fun e w' => e = .returned (.string S) ∧ Below w.heap.size w w' := by
  have hconv : (convert 41 9 (.slice (some ⟨w.heap.size, 0, none⟩) 3 3)).run Tryz.prog (w.alloc (.cells #[.int .u8 (224 + r / 4096), .int .u8 (128 + r / 64 % 64), .int .u8 (128 + r % 64)] 5)) = .ok (.string S) (w.alloc (.cells #[.int .u8 (224 + r / 4096), .int .u8 (128 + r / 64 % 64), .int .u8 (128 + r % 64)] 5)) := by
    have hk : ∃ k : Nat, r = (k : Int) := ⟨r.toNat, by omega⟩
    obtain ⟨k, rfl⟩ := hk
    have he : enc (k : Int).toNat = [(224 + k / 4096).toUInt8, (128 + k / 64 % 64).toUInt8, (128 + k % 64).toUInt8] := by
      simp only [Int.toNat_natCast, enc]
      rw [if_neg (by omega), if_neg (by omega), if_pos (by omega)]
    rw [hS.out, he]
    refine conv_new w _ _ ?_ 3 rfl
    simp only [Lib.byteCells, List.map_cons, List.map_nil, u8n (show 224 + k / 4096 < 256 by omega), u8n (show 128 + k / 64 % 64 < 256 by omega), u8n (show 128 + k % 64 < 256 by omega)]
    rfl
  go_enter Tryz.func118, Tryz.ntmps118
  go_wp2
  go_ret
  exact ⟨rfl, below_new w _⟩

set_option maxRecDepth 100000 in
set_option maxHeartbeats 2000000 in
theorem rbytes_four (w : World) (r : Int) (h0 : 65536 ≤ r) (h : r ≤ 1114111) (S : ByteArray) (hS : Hid (S = ⟨(enc r.toNat).toArray⟩)) :
    Calls Tryz.prog 118 #[.int .i64 r] w fun e w' => e = .returned (.string S) ∧ Below w.heap.size w w' := by
  have hconv : (convert 41 9 (.slice (some ⟨w.heap.size, 0, none⟩) 4 4)).run Tryz.prog (w.alloc (.cells #[.int .u8 (240 + r / 262144), .int .u8 (128 + r / 4096 % 64), .int .u8 (128 + r / 64 % 64), .int .u8 (128 + r % 64)] 5)) = .ok (.string S) (w.alloc (.cells #[.int .u8 (240 + r / 262144), .int .u8 (128 + r / 4096 % 64), .int .u8 (128 + r / 64 % 64), .int .u8 (128 + r % 64)] 5)) := by
    have hk : ∃ k : Nat, r = (k : Int) := ⟨r.toNat, by omega⟩
    obtain ⟨k, rfl⟩ := hk
    have he : enc (k : Int).toNat = [(240 + k / 262144).toUInt8, (128 + k / 4096 % 64).toUInt8, (128 + k / 64 % 64).toUInt8, (128 + k % 64).toUInt8] := by
      simp only [Int.toNat_natCast, enc]
      rw [if_neg (by omega), if_neg (by omega), if_neg (by omega)]
    rw [hS.out, he]
    refine conv_new w _ _ ?_ 4 rfl
    simp only [Lib.byteCells, List.map_cons, List.map_nil, u8n (show 240 + k / 262144 < 256 by omega), u8n (show 128 + k / 4096 % 64 < 256 by omega), u8n (show 128 + k / 64 % 64 < 256 by omega), u8n (show 128 + k % 64 < 256 by omega)]
    rfl
  go_enter Tryz.func118, Tryz.ntmps118
  go_wp2
  go_ret
  exact ⟨rfl, below_new w _⟩

theorem rbytes_any (w : World) (r : Nat) (h : r ≤ 1114111) :
    Calls Tryz.prog 118 #[.int .i64 (r : Int)] w fun e w' => e = .returned (.string ⟨(enc r).toArray⟩) ∧ Below w.heap.size w w' := by
  have hS : Hid ((⟨(enc r).toArray⟩ : ByteArray) = ⟨(enc ((r : Int)).toNat).toArray⟩) := rfl
  rcases Nat.lt_or_ge r 128 with h1 | h1
  · exact rbytes_one w r (by omega) (by omega) _ hS
  rcases Nat.lt_or_ge r 2048 with h2 | h2
  · exact rbytes_two w r (by omega) (by omega) _ hS
  rcases Nat.lt_or_ge r 65536 with h3 | h3
  · exact rbytes_three w r (by omega) (by omega) _ hS
  · exact rbytes_four w r (by omega) (by omega) _ hS

end Go.Proofs.YtmifejkddgcbmaaGreat

/- What the document's At and First answer. -/
namespace Go.Proofs.YtmifejkddgcbmaaGreat
open Go.RowKit
set_option linter.unusedVariables false
set_option linter.unusedSimpArgs false

/-- What At answers of what is there from the place on. -/
def aans (l : List UInt8) : Int × Int :=
  match first l with
  | none => (0, 0)
  | some (r, n) => ((r : Int), (n : Int))

theorem get_list {s : ByteArray} {a : Nat} (h : a < s.size) : ∃ h' : a < s.data.toList.length, s.data.toList[a] = s[a]'h :=
  ⟨by rw [size_list]; exact h, by simp [ByteArray.getElem_eq_getElem_data]⟩

set_option maxRecDepth 100000 in
set_option maxHeartbeats 1000000 in
theorem at_none (w : World) (s : ByteArray) (a : Nat) (ha : a < s.size) (hsz : s.size < 1152921504606846976) (r0 n : Nat) (hl : lead (s[a]'ha).toNat = (r0, n)) (hn : n = 0 ∨ s.size < a + n) (hn4 : n ≤ 4) :
    Calls Tryz.prog 97 #[.string s, .int .i64 (a : Int)] w fun e w' => e = .returned (.tuple #[.int .i64 0, .int .i64 0]) ∧ w' = w := by
  have hb0 := rsize_any w (s[a]'ha).toNat (s[a]'ha).toNat_lt
  rw [hl] at hb0
  clear hl
  by_cases hz : n = 0
  · subst hz
    clear hn
    go_enter Tryz.func97, Tryz.ntmps97
    go_wp2_with fail
    refine hb0.mono ?_
    rintro e w' ⟨rfl, rfl⟩
    go_wp2
    go_ret2
    exact ⟨rfl, rfl⟩
  · have hn0' : ((n : Int) == 0) = false := beq_eq_false_iff_ne.2 (by omega)
    have hn' : s.size < a + n := by omega
    clear hn
    go_enter Tryz.func97, Tryz.ntmps97
    go_wp2_with fail
    refine hb0.mono ?_
    rintro e w' ⟨rfl, rfl⟩
    go_wp2
    go_ret2
    exact ⟨rfl, rfl⟩

set_option maxRecDepth 100000 in
set_option maxHeartbeats 1000000 in
theorem at_walk (w : World) (s : ByteArray) (a : Nat) (ha : a < s.size) (hsz : s.size < 1152921504606846976) (r0 n : Nat) (hl : lead (s[a]'ha).toNat = (r0, n)) (hn0 : 1 ≤ n) (hn : a + n ≤ s.size) (hn4 : n ≤ 4) (hr0 : r0 < 128)
    (c : List UInt8) (hcl : c = (s.data.toList.drop (a + 1)).take (n - 1)) (a1 a2 : Int)
    (hbad : c.all cont = false → a1 = 0 ∧ a2 = 0)
    (hgood : c.all cont = true → n = size (val r0 c) → Ch (val r0 c) → a1 = val r0 c ∧ a2 = n)
    (hno : c.all cont = true → ¬ (n = size (val r0 c) ∧ Ch (val r0 c)) → a1 = 0 ∧ a2 = 0) :
    Calls Tryz.prog 97 #[.string s, .int .i64 (a : Int)] w fun e w' => e = .returned (.tuple #[.int .i64 a1, .int .i64 a2]) ∧ Below w.heap.size w w' := by
  have hb0 := rsize_any w (s[a]'ha).toNat (s[a]'ha).toNat_lt
  rw [hl] at hb0
  have hclen : c.length = n - 1 := by rw [hcl, List.length_take, List.length_drop, size_list]; omega
  have hn0' : ((n : Int) == 0) = false := beq_eq_false_iff_ne.2 (by omega)
  have HC : Hid (∀ j (hj : j < c.length) (h : a + (j + 1) < s.size), c[j] = s[a + (j + 1)]'h) := by
    intro j hj h
    obtain ⟨h1, h2⟩ := get_list h
    rw [← h2]
    subst hcl
    simp [List.getElem_take, List.getElem_drop, Nat.add_assoc, Nat.add_comm 1 j]
  have HB : Hid (c.all cont = false → a1 = 0 ∧ a2 = 0) := hbad
  have HG : Hid (c.all cont = true → n = size (val r0 c) → Ch (val r0 c) → a1 = val r0 c ∧ a2 = n) := hgood
  have HN : Hid (c.all cont = true → ¬ (n = size (val r0 c) ∧ Ch (val r0 c)) → a1 = 0 ∧ a2 = 0) := hno
  clear hl hbad hgood hno hcl
  go_enter Tryz.func97, Tryz.ntmps97
  go_wp2_with fail
  refine hb0.mono ?_
  rintro e w' ⟨rfl, rfl⟩
  go_wp2
  go_loop [7, 8] (fun v5 v30 => ∃ i r : Nat, i ≤ n - 1 ∧ v5 = .int .i64 (r : Int) ∧ v30 = .int .i64 ((i : Int) + 1) ∧ Hid (r = val r0 (c.take i)) ∧ Hid ((c.take i).all cont = true) ∧ Hid (r < 128 * 64 ^ i)) (fun _ v30 => n + 1 - (intOf v30).toNat)
  case atStart => exact ⟨0, r0, by omega, rfl, rfl, rfl, rfl, by show r0 < 128 * 64 ^ 0; simpa using hr0⟩
  case round =>
    obtain ⟨i, r, hi, rfl, rfl, hr, hall, hrb⟩ := hrel
    by_cases hlt : i < n - 1
    · have hin : a + (i + 1) < s.size := by omega
      have hci := HC.out i (by omega) hin
      generalize hx : (s[a + (i + 1)]'hin).toNat = x
      have hx256 : x < 256 := by rw [← hx]; exact UInt8.toNat_lt _
      have hrs : r < 524288 := by
        have h1 := hrb.out
        have h2 : (64:Nat) ^ i ≤ 64 ^ 2 := Nat.pow_le_pow_right (by omega) (by omega)
        omega
      have hlt1 : (i : Int) + 1 < (n : Int) := by omega
      have htake : c.take (i + 1) = c.take i ++ [c[i]'(by omega)] := by rw [List.take_add_one, List.getElem?_eq_getElem (by omega)]; rfl
      by_cases hct : 128 ≤ x ∧ x < 192
      · have hc1 : 128 ≤ x := hct.1
        have hc2 : x < 192 := hct.2
        clear HB HG HN
        go_wp2
        go_round
        case rel =>
          refine ⟨i + 1, r * 64 + x % 64, by omega, congrArg _ (by omega), by go_num, ?_, ?_, ?_⟩
          · show r * 64 + x % 64 = val r0 (c.take (i + 1))
            rw [htake, val_snoc, ← hr.out, hci, hx]
          · show (c.take (i + 1)).all cont = true
            rw [htake, List.all_append, hall.out]
            simp [cont, hci, hx, hct]
          · show r * 64 + x % 64 < 128 * 64 ^ (i + 1)
            have := hrb.out
            rw [Nat.pow_succ]
            omega
        case measure => simp [intOf]; omega
      · have hfin := HB.out (by
          rw [List.all_eq_false]
          exact ⟨c[i]'(by omega), List.getElem_mem _, by simp [cont, hci, hx, hct]⟩)
        obtain ⟨e1, e2⟩ := hfin
        clear HB HG HN hrb
        rcases Nat.lt_or_ge x 128 with hc1 | hc1
        · go_wp2
          go_ret2
          exact ⟨congrArg _ (v_two (by omega) (by omega)), Below.refl _ _⟩
        · have hc2 : 192 ≤ x := by omega
          go_wp2
          go_ret2
          exact ⟨congrArg _ (v_two (by omega) (by omega)), Below.refl _ _⟩
    · have hie : i = n - 1 := by omega
      have hct : c.take i = c := by rw [hie, ← hclen]; simp
      rw [hct] at hr hall
      have hch := rchar_any w' (r : Int)
      rw [charB_nat] at hch
      have hrv : r = val r0 c := hr
      have hall' : c.all cont = true := hall
      have HG2 := HG.out hall'
      have HN2 := HN.out hall'
      rw [← hrv] at HG2 HN2
      clear HG HN HB hr hall hrb hrv HC
      have hgt : (n : Int) ≤ (i : Int) + 1 := by omega
      by_cases h2 : Ch r
      · have hd : decide (Ch r) = true := by simpa using h2
        rw [hd] at hch
        have hby := rbytes_any w' r (by unfold Ch at h2; omega)
        have hsz : (⟨(enc r).toArray⟩ : ByteArray).size = size r := by
          rw [← enc_length]
          simp [ByteArray.size]
        generalize (⟨(enc r).toArray⟩ : ByteArray) = S at hby hsz
        by_cases h1 : n = size r
        · obtain ⟨e1, e2⟩ := HG2 h1 h2
          have hnn : ((S.size : Int) != (n : Int)) = false := by rw [hsz, h1]; simp
          clear HG2 HN2
          go_wp2_with fail
          refine hch.mono ?_
          rintro e w2 ⟨rfl, rfl⟩
          go_wp2_with fail
          refine hby.mono ?_
          rintro e w3 ⟨rfl, hbel⟩
          go_wp2
          go_ret2
          exact ⟨congrArg _ (v_two (by omega) (by omega)), hbel⟩
        · obtain ⟨e1, e2⟩ := HN2 (by simp [h1])
          have hnn : ((S.size : Int) != (n : Int)) = true := bne_iff_ne.2 (by omega)
          clear HG2 HN2
          go_wp2_with fail
          refine hch.mono ?_
          rintro e w2 ⟨rfl, rfl⟩
          go_wp2_with fail
          refine hby.mono ?_
          rintro e w3 ⟨rfl, hbel⟩
          go_wp2
          go_ret2
          exact ⟨congrArg _ (v_two (by omega) (by omega)), hbel⟩
      · obtain ⟨e1, e2⟩ := HN2 (by simp [h2])
        have hd : decide (Ch r) = false := by simpa using h2
        rw [hd] at hch
        clear HG2 HN2
        go_wp2_with fail
        refine hch.mono ?_
        rintro e w2 ⟨rfl, rfl⟩
        go_wp2
        go_ret2
        exact ⟨congrArg _ (v_two (by omega) (by omega)), Below.refl _ _⟩

theorem drop_get {s : ByteArray} {a : Nat} (h : a < s.size) : s.data.toList.drop a = (s[a]'h) :: s.data.toList.drop (a + 1) := by
  obtain ⟨h1, h2⟩ := get_list h
  rw [← h2, ← List.drop_eq_getElem_cons h1]

theorem at_any (w : World) (s : ByteArray) (a : Nat) (ha : a < s.size) (hsz : s.size < 1152921504606846976) :
    Calls Tryz.prog 97 #[.string s, .int .i64 (a : Int)] w fun e w' => e = .returned (.tuple #[.int .i64 (aans (s.data.toList.drop a)).1, .int .i64 (aans (s.data.toList.drop a)).2]) ∧ Below w.heap.size w w' := by
  rw [drop_get ha]
  generalize hb : s[a]'ha = b
  have hlead := lead_is b.toNat
  have htl : (s.data.toList.drop (a + 1)).length = s.size - (a + 1) := by rw [List.length_drop, size_list]
  by_cases hn : (lead b.toNat).2 = 0 ∨ s.size < a + (lead b.toNat).2
  · have hf : first (b :: s.data.toList.drop (a + 1)) = none := by
      simp only [first, List.length_cons, htl]
      rw [if_pos (by omega)]
    simp only [aans, hf]
    refine (at_none w s a ha hsz (lead b.toNat).1 (lead b.toNat).2 (by rw [hb]) hn (by omega)).mono ?_
    rintro e w' ⟨rfl, rfl⟩
    exact ⟨rfl, Below.refl _ _⟩
  · have hf : first (b :: s.data.toList.drop (a + 1)) = if ((s.data.toList.drop (a + 1)).take ((lead b.toNat).2 - 1)).all cont = true then
        (if (lead b.toNat).2 = size (val (lead b.toNat).1 ((s.data.toList.drop (a + 1)).take ((lead b.toNat).2 - 1))) ∧ Ch (val (lead b.toNat).1 ((s.data.toList.drop (a + 1)).take ((lead b.toNat).2 - 1))) then some (val (lead b.toNat).1 ((s.data.toList.drop (a + 1)).take ((lead b.toNat).2 - 1)), (lead b.toNat).2) else none)
      else none := by
      simp only [first, List.length_cons, htl]
      rw [if_neg (by omega)]
    refine at_walk w s a ha hsz (lead b.toNat).1 (lead b.toNat).2 (by rw [hb]) (by omega) (by omega) (by omega) (by omega) ((s.data.toList.drop (a + 1)).take ((lead b.toNat).2 - 1)) rfl _ _ ?_ ?_ ?_
    · intro h
      simp [aans, hf, h]
    · intro h1 h2 h3
      rw [if_pos h1, if_pos ⟨h2, h3⟩] at hf
      simp [aans, hf]
    · intro h1 h2
      rw [if_pos h1, if_neg h2] at hf
      simp [aans, hf]

end Go.Proofs.YtmifejkddgcbmaaGreat

/- What Text answers, the program's and the document's. -/
namespace Go.Proofs.YtmifejkddgcbmaaGreat
open Go.RowKit
set_option linter.unusedVariables false
set_option linter.unusedSimpArgs false

/-- What is wrong with a list of bytes, and where, however long it is. -/
def bans (l : List UInt8) : Int × Int := if (scan l).2 = [] then (0, 0) else (((bytes (scan l).1).length : Int), 7)
/-- What Text answers. -/
def tans (l : List UInt8) : Int × Int := if 16384 < l.length then (0, 2) else bans l

/-- From the beginning of a character on: the rest of the scan. -/
theorem scan_at {l : List UInt8} {a b : List Nat} (h : (scan l).1 = a ++ b) : l.drop (bytes a).length = bytes b ++ (scan l).2 := by
  have h1 := (scan_spec l).1
  rw [h, bytes_append, List.append_assoc] at h1
  have h2 : l.drop (bytes a).length = (bytes a ++ (bytes b ++ (scan l).2)).drop (bytes a).length := by rw [← h1]
  rw [h2]
  simp
theorem scan_le {l : List UInt8} {a b : List Nat} (h : (scan l).1 = a ++ b) : (bytes a).length + (bytes b).length + (scan l).2.length = l.length := by
  have h1 := (scan_spec l).1
  rw [h, bytes_append, List.append_assoc] at h1
  have h2 := congrArg List.length h1
  simp only [List.length_append] at h2
  omega

/-- Where a scan stands: either a character that can be begins, or none does, or the text ends. -/
theorem scan_step {l : List UInt8} {a b : List Nat} (h : (scan l).1 = a ++ b) (hp : (bytes a).length < l.length) :
    (∃ r b', b = r :: b' ∧ Ch r ∧ first (l.drop (bytes a).length) = some (r, (enc r).length) ∧ (scan l).1 = (a ++ [r]) ++ b' ∧ (bytes (a ++ [r])).length = (bytes a).length + (enc r).length ∧ (bytes a).length + (enc r).length ≤ l.length) ∨
    (b = [] ∧ first (l.drop (bytes a).length) = none ∧ (scan l).2 ≠ [] ∧ bans l = (((bytes a).length : Int), 7)) := by
  have h1 := scan_at h
  have h2 := scan_le h
  have h3 := scan_spec l
  cases b with
  | nil =>
    right
    rw [bytes_nil, List.nil_append] at h1
    have hne : (scan l).2 ≠ [] := by
      intro he
      rw [he, bytes_nil] at h2
      simp at h2
      omega
    refine ⟨rfl, by rw [h1]; exact h3.2.2, hne, ?_⟩
    rw [List.append_nil] at h
    rw [bans, if_neg hne, h]
  | cons r b' =>
    left
    have hr : Ch r := h3.2.1 r (by rw [h]; simp)
    rw [bytes_cons, List.append_assoc] at h1
    rw [bytes_cons, List.length_append] at h2
    refine ⟨r, b', rfl, hr, by rw [h1]; exact first_enc hr _, by rw [h]; simp, ?_, by omega⟩
    rw [bytes_append, List.length_append, bytes_cons, bytes_nil, List.append_nil]

theorem scan_end {l : List UInt8} {a b : List Nat} (h : (scan l).1 = a ++ b) (hp : ¬ (bytes a).length < l.length) : b = [] ∧ (scan l).2 = [] ∧ bans l = (0, 0) := by
  have h2 := scan_le h
  have hr : (scan l).2 = [] := List.length_eq_zero_iff.1 (by omega)
  refine ⟨?_, hr, by rw [bans, if_pos hr]⟩
  cases b with
  | nil => rfl
  | cons r b' =>
    rw [bytes_cons, List.length_append] at h2
    have := enc_pos r
    omega

theorem fans_of {l : List UInt8} {r n : Nat} (h : first l = some (r, n)) : fans l = ((r : Int), (n : Int), 0) := by
  cases l with
  | nil => simp [first] at h
  | cons b t => simp [fans, h]
theorem fans_no {l : List UInt8} (hl : 0 < l.length) (h : first l = none) : fans l = (0, 0, 7) := by
  cases l with
  | nil => simp at hl
  | cons b t => simp [fans, h]

set_option maxRecDepth 100000 in
set_option maxHeartbeats 1000000 in
theorem text_long (w : World) (s : ByteArray) (h : 16384 < s.size) :
    Calls Tryz.prog 45 #[.string s] w fun e w' => e = .returned (.tuple #[.int .i64 0, .int .i64 2]) ∧ w' = w := by
  go_enter Tryz.func45, Tryz.ntmps45
  go_wp2
  go_ret2
  exact ⟨rfl, rfl⟩

set_option maxRecDepth 100000 in
set_option maxHeartbeats 1000000 in
theorem text_walk (w : World) (s : ByteArray) (h : s.size ≤ 16384) (x y : Int) (hxy : bans s.data.toList = (x, y)) :
    Calls Tryz.prog 45 #[.string s] w fun e w' => e = .returned (.tuple #[.int .i64 x, .int .i64 y]) ∧ Below w.heap.size w w' := by
  have HX : Hid (bans s.data.toList = (x, y)) := hxy
  have hl := size_list s
  clear hxy
  go_enter Tryz.func45, Tryz.ntmps45
  go_wp2
  go_loopw [] (fun wr => ∃ (a b : List Nat), Hid ((scan s.data.toList).1 = a ++ b) ∧ wr.heap[w.heap.size]? = some (.stringIter s (bytes a).length) ∧ Hid (Below w.heap.size w wr)) (fun wr => s.size - wr.iterPos w.heap.size)
  case atStart =>
    refine ⟨[], (scan s.data.toList).1, rfl, ?_, ?_⟩
    · exact World.iter_heap w s 0
    · exact below_new w _
  case round =>
    obtain ⟨a, b, hab, hit, hbw⟩ := hrel
    have hszr : w.heap.size < wr.heap.size := (Array.getElem?_eq_some_iff.1 hit).1
    have hm0 : wr.iterPos w.heap.size = (bytes a).length := by simp only [World.iterPos, hit]
    by_cases hp : (bytes a).length < s.size
    · have hnx : ∀ ty, (Instr.next (.pointer (some ⟨w.heap.size, 0, none⟩)) true ty).run Tryz.prog wr = _ := fun ty => Lib.run_next_any_at wr w.heap.size s (bytes a).length ty hit hp
      have hit1 := Lib.iterAt_heap wr w.heap.size s (bytes a).length ((bytes a).length + (Utf8.decode s (bytes a).length).2) hit
      have hbw1 : Hid (Below w.heap.size w (wr.iterAt w.heap.size s ((bytes a).length + (Utf8.decode s (bytes a).length).2))) := Lib.below_iterAt hbw.out (Nat.le_refl _) s _
      have hsz1 := Lib.iterAt_size wr w.heap.size s ((bytes a).length + (Utf8.decode s (bytes a).length).2)
      have hfi := first_any (wr.iterAt w.heap.size s ((bytes a).length + (Utf8.decode s (bytes a).length).2)) (s.extract (bytes a).length s.size)
      have hex : (s.extract (bytes a).length s.size).data.toList = s.data.toList.drop (bytes a).length := by
        rw [Lib.extract_data, List.take_of_length_le]
        rw [List.length_drop, hl]
        exact Nat.le_refl _
      have hdl : (s.data.toList.drop (bytes a).length).length = s.size - (bytes a).length := by rw [List.length_drop, hl]
      rw [hex, hsz1] at hfi
      have hst := scan_step hab.out (by rw [hl]; exact hp)
      rcases hst with ⟨r, b', rfl, hr, hf, hsc, hlen, hle⟩ | ⟨rfl, hf, hne, hans⟩
      · have hdec : Utf8.decode s (bytes a).length = (r, (enc r).length) := by
          obtain ⟨_, _, t, ht⟩ := first_some hf
          exact decode_enc hr ht
        rw [fans_of hf] at hfi
        rw [hdec] at hnx hit1 hbw1 hfi
        rw [← hlen] at hnx hit1 hbw1 hfi
        have HSC : Hid ((scan s.data.toList).1 = (a ++ [r]) ++ b') := hsc
        have hpl : (bytes a).length < (bytes (a ++ [r])).length := by have := enc_pos r; omega
        generalize wr.iterAt w.heap.size s (bytes (a ++ [r])).length = W1 at *
        clear hab hf hsc hdec hex HX hbw hle hlen
        generalize hq : (bytes a).length = q at *
        clear hq
        go_wp2_with fail
        refine hfi.mono ?_
        rintro e W2 ⟨rfl, hb2⟩
        have hit2 : W2.heap[w.heap.size]? = some (.stringIter s (bytes (a ++ [r])).length) := by rw [hb2.block w.heap.size hszr]; exact hit1
        go_wp2
        go_roundw
        case rel => exact ⟨a ++ [r], b', HSC, hit2, hbw1.out.trans (hb2.mono (by omega))⟩
        case measure =>
          simp only [World.iterPos, hit2, hit]
          omega
      · rw [fans_no (by omega) hf] at hfi
        have hxy : x = ((bytes a).length : Int) ∧ y = 7 := by
          have := HX.out
          rw [hans] at this
          simp only [Prod.mk.injEq] at this
          omega
        obtain ⟨hx1, hy1⟩ := hxy
        clear hab hf hex hbw HX hans hne
        generalize wr.iterAt w.heap.size s ((bytes a).length + (Utf8.decode s (bytes a).length).2) = W1 at *
        generalize hq : (bytes a).length = q at *
        clear hq
        go_wp2_with fail
        refine hfi.mono ?_
        rintro e W2 ⟨rfl, hb2⟩
        go_wp2
        go_ret2
        exact ⟨congrArg _ (v_two hx1.symm hy1.symm), hbw1.out.trans (hb2.mono (by omega))⟩
    · have hnx : ∀ ty, (Instr.next (.pointer (some ⟨w.heap.size, 0, none⟩)) true ty).run Tryz.prog wr = _ := fun ty => Lib.run_next_end_at wr w.heap.size s (bytes a).length ty hit hp
      have he := (scan_end hab.out (by rw [hl]; exact hp)).2.2
      have hxy : x = 0 ∧ y = 0 := by
        have := HX.out
        rw [he] at this
        simp only [Prod.mk.injEq] at this
        omega
      obtain ⟨rfl, rfl⟩ := hxy
      clear hab HX he
      go_wp2
      go_ret2
      exact ⟨rfl, hbw.out⟩

theorem text_any (w : World) (s : ByteArray) :
    Calls Tryz.prog 45 #[.string s] w fun e w' => e = .returned (.tuple #[.int .i64 (tans s.data.toList).1, .int .i64 (tans s.data.toList).2]) ∧ Below w.heap.size w w' := by
  have hl := size_list s
  by_cases h : 16384 < s.size
  · rw [tans, if_pos (by omega)]
    refine (text_long w s h).mono ?_
    rintro e w' ⟨rfl, rfl⟩
    exact ⟨rfl, Below.refl _ _⟩
  · rw [tans, if_neg (by omega)]
    exact text_walk w s (by omega) _ _ rfl

end Go.Proofs.YtmifejkddgcbmaaGreat
