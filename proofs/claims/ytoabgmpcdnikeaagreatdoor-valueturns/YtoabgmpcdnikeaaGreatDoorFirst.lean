/- What First answers, the program's and the document's: the character with which a text begins. -/
import Derived.Test.YtoabgmpcdnikeaaGreatDoorSmall
import Derived.Lib.ConvBytes
import Derived.Lib.Strings
namespace Go.Proofs.YtoabgmpcdnikeaaGreatDoor
open Go.RowKit
set_option linter.unusedVariables false

theorem below_bytesWorld (w : World) (e : TypeId) (s : ByteArray) : Below w.heap.size w (Lib.bytesWorld w e s) :=
  ⟨by simp [Lib.bytesWorld, World.freeze, World.alloc, World.drew, -World.alloc_eq, -World.drew_eq], by simp [Lib.bytesWorld, World.freeze, World.alloc, World.drew, -World.alloc_eq, -World.drew_eq], by simp [Lib.bytesWorld, World.freeze, World.alloc, World.drew, -World.alloc_eq, -World.drew_eq], by rw [Lib.bytesWorld_size]; omega, fun i hi => Lib.bytesWorld_at_old w e s i hi⟩

/-- A text turned into bytes: a new block that reads as the text. -/
theorem conv_bytes (w : World) (s : ByteArray) : ∃ W cap, (convert 9 131 (.string s)).run Tryz.prog w = .ok (.slice (some ⟨w.heap.size, 0, none⟩) s.size cap) W ∧ Below w.heap.size w W ∧ W.heap.size = w.heap.size + 1 ∧
    (∃ cs fz, W.heap[w.heap.size]? = some (.cells cs 5 fz) ∧ ∀ j (hj : j < s.data.toList.length), cs[j]? = some (.int .u8 ((s.data.toList[j]).toNat : Int))) := by
  refine ⟨_, _, Lib.run_convert_string_bytes w 9 131 5 s Tryz.underlying9 Tryz.underlying131 Tryz.underlying5, below_bytesWorld w 5 s, Lib.bytesWorld_size w 5 s, ?_⟩
  refine ⟨_, _, Lib.bytesWorld_at_new w 5 s, ?_⟩
  intro j hj
  have hj2 : j < s.size := by simpa using hj
  simp [Lib.bytesCells, Array.getElem?_append, hj2]

theorem bytes_cell {W : World} {b : Nat} {l : List UInt8} (h : ∃ cs fz, W.heap[b]? = some (.cells cs 5 fz) ∧ ∀ j (hj : j < l.length), cs[j]? = some (.int .u8 ((l[j]).toNat : Int))) (j : Nat) (hj : j < l.length) :
    W.cell? ⟨b, j, none⟩ = some (.int .u8 ((l[j]).toNat : Int)) := by
  obtain ⟨cs, fz, h1, h2⟩ := h
  simp [World.cell?, h1, h2 j hj]

theorem or_i64 {r y : Nat} (hr : r < 524288) (hy : y < 64) : bits .or .i64 ((r : Int) * 64) (y : Int) = ((r * 64 + y : Nat) : Int) := by
  have h1 : (BitVec.ofInt 64 ((r * 64 : Nat) : Int)).toNat = r * 64 := by
    rw [BitVec.ofInt_natCast, BitVec.toNat_ofNat]; exact Nat.mod_eq_of_lt (by omega)
  have h2 : (BitVec.ofInt 64 (y : Int)).toNat = y := by
    rw [BitVec.ofInt_natCast, BitVec.toNat_ofNat]; exact Nat.mod_eq_of_lt (by omega)
  have h3 : r * 64 ||| y = r * 64 + y := by
    have := Nat.shiftLeft_add_eq_or_of_lt (i := 6) (b := y) (by omega) r
    rw [Nat.shiftLeft_eq] at this
    exact this.symm
  rw [show ((r : Int) * 64) = ((r * 64 : Nat) : Int) by simp]
  show IntKind.i64.wrap ((BitVec.ofInt 64 ((r * 64 : Nat) : Int) ||| BitVec.ofInt 64 (y : Int)).toNat : Int) = _
  rw [BitVec.toNat_or, h1, h2, h3, IntKind.wrap_i64]
  omega
theorem and192 : ∀ x : Fin 256, (bits .and .u8 ((x.val : Nat) : Int) 192 != 128) = !(decide (128 ≤ x.val ∧ x.val < 192)) := by decide +kernel
theorem and192' {x : Nat} (h : x < 256) : (bits .and .u8 (x : Int) 192 != 128) = !(decide (128 ≤ x ∧ x < 192)) := and192 ⟨x, h⟩

theorem val_snoc (r0 : Nat) (a : List UInt8) (b : UInt8) : val r0 (a ++ [b]) = val r0 a * 64 + b.toNat % 64 := by simp [val]

theorem notEmpty {s : ByteArray} (h0 : 0 < s.size) : s.toList.isEmpty = false := by
  rw [Lib.toList_data]
  have : s.data.toList ≠ [] := by
    intro h
    have h2 : s.data.toList.length = s.size := by simp
    rw [h] at h2
    simp at h2
    omega
  simpa using this

set_option maxRecDepth 100000 in
set_option maxHeartbeats 1000000 in
theorem first_walk (w : World) (s : ByteArray) (h0 : 0 < s.size) (r0 n : Nat) (hl : lead (s[0]'h0).toNat = (r0, n)) (hn0 : 1 ≤ n) (hn : n ≤ s.size) (hn4 : n ≤ 4) (hr0 : r0 < 128)
    (c : List UInt8) (hcl : c = (s.extract 1 n).data.toList) (a1 a2 a3 : Int)
    (hbad : c.all cont = false → a1 = 0 ∧ a2 = 0 ∧ a3 = 7)
    (hgood : c.all cont = true → n = size (val r0 c) → Ch (val r0 c) → a1 = val r0 c ∧ a2 = n ∧ a3 = 0)
    (hno : c.all cont = true → ¬ (n = size (val r0 c) ∧ Ch (val r0 c)) → a1 = 0 ∧ a2 = 0 ∧ a3 = 7) :
    Calls Tryz.prog 129 #[.string s] w fun e w' => e = .returned (.tuple #[.int .i64 a1, .int .i64 a2, .int .i64 a3]) ∧ Below w.heap.size w w' := by
  have hb0 := lead_any w (s[0]'h0).toNat (s[0]'h0).toNat_lt
  rw [hl] at hb0
  have hne : s.toList.isEmpty = false := notEmpty h0
  obtain ⟨W, cap, hrun, hbel, hWs, hc⟩ := conv_bytes w (s.extract 1 n)
  have hesz : (s.extract 1 n).size = n - 1 := by simp; omega
  rw [hesz] at hrun
  have HC : Hid (∀ j (hj : j < c.length), W.cell? ⟨w.heap.size, j, none⟩ = some (.int .u8 ((c[j]).toNat : Int))) := by subst hcl; exact bytes_cell hc
  have hclen : c.length = n - 1 := by rw [hcl, ← hesz]; simp only [Array.length_toList, ByteArray.size_data]
  have hn0' : ((n : Int) == 0) = false := beq_eq_false_iff_ne.2 (by omega)
  have HB : Hid (c.all cont = false → a1 = 0 ∧ a2 = 0 ∧ a3 = 7) := hbad
  have HG : Hid (c.all cont = true → n = size (val r0 c) → Ch (val r0 c) → a1 = val r0 c ∧ a2 = n ∧ a3 = 0) := hgood
  have HN : Hid (c.all cont = true → ¬ (n = size (val r0 c) ∧ Ch (val r0 c)) → a1 = 0 ∧ a2 = 0 ∧ a3 = 7) := hno
  have HW : Hid (Below w.heap.size w W) := hbel
  clear hl hc hbad hgood hno hcl hbel
  go_enter Tryz.func129, Tryz.ntmps129
  go_wp2_with fail
  refine hb0.mono ?_
  rintro e w' ⟨rfl, rfl⟩
  go_wp2
  go_loop [5, 30] (fun v5 v30 => ∃ i r : Nat, i ≤ n - 1 ∧ v5 = .int .i64 (r : Int) ∧ v30 = .int .i64 (i : Int) ∧ Hid (r = val r0 (c.take i)) ∧ Hid ((c.take i).all cont = true) ∧ Hid (r < 128 * 64 ^ i)) (fun _ v30 => n - (intOf v30).toNat)
  case atStart => exact ⟨0, r0, by omega, rfl, rfl, rfl, rfl, by show r0 < 128 * 64 ^ 0; simpa using hr0⟩
  case round =>
    obtain ⟨i, r, hi, rfl, rfl, hr, hall, hrb⟩ := hrel
    by_cases hlt : i < n - 1
    · have hcell := HC.out i (by omega)
      generalize hx : (c[i]'(by omega)).toNat = x at hcell
      have hx256 : x < 256 := by rw [← hx]; exact UInt8.toNat_lt _
      have hrs : r < 524288 := by
        have h1 := hrb.out
        have h2 : (64:Nat) ^ i ≤ 64 ^ 2 := Nat.pow_le_pow_right (by omega) (by omega)
        omega
      have hlt1 : (i : Int) < (n : Int) - 1 := by omega
      have htake : c.take (i + 1) = c.take i ++ [c[i]'(by omega)] := by rw [List.take_add_one, List.getElem?_eq_getElem (by omega)]; rfl
      by_cases hct : 128 ≤ x ∧ x < 192
      · have hand : (bits .and .u8 (x : Int) 192 != 128) = false := by rw [and192' hx256]; simp [hct]
        have hor : bits .or .i64 ((r : Int) * 64) ((x : Int) % 64) = ((r * 64 + x % 64 : Nat) : Int) := by
          have := or_i64 (y := x % 64) hrs (by omega)
          simpa using this
        clear HB HG HN
        generalize hr2 : r * 64 + x % 64 = r2 at hor
        go_wp2
        go_round
        case rel =>
          refine ⟨i + 1, r2, by omega, rfl, by go_num, ?_, ?_, ?_⟩
          · show r2 = val r0 (c.take (i + 1))
            rw [htake, val_snoc, ← hr.out, hx, hr2]
          · show (c.take (i + 1)).all cont = true
            rw [htake, List.all_append, hall.out]
            simp [cont, hx, hct]
          · show r2 < 128 * 64 ^ (i + 1)
            have := hrb.out
            rw [Nat.pow_succ]
            omega
        case measure => simp [intOf]; omega
      · have hand : (bits .and .u8 (x : Int) 192 != 128) = true := by rw [and192' hx256]; simp [hct]
        have hfin := HB.out (by
          rw [List.all_eq_false]
          exact ⟨c[i]'(by omega), List.getElem_mem _, by simp [cont, hx, hct]⟩)
        obtain ⟨e1, e2, e3⟩ := hfin
        clear HB HG HN hrb
        go_wp2
        go_ret3
        exact ⟨congrArg _ (v_three (by omega) (by omega) (by omega)), HW.out⟩
    · have hie : i = n - 1 := by omega
      have hct : c.take i = c := by rw [hie, ← hclen]; simp
      rw [hct] at hr hall
      have hsz := size_any W r
      have hch := char_any W (r : Int)
      rw [charB_nat] at hch
      have hrv : r = val r0 c := hr
      have hall' : c.all cont = true := hall
      have HG2 := HG.out hall'
      have HN2 := HN.out hall'
      rw [← hrv] at HG2 HN2
      clear HG HN HB hr hall hrb hrv HC
      by_cases h1 : n = size r
      · by_cases h2 : Ch r
        · obtain ⟨e1, e2, e3⟩ := HG2 h1 h2
          have hd : decide (Ch r) = true := by simpa using h2
          rw [hd] at hch
          clear HG2 HN2
          have hnn : ((n : Int) != (size r : Int)) = false := by rw [h1]; simp
          generalize size r = z at *
          go_wp2_with fail
          refine hsz.mono ?_
          rintro e w2 ⟨rfl, rfl⟩
          go_wp2_with fail
          refine hch.mono ?_
          rintro e w3 ⟨rfl, rfl⟩
          go_wp2
          go_ret3
          exact ⟨congrArg _ (v_three (by omega) (by omega) (by omega)), HW.out⟩
        · obtain ⟨e1, e2, e3⟩ := HN2 (by simp [h2])
          have hd : decide (Ch r) = false := by simpa using h2
          rw [hd] at hch
          clear HG2 HN2
          have hnn : ((n : Int) != (size r : Int)) = false := by rw [h1]; simp
          generalize size r = z at *
          go_wp2_with fail
          refine hsz.mono ?_
          rintro e w2 ⟨rfl, rfl⟩
          go_wp2_with fail
          refine hch.mono ?_
          rintro e w3 ⟨rfl, rfl⟩
          go_wp2
          go_ret3
          exact ⟨congrArg _ (v_three (by omega) (by omega) (by omega)), HW.out⟩
      · obtain ⟨e1, e2, e3⟩ := HN2 (by simp [h1])
        clear HG2 HN2 hch
        have hnn : ((n : Int) != (size r : Int)) = true := bne_iff_ne.2 (by omega)
        generalize size r = z at *
        go_wp2_with fail
        refine hsz.mono ?_
        rintro e w2 ⟨rfl, rfl⟩
        go_wp2
        go_ret3
        exact ⟨congrArg _ (v_three (by omega) (by omega) (by omega)), HW.out⟩

/-- What First answers of a list of bytes. -/
def fans (l : List UInt8) : Int × Int × Int :=
  match l with
  | [] => (0, 0, 4)
  | _ :: _ => match first l with
    | none => (0, 0, 7)
    | some (r, n) => ((r : Int), (n : Int), 0)

set_option maxRecDepth 100000 in
set_option maxHeartbeats 1000000 in
theorem first_empty (w : World) (s : ByteArray) (h0 : s.toList.isEmpty = true) :
    Calls Tryz.prog 129 #[.string s] w fun e w' => e = .returned (.tuple #[.int .i64 0, .int .i64 0, .int .i64 4]) ∧ w' = w := by
  go_enter Tryz.func129, Tryz.ntmps129
  go_wp2
  go_ret3
  exact ⟨rfl, rfl⟩

set_option maxRecDepth 100000 in
set_option maxHeartbeats 1000000 in
theorem first_none (w : World) (s : ByteArray) (h0 : 0 < s.size) (r0 n : Nat) (hl : lead (s[0]'h0).toNat = (r0, n)) (hn : n = 0 ∨ s.size < n) :
    Calls Tryz.prog 129 #[.string s] w fun e w' => e = .returned (.tuple #[.int .i64 0, .int .i64 0, .int .i64 7]) ∧ w' = w := by
  have hb0 := lead_any w (s[0]'h0).toNat (s[0]'h0).toNat_lt
  rw [hl] at hb0
  have hne : s.toList.isEmpty = false := notEmpty h0
  clear hl
  by_cases hz : n = 0
  · subst hz
    clear hn
    go_enter Tryz.func129, Tryz.ntmps129
    go_wp2_with fail
    refine hb0.mono ?_
    rintro e w' ⟨rfl, rfl⟩
    go_wp2
    go_ret3
    exact ⟨rfl, rfl⟩
  · have hn0' : ((n : Int) == 0) = false := beq_eq_false_iff_ne.2 (by omega)
    have hn' : s.size < n := by omega
    clear hn
    go_enter Tryz.func129, Tryz.ntmps129
    go_wp2_with fail
    refine hb0.mono ?_
    rintro e w' ⟨rfl, rfl⟩
    go_wp2
    go_ret3
    exact ⟨rfl, rfl⟩

theorem size_list (s : ByteArray) : s.data.toList.length = s.size := by simp
theorem head_list {s : ByteArray} {b : UInt8} {t : List UInt8} (h : s.data.toList = b :: t) (h0 : 0 < s.size) : s[0]'h0 = b := by
  have h1 : s.data.toList[0]? = some b := by rw [h]; rfl
  obtain ⟨h2, h3⟩ := List.getElem?_eq_some_iff.1 h1
  rw [← h3]
  simp [ByteArray.getElem_eq_getElem_data]

theorem first_any (w : World) (s : ByteArray) :
    Calls Tryz.prog 129 #[.string s] w fun e w' => e = .returned (.tuple #[.int .i64 (fans s.data.toList).1, .int .i64 (fans s.data.toList).2.1, .int .i64 (fans s.data.toList).2.2]) ∧ Below w.heap.size w w' := by
  have hl := size_list s
  cases hs : s.data.toList with
  | nil =>
    refine (first_empty w s (by rw [Lib.toList_data, hs]; rfl)).mono ?_
    rintro e w' ⟨rfl, rfl⟩
    exact ⟨rfl, Below.refl _ _⟩
  | cons b t =>
    rw [hs] at hl
    simp only [List.length_cons] at hl
    have h0 : 0 < s.size := by omega
    have hb := head_list hs h0
    have hlead := lead_is b.toNat
    by_cases hn : (lead b.toNat).2 = 0 ∨ s.size < (lead b.toNat).2
    · have hf : first (b :: t) = none := by
        simp only [first, List.length_cons]
        rw [if_pos (by omega)]
      simp only [fans, hf]
      refine (first_none w s h0 (lead b.toNat).1 (lead b.toNat).2 (by rw [hb]) hn).mono ?_
      rintro e w' ⟨rfl, rfl⟩
      exact ⟨rfl, Below.refl _ _⟩
    · have hc : (s.extract 1 (lead b.toNat).2).data.toList = t.take ((lead b.toNat).2 - 1) := by rw [Lib.extract_data, hs]; rfl
      have hf : first (b :: t) = if (t.take ((lead b.toNat).2 - 1)).all cont = true then
          (if (lead b.toNat).2 = size (val (lead b.toNat).1 (t.take ((lead b.toNat).2 - 1))) ∧ Ch (val (lead b.toNat).1 (t.take ((lead b.toNat).2 - 1))) then some (val (lead b.toNat).1 (t.take ((lead b.toNat).2 - 1)), (lead b.toNat).2) else none)
        else none := by
        simp only [first, List.length_cons]
        rw [if_neg (by omega)]
      refine first_walk w s h0 (lead b.toNat).1 (lead b.toNat).2 (by rw [hb]) (by omega) (by omega) (by omega) (by omega) (t.take ((lead b.toNat).2 - 1)) hc.symm _ _ _ ?_ ?_ ?_
      · intro h
        simp [fans, hf, h]
      · intro h1 h2 h3
        rw [if_pos h1, if_pos ⟨h2, h3⟩] at hf
        simp [fans, hf]
      · intro h1 h2
        rw [if_pos h1, if_neg h2] at hf
        simp [fans, hf]

end Go.Proofs.YtoabgmpcdnikeaaGreatDoor
