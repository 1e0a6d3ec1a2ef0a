/- The document's Can; Same of two values that are the same. -/
import Derived.Test.YtoabgmpcdnikeaaGreatDoorXa
namespace Go.Proofs.YtoabgmpcdnikeaaGreatDoor
open Go.RowKit
set_option linter.unusedVariables false

set_option maxRecDepth 100000 in
set_option maxHeartbeats 2000000 in
theorem dcan_any (w : World) {k n : Int} {b no : Bool} {t : ByteArray} {a : Option Addr} {c : Nat} {L : List ByteArray} (h : VOk w ⟨k, b, n, no, t, L⟩ a) :
    Calls Tryz.prog 13 #[.agg #[.int .i64 k, .bool b, .int .i64 n, .bool no, .string t, .slice a L.length c]] w fun e w' => e = .returned (.bool (canV k (Tx t) (L.map Tx))) ∧ Below w.heap.size w w' := by
  have HH : Hid (VOk w ⟨k, b, n, no, t, L⟩ a) := h
  have lL := h.len
  simp only at lL
  clear h
  by_cases h1 : k = 1
  · subst h1
    rw [show canV 1 (Tx t) (L.map Tx) = true from rfl]
    go_enter Tryz.func13, Tryz.ntmps13
    go_wp2
    go_ret
    exact ⟨rfl, below1 _ _⟩
  by_cases h2 : k = 2
  · subst h2
    rw [show canV 2 (Tx t) (L.map Tx) = true from rfl]
    go_enter Tryz.func13, Tryz.ntmps13
    go_wp2
    go_ret
    exact ⟨rfl, below1 _ _⟩
  by_cases h3 : k = 3
  · subst h3
    have hw := fun u => dtext_any u t
    have HZ : Hid (canV 3 (Tx t) (L.map Tx) = decide ((tans (Tx t)).2 = 0)) := by show _ = _; simp [canV]
    rw [HZ.out]
    generalize decide ((tans (Tx t)).2 = 0) = z at *
    go_enter Tryz.func13, Tryz.ntmps13
    go_wp2_with (refine (hw _).mono ?_; rintro e w' ⟨rfl, hb⟩; have HB : Hid _ := hb; clear hb)
    go_ret
    exact ⟨rfl, (below1 _ _).trans (HB.out.mono (by simp))⟩
  by_cases h4 : k = 4
  · subst h4
    obtain ⟨R, HR⟩ : ∃ R, Hid (canV 4 (Tx t) (L.map Tx) = R) := ⟨_, rfl⟩
    rw [HR.out]
    have HZ : Hid ((decide (L.length ≤ 4096) && L.all fun s => decide ((tans (Tx s)).2 = 0)) = R) := by
      show _ = _
      rw [← HR.out]
      simp [canV]
      rfl
    clear HR
    by_cases hle : L.length ≤ 4096
    · have l1 : ¬ (4096 : Int) < (L.length : Int) := by omega
      have l2 : decide (4096 < L.length) = false := by simp; omega
      have HA : Hid ((L.all fun s => decide ((tans (Tx s)).2 = 0)) = R) := by show _ = _; rw [← HZ.out]; simp [hle]
      obtain ⟨W, hW⟩ : ∃ W, (w.alloc (.cells #[.int .i64 4, .bool b, .int .i64 n, .bool no, .string t, .slice a L.length c] 24)) = W := ⟨_, rfl⟩
      have HW : Hid ((w.alloc (.cells #[.int .i64 4, .bool b, .int .i64 n, .bool no, .string t, .slice a L.length c] 24)) = W ∧ Below w.heap.size w W ∧ IsCells W w.heap.size #[.int .i64 4, .bool b, .int .i64 n, .bool no, .string t, .slice a L.length c]) := ⟨hW, by rw [← hW]; exact below1 _ _, by rw [← hW]; exact isCells_new _ _ _⟩
      clear hW HZ
      go_enter Tryz.func13, Tryz.ntmps13
      go_wp2
      rw [HW.out.1]
      go_loopw [3] (fun u wr => ∃ i : Nat, i ≤ L.length ∧ u = .int .i64 (i : Int) ∧ Hid (Below w.heap.size w wr ∧ IsCells wr w.heap.size #[.int .i64 4, .bool b, .int .i64 n, .bool no, .string t, .slice a L.length c] ∧ ((L.take i).all fun s => decide ((tans (Tx s)).2 = 0)) = true)) (fun u _ => L.length - (intOf u).toNat)
      case atStart => exact ⟨0, by omega, rfl, HW.out.2.1, HW.out.2.2, rfl⟩
      case round =>
        obtain ⟨i, hi, rfl, HS⟩ := hrel
        have x5 : wr.cell? ⟨w.heap.size, 5, none⟩ = some (.slice a L.length c) := HS.out.2.1.cell 5
        by_cases hlt : i < L.length
        · have hltz : (i : Int) < (L.length : Int) := by omega
          obtain ⟨s, hs⟩ : ∃ s, L[i]? = some s := ⟨_, List.getElem?_eq_getElem hlt⟩
          obtain ⟨b1, o1, rfl, hb1, hcell⟩ := (HH.out.bel HS.out.1).at_ i s hs
          have ht := dtext_any wr s
          have HT : Hid (((L.take (i + 1)).all fun s => decide ((tans (Tx s)).2 = 0)) = decide ((tans (Tx s)).2 = 0)) := by
            show _ = _
            rw [List.take_add_one, hs, List.all_append, HS.out.2.2]
            simp
          have HF : Hid (decide ((tans (Tx s)).2 = 0) = false → R = false) := fun h0 => by
            rw [← HA.out, List.all_eq_false]
            exact ⟨s, List.mem_of_getElem? hs, by rw [h0]; simp⟩
          clear hs
          generalize decide ((tans (Tx s)).2 = 0) = q at *
          go_wp2_with fail
          with_reducible refine ht.mono ?_
          rintro e w2 ⟨rfl, hb⟩
          have HK : Hid (Below w.heap.size w w2 ∧ IsCells w2 w.heap.size #[.int .i64 4, .bool b, .int .i64 n, .bool no, .string t, .slice (some ⟨b1, o1, none⟩) L.length c]) := ⟨HS.out.1.trans (hb.mono HS.out.1.size), HS.out.2.1.of_block (hb.block _ HS.out.2.1.lt)⟩
          clear hb ht x5
          cases q with
          | true =>
            go_wp2
            go_roundw
            case rel => exact ⟨i + 1, by omega, by go_num, HK.out.1, HK.out.2, HT.out⟩
            case measure => simp [intOf]; omega
          | false =>
            obtain rfl := HF.out rfl
            go_wp2
            go_ret
            exact ⟨rfl, HK.out.1⟩
        · have hltz : ¬ (i : Int) < (L.length : Int) := by omega
          have hfin : R = true := by
            have h5 := HS.out.2.2
            rw [List.take_of_length_le (by omega), HA.out] at h5
            exact h5
          subst hfin
          go_wp2
          go_ret
          exact ⟨rfl, HS.out.1⟩
    · have l1 : (4096 : Int) < (L.length : Int) := by omega
      have l2 : decide (4096 < L.length) = true := by simp; omega
      have hR : R = false := by rw [← HZ.out]; simp [hle]
      subst hR
      clear HZ
      go_enter Tryz.func13, Tryz.ntmps13
      go_wp2
      go_ret
      exact ⟨rfl, below1 _ _⟩
  · have q1 : (k == 1) = false := by simpa using h1
    have q2 : (k == 2) = false := by simpa using h2
    have q3 : (k == 3) = false := by simpa using h3
    have q4 : (k == 4) = false := by simpa using h4
    rw [show canV k (Tx t) (L.map Tx) = false from by simp [canV, h1, h2, h3, h4]]
    clear h1 h2 h3 h4
    go_enter Tryz.func13, Tryz.ntmps13
    go_wp2
    go_ret
    exact ⟨rfl, below1 _ _⟩

end Go.Proofs.YtoabgmpcdnikeaaGreatDoor
