/- The same in any form: the law's body. -/
import Derived.Test.YtoabgmpcdnikeaaGreatDoorVv
namespace Go.Proofs.YtoabgmpcdnikeaaGreatDoor
open Go.RowKit
set_option linter.unusedVariables false

theorem can_tx {k n : Int} {b no : Bool} {t : ByteArray} {L : List ByteArray} (h0 : -9223372036854775808 ≤ n) (h1 : n ≤ 9223372036854775807) (h : canV k (Tx t) (L.map Tx) = true) : (tans (Tx (txV k b n no t L))).2 = 0 := by
  unfold txV
  split
  · cases b
    · exact congrArg Prod.snd (plain_can (l := [102, 97, 108, 115, 101]) (by decide) (by decide))
    · exact congrArg Prod.snd (plain_can (l := [116, 114, 117, 101]) (by decide) (by decide))
  · split
    · split
      · exact congrArg Prod.snd (plain_can (l := [78, 97, 78]) (by decide) (by decide))
      · have := itoa_can n h0 h1
        show (tans (Lib.itoa n)).2 = 0
        rw [this]
    · rename_i k1 k2
      unfold canV at h
      rw [if_neg (by omega)] at h
      split
      · rename_i k3
        rw [if_pos k3] at h
        simpa using h
      · rename_i k3
        rw [if_neg k3] at h
        cases L with
        | nil => exact congrArg Prod.snd (plain_can (l := []) (by decide) (by simp))
        | cons s r =>
          split at h
          · simp only [List.map_cons, List.all_cons, Bool.and_eq_true, decide_eq_true_eq] at h
            exact h.2.1
          · cases h
theorem nan_no : rdN [78, 97, 78] = (0, false) := by kernel_rfl
theorem nm_tx {k n : Int} {b no : Bool} {t : ByteArray} {L : List ByteArray} (h0 : -9223372036854775808 ≤ n) (h1 : n ≤ 9223372036854775807) (hk : k ≠ 1) : nmV k b n no t L = rdN (Tx (txV k b n no t L)) := by
  by_cases h2 : k = 2
  · subst h2
    cases no
    · show (n, true) = rdN (Lib.itoa n)
      rw [rd_itoa n h0 h1]
    · show (0, false) = rdN [78, 97, 78]
      rw [nan_no]
  · simp [nmV, hk, h2]
theorem can_text {s : ByteArray} (h : (tans (Tx s)).2 = 0) : canV 3 (Tx s) (([] : List ByteArray).map Tx) = true := by simp [canV, h]
theorem rd_self (s : ByteArray) : nmV 3 false 0 false s [] = rdN (Tx s) := by rfl
theorem tx_self (s : ByteArray) : txV 3 false 0 false s [] = s := by rfl

set_option maxRecDepth 100000 in
set_option maxHeartbeats 4000000 in
theorem forms_walk (w : World) {k n m : Int} {b no : Bool} {t : ByteArray} {a : Option Addr} {c : Nat} {L : List ByteArray} (hv : VOk w ⟨k, b, n, no, t, L⟩ a) (m0 : -9223372036854775808 ≤ m) (m1 : m ≤ 9223372036854775807) (G : Gl w) :
    Calls Tryz.prog 6 #[.agg #[.int .i64 k, .bool b, .int .i64 n, .bool no, .string t, .slice a L.length c], .int .i64 m] w fun e w' => e = .returned (.bool true) ∧ Below w.heap.size w w' := by
  obtain ⟨W, hW⟩ : ∃ W, (w.alloc (.cells #[.int .i64 k, .bool b, .int .i64 n, .bool no, .string t, .slice a L.length c] 24)) = W := ⟨_, rfl⟩
  have HW : Hid (Below w.heap.size w W ∧ IsCells W w.heap.size #[.int .i64 k, .bool b, .int .i64 n, .bool no, .string t, .slice a L.length c]) := ⟨by rw [← hW]; exact below1 _ _, by rw [← hW]; exact isCells_new _ _ _⟩
  have HQ : Hid ((w.alloc (.cells #[.int .i64 k, .bool b, .int .i64 n, .bool no, .string t, .slice a L.length c] 24)) = W) := hW
  have HG : Hid (∀ u, Below w.heap.size w u → Gl u) := fun u hu => G.bel hu
  have HV : Hid (∀ u, Below w.heap.size w u → VOk u ⟨k, b, n, no, t, L⟩ a) := fun u hu => hv.bel hu
  obtain ⟨s, HS⟩ : ∃ s : ByteArray, Hid (s = ⟨(Lib.itoa m).toArray⟩ ∧ (tans (Tx s)).2 = 0 ∧ rdN (Tx s) = (m, true) ∧ s.size ≤ 281474976710656) := ⟨_, rfl, by show (tans (Lib.itoa m)).2 = 0; rw [itoa_can m m0 m1], rd_itoa m m0 m1, by have := itoa_short m m0 m1; simp [ByteArray.size]; omega⟩
  have hl := lives_any W (G.bel HW.out.1)
  have HN : Hid (-9223372036854775808 ≤ n ∧ n ≤ 9223372036854775807) := ⟨hv.n0, hv.n1⟩
  have HTS : Hid ((txV k b n no t L).size ≤ 281474976710656) := tx_small hv
  have HM : Hid (-9223372036854775808 ≤ m ∧ m ≤ 9223372036854775807) := ⟨m0, m1⟩
  have mm : (m != m) = false := by simp
  have me : (m == m) = true := by simp
  clear hW G hv m0 m1
  have HT1 : Hid (∀ u, Below w.heap.size w u → Calls Tryz.prog 11 #[.agg #[.int .i64 2, .bool false, .int .i64 m, .bool false, .string ⟨#[]⟩, .slice none 0 0]] u fun e w' => e = .returned (.tuple #[.string s, .int .i64 0]) ∧ Below u.heap.size u w') := fun u hu => by
    have := text_call u (c := 0) (HG.out u hu) (vok_made u 2 m false false ⟨#[]⟩ HM.out.1 HM.out.2 (by decide)) true rfl
    rw [HS.out.1]
    exact this
  have HT2 : Hid (∀ u, Below w.heap.size w u → Calls Tryz.prog 10 #[.agg #[.int .i64 3, .bool false, .int .i64 0, .bool false, .string s, .slice none 0 0]] u fun e w' => e = .returned (.tuple #[.int .i64 m, .bool true, .int .i64 0]) ∧ Below u.heap.size u w') := fun u hu => by
    have := number_call u (c := 0) (HG.out u hu) (vok_made u 3 0 false false s (by decide) (by decide) HS.out.2.2.2) true (can_text HS.out.2.1)
    rw [rd_self, HS.out.2.2.1] at this
    exact this
  clear HM
  go_enter Tryz.func6, Tryz.ntmps6
  go_wp2_with fail
  rw [HQ.out]
  with_reducible refine hl.mono ?_
  rintro e w1 ⟨rfl, hb⟩
  have Hw1 : Hid (Below w.heap.size w w1 ∧ IsCells w1 w.heap.size #[.int .i64 k, .bool b, .int .i64 n, .bool no, .string t, .slice a L.length c]) := ⟨HW.out.1.trans (hb.mono HW.out.1.size), HW.out.2.of_block (hb.block _ HW.out.2.lt)⟩
  clear hb hl
  cases hz : canV k (Tx t) (L.map Tx) with
  | false =>
    go_wp2_with fail
    with_reducible refine (mknum_any w1 m).mono ?_
    rintro e w2 ⟨rfl, hb⟩
    have Hw2 : Hid (Below w.heap.size w w2 ∧ IsCells w2 w.heap.size #[.int .i64 k, .bool b, .int .i64 n, .bool no, .string t, .slice a L.length c]) := ⟨Hw1.out.1.trans (hb.mono Hw1.out.1.size), Hw1.out.2.of_block (hb.block _ Hw1.out.2.lt)⟩
    clear hb
    go_wp2_with fail
    with_reducible refine (HT1.out w2 Hw2.out.1).mono ?_
    rintro e w3 ⟨rfl, hb⟩
    have Hw3 : Hid (Below w.heap.size w w3 ∧ IsCells w3 w.heap.size #[.int .i64 k, .bool b, .int .i64 n, .bool no, .string t, .slice a L.length c]) := ⟨Hw2.out.1.trans (hb.mono Hw2.out.1.size), Hw2.out.2.of_block (hb.block _ Hw2.out.2.lt)⟩
    clear hb
    go_wp2_with fail
    with_reducible refine (mktext_any w3 s).mono ?_
    rintro e w4 ⟨rfl, hb⟩
    have Hw4 : Hid (Below w.heap.size w w4 ∧ IsCells w4 w.heap.size #[.int .i64 k, .bool b, .int .i64 n, .bool no, .string t, .slice a L.length c]) := ⟨Hw3.out.1.trans (hb.mono Hw3.out.1.size), Hw3.out.2.of_block (hb.block _ Hw3.out.2.lt)⟩
    clear hb
    go_wp2_with fail
    with_reducible refine (HT2.out w4 Hw4.out.1).mono ?_
    rintro e w5 ⟨rfl, hb⟩
    have Hw5 : Hid (Below w.heap.size w w5 ∧ IsCells w5 w.heap.size #[.int .i64 k, .bool b, .int .i64 n, .bool no, .string t, .slice a L.length c]) := ⟨Hw4.out.1.trans (hb.mono Hw4.out.1.size), Hw4.out.2.of_block (hb.block _ Hw4.out.2.lt)⟩
    clear hb
    obtain ⟨x0, x1, x2, x3, x4, x5⟩ := six_cells Hw5.out.2
    have ht := text_call w5 (c := c) (HG.out w5 Hw5.out.1) (HV.out w5 Hw5.out.1) false hz
    clear hz
    go_wp2_with fail
    with_reducible refine ht.mono ?_
    rintro e w6 ⟨rfl, hb⟩
    have Hw6 : Hid (Below w.heap.size w w6) := Hw5.out.1.trans (hb.mono Hw5.out.1.size)
    clear hb ht x0 x1 x2 x3 x4 x5
    go_wp2
    go_ret
    exact ⟨rfl, Hw6.out⟩
  | true =>
    go_wp2_with fail
    with_reducible refine (mknum_any w1 m).mono ?_
    rintro e w2 ⟨rfl, hb⟩
    have Hw2 : Hid (Below w.heap.size w w2 ∧ IsCells w2 w.heap.size #[.int .i64 k, .bool b, .int .i64 n, .bool no, .string t, .slice a L.length c]) := ⟨Hw1.out.1.trans (hb.mono Hw1.out.1.size), Hw1.out.2.of_block (hb.block _ Hw1.out.2.lt)⟩
    clear hb
    go_wp2_with fail
    with_reducible refine (HT1.out w2 Hw2.out.1).mono ?_
    rintro e w3 ⟨rfl, hb⟩
    have Hw3 : Hid (Below w.heap.size w w3 ∧ IsCells w3 w.heap.size #[.int .i64 k, .bool b, .int .i64 n, .bool no, .string t, .slice a L.length c]) := ⟨Hw2.out.1.trans (hb.mono Hw2.out.1.size), Hw2.out.2.of_block (hb.block _ Hw2.out.2.lt)⟩
    clear hb
    go_wp2_with fail
    with_reducible refine (mktext_any w3 s).mono ?_
    rintro e w4 ⟨rfl, hb⟩
    have Hw4 : Hid (Below w.heap.size w w4 ∧ IsCells w4 w.heap.size #[.int .i64 k, .bool b, .int .i64 n, .bool no, .string t, .slice a L.length c]) := ⟨Hw3.out.1.trans (hb.mono Hw3.out.1.size), Hw3.out.2.of_block (hb.block _ Hw3.out.2.lt)⟩
    clear hb
    go_wp2_with fail
    with_reducible refine (HT2.out w4 Hw4.out.1).mono ?_
    rintro e w5 ⟨rfl, hb⟩
    have Hw5 : Hid (Below w.heap.size w w5 ∧ IsCells w5 w.heap.size #[.int .i64 k, .bool b, .int .i64 n, .bool no, .string t, .slice a L.length c]) := ⟨Hw4.out.1.trans (hb.mono Hw4.out.1.size), Hw4.out.2.of_block (hb.block _ Hw4.out.2.lt)⟩
    clear hb
    obtain ⟨x0, x1, x2, x3, x4, x5⟩ := six_cells Hw5.out.2
    have ht := text_call w5 (c := c) (HG.out w5 Hw5.out.1) (HV.out w5 Hw5.out.1) true hz
    have HCT : Hid ((tans (Tx (txV k b n no t L))).2 = 0 ∧ (k ≠ 1 → nmV k b n no t L = rdN (Tx (txV k b n no t L)))) := ⟨can_tx HN.out.1 HN.out.2 hz, nm_tx HN.out.1 HN.out.2⟩
    have HT3 : Hid (∀ u, Below w.heap.size w u → Calls Tryz.prog 10 #[.agg #[.int .i64 k, .bool b, .int .i64 n, .bool no, .string t, .slice a L.length c]] u fun e w' => e = .returned (.tuple #[.int .i64 (nmV k b n no t L).1, .bool (nmV k b n no t L).2, .int .i64 0]) ∧ Below u.heap.size u w') := fun u hu => by
      have := number_call u (c := c) (HG.out u hu) (HV.out u hu) true hz
      exact this
    clear hz
    obtain ⟨tx, htx⟩ : ∃ tx, txV k b n no t L = tx := ⟨_, rfl⟩
    obtain ⟨vn, vb, hvn⟩ : ∃ vn vb, nmV k b n no t L = (vn, vb) := ⟨_, _, rfl⟩
    obtain ⟨rn, rb, hrn⟩ : ∃ rn rb, rdN (Tx tx) = (rn, rb) := ⟨_, _, rfl⟩
    rw [htx] at ht HCT HTS
    rw [hvn] at HCT HT3
    rw [hrn] at HCT
    have HR : Hid (rdN (Tx tx) = (rn, rb)) := hrn
    clear htx hvn hrn
    have HT4 : Hid (∀ u, Below w.heap.size w u → Calls Tryz.prog 10 #[.agg #[.int .i64 3, .bool false, .int .i64 0, .bool false, .string tx, .slice none 0 0]] u fun e w' => e = .returned (.tuple #[.int .i64 rn, .bool rb, .int .i64 0]) ∧ Below u.heap.size u w') := fun u hu => by
      have := number_call u (c := 0) (HG.out u hu) (vok_made u 3 0 false false tx (by decide) (by decide) HTS.out) true (can_text HCT.out.1)
      rw [rd_self, HR.out] at this
      exact this
    have HT5 : Hid (∀ u, Below w.heap.size w u → Calls Tryz.prog 11 #[.agg #[.int .i64 3, .bool false, .int .i64 0, .bool false, .string tx, .slice none 0 0]] u fun e w' => e = .returned (.tuple #[.string tx, .int .i64 0]) ∧ Below u.heap.size u w') := fun u hu => by
      have := text_call u (c := 0) (HG.out u hu) (vok_made u 3 0 false false tx (by decide) (by decide) HTS.out) true (can_text HCT.out.1)
      exact this
    simp only [if_true] at ht
    go_wp2_with fail
    with_reducible refine (ht).mono ?_
    rintro e w6 ⟨rfl, hb⟩
    have Hw6 : Hid (Below w.heap.size w w6 ∧ IsCells w6 w.heap.size #[.int .i64 k, .bool b, .int .i64 n, .bool no, .string t, .slice a L.length c]) := ⟨Hw5.out.1.trans (hb.mono Hw5.out.1.size), Hw5.out.2.of_block (hb.block _ Hw5.out.2.lt)⟩
    clear hb
    clear x0 x1 x2 x3 x4 x5 ht
    obtain ⟨x0, x1, x2, x3, x4, x5⟩ := six_cells Hw6.out.2
    go_wp2_with fail
    with_reducible refine (HT3.out w6 Hw6.out.1).mono ?_
    rintro e w7 ⟨rfl, hb⟩
    have Hw7 : Hid (Below w.heap.size w w7 ∧ IsCells w7 w.heap.size #[.int .i64 k, .bool b, .int .i64 n, .bool no, .string t, .slice a L.length c]) := ⟨Hw6.out.1.trans (hb.mono Hw6.out.1.size), Hw6.out.2.of_block (hb.block _ Hw6.out.2.lt)⟩
    clear hb
    clear x0 x1 x2 x3 x4 x5
    go_wp2_with fail
    with_reducible refine (mktext_any w7 tx).mono ?_
    rintro e w8 ⟨rfl, hb⟩
    have Hw8 : Hid (Below w.heap.size w w8 ∧ IsCells w8 w.heap.size #[.int .i64 k, .bool b, .int .i64 n, .bool no, .string t, .slice a L.length c]) := ⟨Hw7.out.1.trans (hb.mono Hw7.out.1.size), Hw7.out.2.of_block (hb.block _ Hw7.out.2.lt)⟩
    clear hb
    go_wp2_with fail
    with_reducible refine (HT4.out w8 Hw8.out.1).mono ?_
    rintro e w9 ⟨rfl, hb⟩
    have Hw9 : Hid (Below w.heap.size w w9 ∧ IsCells w9 w.heap.size #[.int .i64 k, .bool b, .int .i64 n, .bool no, .string t, .slice a L.length c]) := ⟨Hw8.out.1.trans (hb.mono Hw8.out.1.size), Hw8.out.2.of_block (hb.block _ Hw8.out.2.lt)⟩
    clear hb
    go_wp2_with fail
    with_reducible refine (mktext_any w9 tx).mono ?_
    rintro e wa ⟨rfl, hb⟩
    have Hwa : Hid (Below w.heap.size w wa ∧ IsCells wa w.heap.size #[.int .i64 k, .bool b, .int .i64 n, .bool no, .string t, .slice a L.length c]) := ⟨Hw9.out.1.trans (hb.mono Hw9.out.1.size), Hw9.out.2.of_block (hb.block _ Hw9.out.2.lt)⟩
    clear hb
    go_wp2_with fail
    with_reducible refine (HT5.out wa Hwa.out.1).mono ?_
    rintro e wb ⟨rfl, hb⟩
    have Hwb : Hid (Below w.heap.size w wb ∧ IsCells wb w.heap.size #[.int .i64 k, .bool b, .int .i64 n, .bool no, .string t, .slice a L.length c]) := ⟨Hwa.out.1.trans (hb.mono Hwa.out.1.size), Hwa.out.2.of_block (hb.block _ Hwa.out.2.lt)⟩
    clear hb
    obtain ⟨x0, x1, x2, x3, x4, x5⟩ := six_cells Hwb.out.2
    have tt : (tx.toList == tx.toList) = true := by simp
    by_cases hk : k = 1
    · subst hk
      go_wp2
      go_ret
      exact ⟨rfl, Hwb.out.1⟩
    · obtain ⟨rfl, rfl⟩ := Prod.mk.inj (HCT.out.2 hk)
      have q1 : (k == 1) = false := by simpa using hk
      have e1 : (vn == vn) = true := by simp
      have e2 : (vb == vb) = true := by simp
      clear hk
      go_wp2
      go_ret
      exact ⟨rfl, Hwb.out.1⟩

end Go.Proofs.YtoabgmpcdnikeaaGreatDoor
