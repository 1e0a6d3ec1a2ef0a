/- The document's sum. -/
import Derived.Test.YtoabgmpcdnikeaaGreatDoorXr
namespace Go.Proofs.YtoabgmpcdnikeaaGreatDoor
open Go.RowKit
set_option linter.unusedVariables false

theorem two_cells2 {X : World} {P : Nat} {x0 x1 : Value} (h : IsCells X P #[x0, x1]) : X.cell? ⟨P, 0, none⟩ = some x0 ∧ X.cell? ⟨P, 1, none⟩ = some x1 ∧ X.frozen? ⟨P, 0, none⟩ = false ∧ X.frozen? ⟨P, 1, none⟩ = false ∧ P < X.heap.size := ⟨h.cell 0, h.cell 1, h.frozen 0, h.frozen 1, h.lt⟩
set_option maxRecDepth 100000 in
theorem dsum_no (w : World) {k n : Int} {b no : Bool} {t : ByteArray} {a : Option Addr} {m c : Nat} (hk : k ≠ 4) :
    Calls Tryz.prog 50 #[.agg #[.int .i64 k, .bool b, .int .i64 n, .bool no, .string t, .slice a m c]] w fun e w' => e = .returned (.agg #[.bool false, .int .i64 0]) ∧ Below w.heap.size w w' := by
  have q : (k != 4) = true := by simpa using hk
  clear hk
  go_enter Tryz.func50, Tryz.ntmps50
  go_wp2
  exact bodyPost_ret (v := .agg #[.bool false, .int .i64 0]) (by simp [results, Tryz.results50, go_sem]) rfl ⟨rfl, below2 _ _ _⟩
set_option maxRecDepth 100000 in
set_option maxHeartbeats 4000000 in
theorem dsum_yes (w : World) {n : Int} {b no : Bool} {t : ByteArray} {a : Option Addr} {c : Nat} {L : List ByteArray} (h : VOk w ⟨4, b, n, no, t, L⟩ a) (zn : Int) (zb : Bool) (hz : (L.map fun s => rdN (Tx s)).foldl addN (0, true) = (zn, zb)) :
    Calls Tryz.prog 50 #[.agg #[.int .i64 4, .bool b, .int .i64 n, .bool no, .string t, .slice a L.length c]] w fun e w' => e = .returned (.agg #[.bool zb, .int .i64 zn]) ∧ Below w.heap.size w w' := by
  obtain ⟨W, hW⟩ : ∃ W, (((w.alloc (.cells #[.int .i64 4, .bool b, .int .i64 n, .bool no, .string t, .slice a L.length c] 24)).alloc (.cells #[.bool false, .int .i64 0] 37)).alloc (.cells #[.bool true, .int .i64 0] 37)) = W := ⟨_, rfl⟩
  have hbW : Below w.heap.size w W := by rw [← hW]; exact below3 _ _ _ _
  have hx : IsCells W w.heap.size #[.int .i64 4, .bool b, .int .i64 n, .bool no, .string t, .slice a L.length c] := by rw [← hW]; exact ((isCells_new w _ 24).alloc _).alloc _
  have hy : IsCells W (w.heap.size + 1) #[.bool false, .int .i64 0] := by
    have := (isCells_new (w.alloc (.cells #[.int .i64 4, .bool b, .int .i64 n, .bool no, .string t, .slice a L.length c] 24)) #[.bool false, .int .i64 0] 37).alloc (.cells #[.bool true, .int .i64 0] 37)
    rw [hW] at this
    simpa using this
  have hzz : IsCells W (w.heap.size + 1 + 1) #[.bool true, .int .i64 0] := by
    have := isCells_new ((w.alloc (.cells #[.int .i64 4, .bool b, .int .i64 n, .bool no, .string t, .slice a L.length c] 24)).alloc (.cells #[.bool false, .int .i64 0] 37)) #[.bool true, .int .i64 0] 37
    rw [hW] at this
    simpa using this
  have HW : Hid ((((w.alloc (.cells #[.int .i64 4, .bool b, .int .i64 n, .bool no, .string t, .slice a L.length c] 24)).alloc (.cells #[.bool false, .int .i64 0] 37)).alloc (.cells #[.bool true, .int .i64 0] 37)) = W ∧ Below w.heap.size w W ∧ IsCells W w.heap.size #[.int .i64 4, .bool b, .int .i64 n, .bool no, .string t, .slice a L.length c] ∧ IsCells W (w.heap.size + 1) #[.bool false, .int .i64 0] ∧ IsCells W (w.heap.size + 1 + 1) #[.bool true, .int .i64 0]) := ⟨hW, hbW, hx, hy, hzz⟩
  have HH : Hid (VOk w ⟨4, b, n, no, t, L⟩ a ∧ (L.map fun s => rdN (Tx s)).foldl addN (0, true) = (zn, zb)) := ⟨h, hz⟩
  have hlen : L.length ≤ 4611686018427387904 := h.len
  clear hW hbW hx hy hzz h hz
  go_enter Tryz.func50, Tryz.ntmps50
  go_wp2_with fail
  rw [HW.out.1]
  go_loopw [4, 5] (fun u _ wr => ∃ (i : Nat) (m : Int), i ≤ L.length ∧ -9223372036854775808 ≤ m ∧ m ≤ 9223372036854775807 ∧ u = .int .i64 (i : Int) ∧ Hid (Below w.heap.size w wr ∧ IsCells wr w.heap.size #[.int .i64 4, .bool b, .int .i64 n, .bool no, .string t, .slice a L.length c] ∧ IsCells wr (w.heap.size + 1) #[.bool false, .int .i64 0] ∧ IsCells wr (w.heap.size + 1 + 1) #[.bool true, .int .i64 m] ∧ ((L.map fun s => rdN (Tx s)).take i).foldl addN (0, true) = (m, true))) (fun u _ _ => L.length - (intOf u).toNat)
  case atStart => exact ⟨0, 0, by omega, by omega, by omega, rfl, HW.out.2.1, HW.out.2.2.1, HW.out.2.2.2.1, HW.out.2.2.2.2, rfl⟩
  case round =>
    obtain ⟨i, m, hi, hm0, hm1, rfl, HS⟩ := hrel
    have x5 : wr.cell? ⟨w.heap.size, 5, none⟩ = some (.slice a L.length c) := HS.out.2.1.cell 5
    by_cases hlt : i < L.length
    · have hltz : (i : Int) < (L.length : Int) := by omega
      obtain ⟨s, hs⟩ : ∃ s, L[i]? = some s := ⟨_, List.getElem?_eq_getElem hlt⟩
      have hsm : (L.map fun s => rdN (Tx s))[i]? = some (rdN (Tx s)) := by rw [List.getElem?_map, hs]; rfl
      obtain ⟨b1, o1, rfl, hb1, hcell⟩ := (HH.out.1.bel HS.out.1).at_ i s hs
      have hr := dread_any wr s (HH.out.1.ls s (List.mem_of_getElem? hs))
      have hrg := rd_range (s := Tx s)
      have HSN : Hid (((L.map fun s => rdN (Tx s)).take (i + 1)).foldl addN (0, true) = addN (m, true) (rdN (Tx s)) ∧ (addN (m, true) (rdN (Tx s)) = (0, false) → zn = 0 ∧ zb = false)) := by
        refine ⟨by rw [sum_snoc hsm, HS.out.2.2.2.2], fun h0 => ?_⟩
        have h1 := HH.out.2
        have hsplit : (L.map fun s => rdN (Tx s)) = (L.map fun s => rdN (Tx s)).take (i + 1) ++ (L.map fun s => rdN (Tx s)).drop (i + 1) := (List.take_append_drop _ _).symm
        rw [hsplit, List.foldl_append, sum_snoc hsm, HS.out.2.2.2.2, h0, fold_none] at h1
        exact ⟨(Prod.mk.inj h1).1.symm, (Prod.mk.inj h1).2.symm⟩
      clear hs hsm
      generalize rdN (Tx s) = x at *
      obtain ⟨xn, xb⟩ := x
      obtain ⟨hx0, hx1⟩ := hrg
      simp only at hx0 hx1 hr
      go_wp2_with fail
      with_reducible refine hr.mono ?_
      rintro e w2 ⟨rfl, hb⟩
      have HK : Hid (Below w.heap.size w w2 ∧ IsCells w2 w.heap.size #[.int .i64 4, .bool b, .int .i64 n, .bool no, .string t, .slice (some ⟨b1, o1, none⟩) L.length c] ∧ IsCells w2 (w.heap.size + 1) #[.bool false, .int .i64 0] ∧ IsCells w2 (w.heap.size + 1 + 1) #[.bool true, .int .i64 m]) := ⟨HS.out.1.trans (hb.mono HS.out.1.size), HS.out.2.1.of_block (hb.block _ HS.out.2.1.lt), HS.out.2.2.1.of_block (hb.block _ HS.out.2.2.1.lt), HS.out.2.2.2.1.of_block (hb.block _ HS.out.2.2.2.1.lt)⟩
      clear hb hr x5
      obtain ⟨y0, y1, yf0, yf1, yl⟩ := two_cells2 HK.out.2.2.1
      obtain ⟨z0, z1, zf0, zf1, zl⟩ := two_cells2 HK.out.2.2.2
      cases xb with
      | false =>
        obtain ⟨rfl, rfl⟩ := HSN.out.2 (add_no _ _)
        go_wp2
        have hq := ((HK.out.2.2.1.set 0 (.bool false)).set 1 (.int .i64 0)).alloc (.cells #[.bool false, .int .i64 xn] 37)
        have q0 := hq.cell 0
        have q1 := hq.cell 1
        simp at q0 q1
        exact bodyPost_ret (v := .agg #[.bool false, .int .i64 0]) (by simp [results, Tryz.results50, go_sem, q0, q1]) rfl ⟨rfl, ((HK.out.1.setCell (p := ⟨w.heap.size + 1, 0, none⟩) (Nat.le_succ _) _).setCell (p := ⟨w.heap.size + 1, 1, none⟩) (Nat.le_succ _) _).alloc (by have h := HK.out.1.size; simpa [World.setCell] using h) _⟩
      | true =>
        by_cases g1 : 0 < xn ∧ 9223372036854775807 - xn < m
        · obtain ⟨rfl, rfl⟩ := HSN.out.2 (add_over hm0 hm1 hx0 hx1 (.inl g1))
          obtain ⟨g2, g3⟩ := g1
          go_wp2
          have hq := ((HK.out.2.2.1.set 0 (.bool false)).set 1 (.int .i64 0)).alloc (.cells #[.bool true, .int .i64 xn] 37)
          have q0 := hq.cell 0
          have q1 := hq.cell 1
          simp at q0 q1
          exact bodyPost_ret (v := .agg #[.bool false, .int .i64 0]) (by simp [results, Tryz.results50, go_sem, q0, q1]) rfl ⟨rfl, ((HK.out.1.setCell (p := ⟨w.heap.size + 1, 0, none⟩) (Nat.le_succ _) _).setCell (p := ⟨w.heap.size + 1, 1, none⟩) (Nat.le_succ _) _).alloc (by have h := HK.out.1.size; simpa [World.setCell] using h) _⟩
        · by_cases g2 : xn < 0 ∧ m < -9223372036854775808 - xn
          · obtain ⟨rfl, rfl⟩ := HSN.out.2 (add_over hm0 hm1 hx0 hx1 (.inr g2))
            obtain ⟨g2, g3⟩ := g2
            have g4 : ¬ 0 < xn := by omega
            go_wp2
            have hq := ((HK.out.2.2.1.set 0 (.bool false)).set 1 (.int .i64 0)).alloc (.cells #[.bool true, .int .i64 xn] 37)
            have q0 := hq.cell 0
            have q1 := hq.cell 1
            simp at q0 q1
            exact bodyPost_ret (v := .agg #[.bool false, .int .i64 0]) (by simp [results, Tryz.results50, go_sem, q0, q1]) rfl ⟨rfl, ((HK.out.1.setCell (p := ⟨w.heap.size + 1, 0, none⟩) (Nat.le_succ _) _).setCell (p := ⟨w.heap.size + 1, 1, none⟩) (Nat.le_succ _) _).alloc (by have h := HK.out.1.size; simpa [World.setCell] using h) _⟩
          · obtain ⟨HA, h3, h4⟩ := add_fine hm0 hm1 hx0 hx1 g1 g2
            have HAD : Hid (addN (m, true) (xn, true) = (m + xn, true)) := HA
            clear HA
            have HB5 : Hid (∀ v, IsCells ((w2.setCell ⟨w.heap.size + 1 + 1, 1, none⟩ v).alloc (.cells #[.bool true, .int .i64 xn] 37)) (w.heap.size + 1 + 1) #[.bool true, v]) := fun v => by
              have := (HK.out.2.2.2.set 1 v).alloc (.cells #[.bool true, .int .i64 xn] 37)
              simpa using this
            have HB6 : Hid (∀ v, Below w.heap.size w ((w2.setCell ⟨w.heap.size + 1 + 1, 1, none⟩ v).alloc (.cells #[.bool true, .int .i64 xn] 37)) ∧ IsCells ((w2.setCell ⟨w.heap.size + 1 + 1, 1, none⟩ v).alloc (.cells #[.bool true, .int .i64 xn] 37)) w.heap.size #[.int .i64 4, .bool b, .int .i64 n, .bool no, .string t, .slice (some ⟨b1, o1, none⟩) L.length c] ∧ IsCells ((w2.setCell ⟨w.heap.size + 1 + 1, 1, none⟩ v).alloc (.cells #[.bool true, .int .i64 xn] 37)) (w.heap.size + 1) #[.bool false, .int .i64 0]) := fun v => ⟨(HK.out.1.setCell (p := ⟨w.heap.size + 1 + 1, 1, none⟩) (show w.heap.size ≤ w.heap.size + 1 + 1 by omega) _).alloc (by have h := HK.out.1.size; simpa [World.setCell] using h) _, (HK.out.2.1.of_block (Below.heap_setCell _ _ _ _ (show w.heap.size ≠ w.heap.size + 1 + 1 by omega))).alloc _, (HK.out.2.2.1.of_block (Below.heap_setCell _ _ _ _ (show w.heap.size + 1 ≠ w.heap.size + 1 + 1 by omega))).alloc _⟩
            rcases Int.lt_trichotomy 0 xn with g5 | g5 | g5
            · have g6 : ¬ 9223372036854775807 - xn < m := by omega
              have g7 : ¬ xn < 0 := by omega
              clear g1 g2
              go_wp2
              go_roundw
              case rel => exact ⟨i + 1, _, by omega, h3, h4, by go_num, (HB6.out _).1, (HB6.out _).2.1, (HB6.out _).2.2, HB5.out _, by rw [HSN.out.1, HAD.out]⟩
              case measure => simp [intOf]; omega
            · subst g5
              clear g1 g2
              go_wp2
              go_roundw
              case rel => exact ⟨i + 1, m, by omega, hm0, hm1, by go_num, (HB6.out _).1, (HB6.out _).2.1, (HB6.out _).2.2, HB5.out _, by rw [HSN.out.1, HAD.out, Int.add_zero]⟩
              case measure => simp [intOf]; omega
            · have g6 : ¬ m < -9223372036854775808 - xn := by omega
              have g7 : ¬ 0 < xn := by omega
              clear g1 g2
              go_wp2
              go_roundw
              case rel => exact ⟨i + 1, _, by omega, h3, h4, by go_num, (HB6.out _).1, (HB6.out _).2.1, (HB6.out _).2.2, HB5.out _, by rw [HSN.out.1, HAD.out]⟩
              case measure => simp [intOf]; omega
    · have hltz : ¬ (i : Int) < (L.length : Int) := by omega
      obtain ⟨rfl, rfl⟩ : m = zn ∧ true = zb := by
        have h1 := HS.out.2.2.2.2
        rw [List.take_of_length_le (by simp; omega), HH.out.2] at h1
        exact ⟨(Prod.mk.inj h1).1.symm, (Prod.mk.inj h1).2.symm⟩
      obtain ⟨y0, y1, yf0, yf1, yl⟩ := two_cells2 HS.out.2.2.1
      obtain ⟨z0, z1, zf0, zf1, zl⟩ := two_cells2 HS.out.2.2.2.1
      go_wp2
      have hq := (HS.out.2.2.1.set 0 (.bool true)).set 1 (.int .i64 m)
      have q0 := hq.cell 0
      have q1 := hq.cell 1
      simp at q0 q1
      exact bodyPost_ret (v := .agg #[.bool true, .int .i64 m]) (by simp [results, Tryz.results50, go_sem, q0, q1]) rfl ⟨rfl, (HS.out.1.setCell (p := ⟨w.heap.size + 1, 0, none⟩) (Nat.le_succ _) _).setCell (p := ⟨w.heap.size + 1, 1, none⟩) (Nat.le_succ _) _⟩
theorem dsum_any (w : World) {k n : Int} {b no : Bool} {t : ByteArray} {a : Option Addr} {c : Nat} {L : List ByteArray} (h : VOk w ⟨k, b, n, no, t, L⟩ a) :
    Calls Tryz.prog 50 #[.agg #[.int .i64 k, .bool b, .int .i64 n, .bool no, .string t, .slice a L.length c]] w fun e w' => e = .returned (.agg #[.bool (sumV ⟨k, b, n, no, t, L⟩).2, .int .i64 (sumV ⟨k, b, n, no, t, L⟩).1]) ∧ Below w.heap.size w w' := by
  by_cases h4 : k = 4
  · subst h4
    exact dsum_yes w h _ _ (by simp [sumV, Vl.nums])
  · have e : sumV ⟨k, b, n, no, t, L⟩ = (0, false) := by simp [sumV, h4]
    rw [e]
    exact dsum_no w h4

end Go.Proofs.YtoabgmpcdnikeaaGreatDoor
