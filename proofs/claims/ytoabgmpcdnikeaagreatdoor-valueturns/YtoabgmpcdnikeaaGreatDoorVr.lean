/- Sums of nodes: the program's sum. -/
import Derived.Test.YtoabgmpcdnikeaaGreatDoorVq
namespace Go.Proofs.YtoabgmpcdnikeaaGreatDoor
open Go.RowKit
set_option linter.unusedVariables false

/-- The sum of a value's nodes. -/
def sumV (v : Vl) : Nm := if v.k = 4 then v.nums.foldl addN (0, true) else (0, false)
theorem sum_snoc {A : List Nm} {i : Nat} {x : Nm} (h : A[i]? = some x) : (A.take (i + 1)).foldl addN (0, true) = addN ((A.take i).foldl addN (0, true)) x := by
  rw [List.take_add_one, h, List.foldl_append]
  rfl

set_option maxRecDepth 100000 in
set_option maxHeartbeats 4000000 in
theorem sum_any (w : World) (G : Gl w) {k n : Int} {b no : Bool} {t : ByteArray} {a : Option Addr} {c : Nat} {L : List ByteArray} (h : VOk w ⟨k, b, n, no, t, L⟩ a) (hL : k = 4 → L.length ≤ 4194304) :
    Calls Tryz.prog 84 #[.agg #[.int .i64 k, .bool b, .int .i64 n, .bool no, .string t, .slice a L.length c]] w fun e w' => e = .returned (.agg #[.int .i64 (sumV ⟨k, b, n, no, t, L⟩).1, .bool (sumV ⟨k, b, n, no, t, L⟩).2]) ∧ Below w.heap.size w w' := by
  by_cases h4 : k = 4
  · subst h4
    replace hL := hL rfl
    obtain ⟨zn, zb, HZ⟩ : ∃ zn zb, Hid (sumV ⟨4, b, n, no, t, L⟩ = (zn, zb)) := ⟨_, _, rfl⟩
    rw [HZ.out]
    have HS : Hid ((Vl.nums ⟨4, b, n, no, t, L⟩).foldl addN (0, true) = (zn, zb)) := HZ.out
    obtain ⟨W, hW⟩ : ∃ W, (((w.alloc (.cells #[.int .i64 4, .bool b, .int .i64 n, .bool no, .string t, .slice a L.length c] 24)).alloc (.cells #[.int .i64 0, .bool false] 78)).alloc (.cells #[.int .i64 0, .bool true] 78)) = W := ⟨_, rfl⟩
    have hbW : Below w.heap.size w W := by rw [← hW]; exact below3 _ _ _ _
    have hx : IsCells W w.heap.size #[.int .i64 4, .bool b, .int .i64 n, .bool no, .string t, .slice a L.length c] := by rw [← hW]; exact ((isCells_new w _ 24).alloc _).alloc _
    have hy : IsCells W (w.heap.size + 1) #[.int .i64 0, .bool false] := by
      have := (isCells_new (w.alloc (.cells #[.int .i64 4, .bool b, .int .i64 n, .bool no, .string t, .slice a L.length c] 24)) #[.int .i64 0, .bool false] 78).alloc (.cells #[.int .i64 0, .bool true] 78)
      rw [hW] at this
      simpa using this
    have hz : IsCells W (w.heap.size + 1 + 1) #[.int .i64 0, .bool true] := by
      have := isCells_new ((w.alloc (.cells #[.int .i64 4, .bool b, .int .i64 n, .bool no, .string t, .slice a L.length c] 24)).alloc (.cells #[.int .i64 0, .bool false] 78)) #[.int .i64 0, .bool true] 78
      rw [hW] at this
      simpa using this
    have hn := numbers_any W (c := c) (G.bel hbW) (h.bel hbW) (fun _ => hL)
    have hlen : (Vl.nums ⟨4, b, n, no, t, L⟩).length ≤ 4194304 := nums_len (fun _ => hL)
    have HW : Hid ((((w.alloc (.cells #[.int .i64 4, .bool b, .int .i64 n, .bool no, .string t, .slice a L.length c] 24)).alloc (.cells #[.int .i64 0, .bool false] 78)).alloc (.cells #[.int .i64 0, .bool true] 78)) = W ∧ Below w.heap.size w W ∧ IsCells W (w.heap.size + 1) #[.int .i64 0, .bool false] ∧ IsCells W (w.heap.size + 1 + 1) #[.int .i64 0, .bool true]) := ⟨hW, hbW, hy, hz⟩
    clear h G hW hbW hx hy hz HZ
    generalize Vl.nums ⟨4, b, n, no, t, L⟩ = N at *
    go_enter Tryz.func84, Tryz.ntmps84
    go_wp2_with fail
    rw [HW.out.1]
    with_reducible refine hn.mono ?_
    rintro e w1 ⟨aa, ac, rfl, hna, hb, hfr⟩
    have HFR : Hid (∀ ad, aa = some ad → w.heap.size + 1 + 1 < ad.block) := fun ad h => Nat.lt_of_lt_of_le HW.out.2.2.2.lt (hfr ad h)
    clear hfr
    have HB : Hid (Below w.heap.size w w1 ∧ IsCells w1 (w.heap.size + 1) #[.int .i64 0, .bool false] ∧ IsCells w1 (w.heap.size + 1 + 1) #[.int .i64 0, .bool true] ∧ NsAt w1 aa N) := ⟨HW.out.2.1.trans (hb.mono HW.out.2.1.size), HW.out.2.2.1.of_block (hb.block _ HW.out.2.2.1.lt), HW.out.2.2.2.of_block (hb.block _ HW.out.2.2.2.lt), hna⟩
    clear hb hna hn
    go_wp2
    go_loopw [5, 14] (fun _ u wr => ∃ i : Nat, i ≤ N.length ∧ u = .int .i64 (i : Int) ∧ Hid (Below w.heap.size w wr ∧ IsCells wr (w.heap.size + 1) #[.int .i64 0, .bool false] ∧ IsCells wr (w.heap.size + 1 + 1) #[.int .i64 ((N.take i).foldl addN (0, true)).1, .bool ((N.take i).foldl addN (0, true)).2] ∧ NsAt wr aa N)) (fun _ u _ => N.length - (intOf u).toNat)
    case atStart => exact ⟨0, by omega, rfl, HB.out⟩
    case round =>
      obtain ⟨i, hi, rfl, HK⟩ := hrel
      by_cases hlt : i < N.length
      · have hltz : (i : Int) < (N.length : Int) := by omega
        obtain ⟨x, hx⟩ : ∃ x, N[i]? = some x := ⟨_, List.getElem?_eq_getElem hlt⟩
        obtain ⟨b1, o1, rfl, hb1, x0, x1⟩ := HK.out.2.2.2 i x hx
        obtain ⟨tn, tb, HT⟩ : ∃ tn tb, Hid ((N.take i).foldl addN (0, true) = (tn, tb)) := ⟨_, _, rfl⟩
        have HU : Hid ((N.take (i + 1)).foldl addN (0, true) = addN (tn, tb) x) := by show _ = _; rw [sum_snoc hx, HT.out]
        clear hx
        obtain ⟨xn, xb⟩ := x
        simp only at x0 x1
        have hk3 := HK.out.2.2.1
        rw [HT.out] at hk3
        obtain ⟨W2, hW2⟩ : ∃ W2, (wr.alloc (.cells #[.int .i64 xn, .bool xb] 78)) = W2 := ⟨_, rfl⟩
        have HW2 : Hid ((wr.alloc (.cells #[.int .i64 xn, .bool xb] 78)) = W2 ∧ Below w.heap.size w W2 ∧ IsCells W2 (w.heap.size + 1) #[.int .i64 0, .bool false] ∧ IsCells W2 (w.heap.size + 1 + 1) #[.int .i64 tn, .bool tb] ∧ NsAt W2 (some ⟨b1, o1, none⟩) N) := ⟨hW2, by rw [← hW2]; exact HK.out.1.alloc HK.out.1.size _, by rw [← hW2]; exact HK.out.2.1.alloc _, by rw [← hW2]; exact hk3.alloc _, by rw [← hW2]; exact HK.out.2.2.2.bel (below1 _ _)⟩
        clear hW2
        have e0 : wr.cell? ⟨w.heap.size + 1 + 1, 0, none⟩ = some (.int .i64 tn) := hk3.cell 0
        have e1 : wr.cell? ⟨w.heap.size + 1 + 1, 1, none⟩ = some (.bool tb) := hk3.cell 1
        have el : w.heap.size + 1 + 1 < wr.heap.size := hk3.lt
        obtain ⟨sn, sb, HSm⟩ : ∃ sn sb, Hid (addN (tn, tb) (xn, xb) = (sn, sb)) := ⟨_, _, rfl⟩
        have ha := add_any W2 tn xn tb xb sn sb HSm.out
        clear hk3
        go_wp2_with fail
        rw [HW2.out.1]
        with_reducible refine ha.mono ?_
        rintro e w3 ⟨rfl, hb3⟩
        have HB3 : Hid (Below w.heap.size w w3 ∧ IsCells w3 (w.heap.size + 1) #[.int .i64 0, .bool false] ∧ IsCells w3 (w.heap.size + 1 + 1) #[.int .i64 tn, .bool tb] ∧ NsAt w3 (some ⟨b1, o1, none⟩) N) := ⟨HW2.out.2.1.trans (hb3.mono HW2.out.2.1.size), HW2.out.2.2.1.of_block (hb3.block _ HW2.out.2.2.1.lt), HW2.out.2.2.2.1.of_block (hb3.block _ HW2.out.2.2.2.1.lt), HW2.out.2.2.2.2.bel hb3⟩
        have d0 : w3.cell? ⟨w.heap.size + 1 + 1, 0, none⟩ = some (.int .i64 tn) := HB3.out.2.2.1.cell 0
        have d1 : w3.cell? ⟨w.heap.size + 1 + 1, 1, none⟩ = some (.bool tb) := HB3.out.2.2.1.cell 1
        have f0 := HB3.out.2.2.1.frozen 0
        have f1 := HB3.out.2.2.1.frozen 1
        clear hb3 ha e0 e1
        go_wp2
        go_roundw
        case rel =>
          refine ⟨i + 1, by omega, by go_num, (HB3.out.1.setCell (p := ⟨w.heap.size + 1 + 1, 0, none⟩) (by show w.heap.size ≤ w.heap.size + 1 + 1; omega) _).setCell (p := ⟨w.heap.size + 1 + 1, 1, none⟩) (by show w.heap.size ≤ w.heap.size + 1 + 1; omega) _, (HB3.out.2.1.other (by show w.heap.size + 1 ≠ w.heap.size + 1 + 1; omega) _).other (by show w.heap.size + 1 ≠ w.heap.size + 1 + 1; omega) _, ?_, ?_⟩
          · rw [HU.out, HSm.out]
            have := (HB3.out.2.2.1.set 0 (.int .i64 sn)).set 1 (.bool sb)
            simpa using this
          · intro j y hj
            obtain ⟨b2, o2, e2, l2, c2, c3⟩ := HB3.out.2.2.2 j y hj
            have hne : b2 ≠ w.heap.size + 1 + 1 := by
              have := HFR.out ⟨b2, o2, none⟩ e2
              simp only at this
              omega
            have hbl : ((w3.setCell ⟨w.heap.size + 1 + 1, 0, none⟩ (.int .i64 sn)).setCell ⟨w.heap.size + 1 + 1, 1, none⟩ (.bool sb)).heap[b2]? = w3.heap[b2]? := (Below.heap_setCell _ _ _ _ hne).trans (Below.heap_setCell _ _ _ _ hne)
            exact ⟨b2, o2, e2, by simpa [World.setCell] using l2, (World.cell?_of_block (w := w3) (a := ⟨b2, o2 + j * 2, none⟩) hbl).trans c2, (World.cell?_of_block (w := w3) (a := ⟨b2, o2 + j * 2 + 1, none⟩) hbl).trans c3⟩
        case measure => simp [intOf]; omega
      · have hltz : ¬ (i : Int) < (N.length : Int) := by omega
        have hk3 := HK.out.2.2.1
        rw [List.take_of_length_le (by omega), HS.out] at hk3
        have e0 : wr.cell? ⟨w.heap.size + 1 + 1, 0, none⟩ = some (.int .i64 zn) := hk3.cell 0
        have e1 : wr.cell? ⟨w.heap.size + 1 + 1, 1, none⟩ = some (.bool zb) := hk3.cell 1
        have g0 : wr.cell? ⟨w.heap.size + 1, 0, none⟩ = some (.int .i64 0) := HK.out.2.1.cell 0
        have g1 : wr.cell? ⟨w.heap.size + 1, 1, none⟩ = some (.bool false) := HK.out.2.1.cell 1
        have f0 := HK.out.2.1.frozen 0
        have f1 := HK.out.2.1.frozen 1
        clear hk3
        go_wp2
        have hy3 := (HK.out.2.1.set 0 (.int .i64 zn)).set 1 (.bool zb)
        have y0 := hy3.cell 0
        have y1 := hy3.cell 1
        simp at y0 y1
        exact bodyPost_ret (v := .agg #[.int .i64 zn, .bool zb]) (by simp [results, Tryz.results84, go_sem, y0, y1]) rfl ⟨rfl, (HK.out.1.setCell (p := ⟨w.heap.size + 1, 0, none⟩) (Nat.le_succ _) _).setCell (p := ⟨w.heap.size + 1, 1, none⟩) (Nat.le_succ _) _⟩
  · have q4 : (k == 4) = false := by simpa using h4
    have q5 : (k != 4) = true := by simpa using h4
    rw [show sumV ⟨k, b, n, no, t, L⟩ = (0, false) from by simp [sumV, h4]]
    clear h4 hL h
    go_enter Tryz.func84, Tryz.ntmps84
    go_wp2
    exact bodyPost_ret (v := .agg #[.int .i64 0, .bool false]) (by simp [results, Tryz.results84, go_sem]) rfl ⟨rfl, below2 _ _ _⟩

end Go.Proofs.YtoabgmpcdnikeaaGreatDoor
