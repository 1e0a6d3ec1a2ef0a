/- The document's references by name. -/
import Derived.Test.YtmifejkddgcbmabGreatB02
namespace Go.Proofs.YtmifejkddgcbmabGreat
open Go.RowKit
set_option linter.unusedVariables false
set_option linter.unusedSimpArgs false

/-- The name with which a text begins: its character, its bytes; 0: none. -/
def namR : List (List UInt8 × Nat) → List UInt8 → Int × Int
  | [], _ => (0, 0)
  | (x, r) :: t, l => if x.isPrefixOf l = true then ((r : Int), (x.length : Int)) else namR t l
/-- Whether a text is a beginning of a name. -/
def begR : List (List UInt8 × Nat) → List UInt8 → Bool
  | [], _ => false
  | (x, _) :: t, l => if l.length < x.length ∧ l.isPrefixOf x = true then true else begR t l

theorem preq {s : ByteArray} {X : List UInt8} {n : Nat} (hn : n = X.length) : ((s.extract 0 n).toList == X) = X.isPrefixOf s.data.toList ∨ s.size < n := by
  rcases Nat.lt_or_ge s.size n with h | h
  · exact Or.inr h
  · left
    rw [Lib.extract_toList, List.drop_zero, Nat.sub_zero, Bool.eq_iff_iff, beq_iff_eq, List.isPrefixOf_iff_prefix, List.prefix_iff_eq_take, ← hn]
    exact eq_comm
theorem below_drewN {B : Nat} {a w : World} (h : Below B a w) (n : Nat) : Below B a (w.drewN n) := ⟨h.os, h.tape, h.output, h.size, h.block⟩

set_option maxRecDepth 100000 in
set_option maxHeartbeats 4000000 in
theorem rnamed_walk (w : World) (s : ByteArray) (x y : Int) (hxyz : namR nms s.data.toList = (x, y)) :
    Calls Tryz.prog 143 #[.string s] w fun e w' => e = .returned (.tuple #[.int .i64 x, .int .i64 y]) ∧ Below w.heap.size w w' := by
  have HX : Hid (namR nms s.data.toList = (x, y)) := hxyz
  clear hxyz
  go_enter Tryz.func143, Tryz.ntmps143
  go_wp2
  go_loopw [6] (fun v wr => ∃ i : Nat, v = .int .i64 (i : Int) ∧ i ≤ 5 ∧ Hid (namR (nms.drop i) s.data.toList = (x, y)) ∧ Hid (Below w.heap.size w wr) ∧ (wr.cell? ⟨w.heap.size, 0, none⟩ = some (.string ⟨#[38, 97, 109, 112, 59]⟩) ∧ wr.cell? ⟨w.heap.size, 1, none⟩ = some (.string ⟨#[38, 108, 116, 59]⟩) ∧ wr.cell? ⟨w.heap.size, 2, none⟩ = some (.string ⟨#[38, 103, 116, 59]⟩) ∧ wr.cell? ⟨w.heap.size, 3, none⟩ = some (.string ⟨#[38, 113, 117, 111, 116, 59]⟩) ∧ wr.cell? ⟨w.heap.size, 4, none⟩ = some (.string ⟨#[38, 97, 112, 111, 115, 59]⟩))) (fun v _ => 5 - (intOf v).toNat)
  case atStart =>
    refine ⟨0, rfl, by omega, HX, ?_, ?_⟩
    · show Below w.heap.size w _
      exact below_new w _
    · refine ⟨?_, ?_, ?_, ?_, ?_⟩ <;> simp
  case round =>
    obtain ⟨i, rfl, hi5, hn, hbw, hcs⟩ := hrel
    have HCS : Hid (wr.cell? ⟨w.heap.size, 0, none⟩ = some (.string ⟨#[38, 97, 109, 112, 59]⟩) ∧ wr.cell? ⟨w.heap.size, 1, none⟩ = some (.string ⟨#[38, 108, 116, 59]⟩) ∧ wr.cell? ⟨w.heap.size, 2, none⟩ = some (.string ⟨#[38, 103, 116, 59]⟩) ∧ wr.cell? ⟨w.heap.size, 3, none⟩ = some (.string ⟨#[38, 113, 117, 111, 116, 59]⟩) ∧ wr.cell? ⟨w.heap.size, 4, none⟩ = some (.string ⟨#[38, 97, 112, 111, 115, 59]⟩)) := hcs
    obtain ⟨c0, c1, c2, c3, c4⟩ := hcs
    clear HX
    have h6 : i = 0 ∨ i = 1 ∨ i = 2 ∨ i = 3 ∨ i = 4 ∨ i = 5 := by omega
    rcases h6 with rfl | rfl | rfl | rfl | rfl | rfl
    · have hpq := preq (s := s) (X := [38, 97, 109, 112, 59]) (n := 5) rfl
      cases hA : ([38, 97, 109, 112, 59] : List UInt8).isPrefixOf s.data.toList
      · have HN : Hid (namR (nms.drop 1) s.data.toList = (x, y)) := by
          show namR (nms.drop 1) s.data.toList = (x, y)
          rw [← hn.out]
          exact (if_neg (Bool.eq_false_iff.1 hA)).symm
        by_cases hle : 5 ≤ s.size
        · have hq : ((s.extract 0 5).toList == [38, 97, 109, 112, 59]) = false := by
            rcases hpq with h | h
            · rw [h, hA]
            · omega
          have hd : decide ((5 : Int) ≤ (s.size : Int)) = true := by simp; omega
          clear hn hA hpq
          go_wp2
          go_quiet (fail)
          go_wp2
          go_roundw
          case rel => exact ⟨1, rfl, by omega, HN, below_drewN hbw.out _, HCS.out⟩
          case measure => simp [intOf]
        · have hd : decide ((5 : Int) ≤ (s.size : Int)) = false := by simp; omega
          clear hn hA hpq
          go_wp2
          go_quiet (fail)
          go_wp2
          go_roundw
          case rel => exact ⟨1, rfl, by omega, HN, below_drewN hbw.out _, HCS.out⟩
          case measure => simp [intOf]
      · have hle : 5 ≤ s.size := by
          have := isPre hA
          rw [size_list] at this
          exact this
        have hq : ((s.extract 0 5).toList == [38, 97, 109, 112, 59]) = true := by
          rcases hpq with h | h
          · rw [h, hA]
          · omega
        have hd : decide ((5 : Int) ≤ (s.size : Int)) = true := by simp; omega
        have hf : (x, y) = ((38 : Int), (5 : Int)) := by
          rw [← hn.out]
          exact if_pos hA
        simp only [Prod.mk.injEq] at hf
        obtain ⟨e1, e2⟩ := hf
        have hof : ∀ h, ((⟨#[38, 60, 62, 34, 39]⟩ : ByteArray)[0]'h).toNat = 38 := fun _ => rfl
        clear hn hA hpq
        go_wp2
        go_quiet (fail)
        go_wp2
        go_quiet (fail)
        go_wp2
        go_ret2
        first | exact ⟨congrArg _ (v_two e1.symm e2.symm), below_drewN (below_drewN hbw.out _) _⟩ | exact ⟨congrArg _ (v_two (by rw [e1]; decide) e2.symm), below_drewN (below_drewN hbw.out _) _⟩
    · have hpq := preq (s := s) (X := [38, 108, 116, 59]) (n := 4) rfl
      cases hA : ([38, 108, 116, 59] : List UInt8).isPrefixOf s.data.toList
      · have HN : Hid (namR (nms.drop 2) s.data.toList = (x, y)) := by
          show namR (nms.drop 2) s.data.toList = (x, y)
          rw [← hn.out]
          exact (if_neg (Bool.eq_false_iff.1 hA)).symm
        by_cases hle : 4 ≤ s.size
        · have hq : ((s.extract 0 4).toList == [38, 108, 116, 59]) = false := by
            rcases hpq with h | h
            · rw [h, hA]
            · omega
          have hd : decide ((4 : Int) ≤ (s.size : Int)) = true := by simp; omega
          clear hn hA hpq
          go_wp2
          go_quiet (fail)
          go_wp2
          go_roundw
          case rel => exact ⟨2, rfl, by omega, HN, below_drewN hbw.out _, HCS.out⟩
          case measure => simp [intOf]
        · have hd : decide ((4 : Int) ≤ (s.size : Int)) = false := by simp; omega
          clear hn hA hpq
          go_wp2
          go_quiet (fail)
          go_wp2
          go_roundw
          case rel => exact ⟨2, rfl, by omega, HN, below_drewN hbw.out _, HCS.out⟩
          case measure => simp [intOf]
      · have hle : 4 ≤ s.size := by
          have := isPre hA
          rw [size_list] at this
          exact this
        have hq : ((s.extract 0 4).toList == [38, 108, 116, 59]) = true := by
          rcases hpq with h | h
          · rw [h, hA]
          · omega
        have hd : decide ((4 : Int) ≤ (s.size : Int)) = true := by simp; omega
        have hf : (x, y) = ((60 : Int), (4 : Int)) := by
          rw [← hn.out]
          exact if_pos hA
        simp only [Prod.mk.injEq] at hf
        obtain ⟨e1, e2⟩ := hf
        have hof : ∀ h, ((⟨#[38, 60, 62, 34, 39]⟩ : ByteArray)[1]'h).toNat = 60 := fun _ => rfl
        clear hn hA hpq
        go_wp2
        go_quiet (fail)
        go_wp2
        go_quiet (fail)
        go_wp2
        go_ret2
        first | exact ⟨congrArg _ (v_two e1.symm e2.symm), below_drewN (below_drewN hbw.out _) _⟩ | exact ⟨congrArg _ (v_two (by rw [e1]; decide) e2.symm), below_drewN (below_drewN hbw.out _) _⟩
    · have hpq := preq (s := s) (X := [38, 103, 116, 59]) (n := 4) rfl
      cases hA : ([38, 103, 116, 59] : List UInt8).isPrefixOf s.data.toList
      · have HN : Hid (namR (nms.drop 3) s.data.toList = (x, y)) := by
          show namR (nms.drop 3) s.data.toList = (x, y)
          rw [← hn.out]
          exact (if_neg (Bool.eq_false_iff.1 hA)).symm
        by_cases hle : 4 ≤ s.size
        · have hq : ((s.extract 0 4).toList == [38, 103, 116, 59]) = false := by
            rcases hpq with h | h
            · rw [h, hA]
            · omega
          have hd : decide ((4 : Int) ≤ (s.size : Int)) = true := by simp; omega
          clear hn hA hpq
          go_wp2
          go_quiet (fail)
          go_wp2
          go_roundw
          case rel => exact ⟨3, rfl, by omega, HN, below_drewN hbw.out _, HCS.out⟩
          case measure => simp [intOf]
        · have hd : decide ((4 : Int) ≤ (s.size : Int)) = false := by simp; omega
          clear hn hA hpq
          go_wp2
          go_quiet (fail)
          go_wp2
          go_roundw
          case rel => exact ⟨3, rfl, by omega, HN, below_drewN hbw.out _, HCS.out⟩
          case measure => simp [intOf]
      · have hle : 4 ≤ s.size := by
          have := isPre hA
          rw [size_list] at this
          exact this
        have hq : ((s.extract 0 4).toList == [38, 103, 116, 59]) = true := by
          rcases hpq with h | h
          · rw [h, hA]
          · omega
        have hd : decide ((4 : Int) ≤ (s.size : Int)) = true := by simp; omega
        have hf : (x, y) = ((62 : Int), (4 : Int)) := by
          rw [← hn.out]
          exact if_pos hA
        simp only [Prod.mk.injEq] at hf
        obtain ⟨e1, e2⟩ := hf
        have hof : ∀ h, ((⟨#[38, 60, 62, 34, 39]⟩ : ByteArray)[2]'h).toNat = 62 := fun _ => rfl
        clear hn hA hpq
        go_wp2
        go_quiet (fail)
        go_wp2
        go_quiet (fail)
        go_wp2
        go_ret2
        first | exact ⟨congrArg _ (v_two e1.symm e2.symm), below_drewN (below_drewN hbw.out _) _⟩ | exact ⟨congrArg _ (v_two (by rw [e1]; decide) e2.symm), below_drewN (below_drewN hbw.out _) _⟩
    · have hpq := preq (s := s) (X := [38, 113, 117, 111, 116, 59]) (n := 6) rfl
      cases hA : ([38, 113, 117, 111, 116, 59] : List UInt8).isPrefixOf s.data.toList
      · have HN : Hid (namR (nms.drop 4) s.data.toList = (x, y)) := by
          show namR (nms.drop 4) s.data.toList = (x, y)
          rw [← hn.out]
          exact (if_neg (Bool.eq_false_iff.1 hA)).symm
        by_cases hle : 6 ≤ s.size
        · have hq : ((s.extract 0 6).toList == [38, 113, 117, 111, 116, 59]) = false := by
            rcases hpq with h | h
            · rw [h, hA]
            · omega
          have hd : decide ((6 : Int) ≤ (s.size : Int)) = true := by simp; omega
          clear hn hA hpq
          go_wp2
          go_quiet (fail)
          go_wp2
          go_roundw
          case rel => exact ⟨4, rfl, by omega, HN, below_drewN hbw.out _, HCS.out⟩
          case measure => simp [intOf]
        · have hd : decide ((6 : Int) ≤ (s.size : Int)) = false := by simp; omega
          clear hn hA hpq
          go_wp2
          go_quiet (fail)
          go_wp2
          go_roundw
          case rel => exact ⟨4, rfl, by omega, HN, below_drewN hbw.out _, HCS.out⟩
          case measure => simp [intOf]
      · have hle : 6 ≤ s.size := by
          have := isPre hA
          rw [size_list] at this
          exact this
        have hq : ((s.extract 0 6).toList == [38, 113, 117, 111, 116, 59]) = true := by
          rcases hpq with h | h
          · rw [h, hA]
          · omega
        have hd : decide ((6 : Int) ≤ (s.size : Int)) = true := by simp; omega
        have hf : (x, y) = ((34 : Int), (6 : Int)) := by
          rw [← hn.out]
          exact if_pos hA
        simp only [Prod.mk.injEq] at hf
        obtain ⟨e1, e2⟩ := hf
        have hof : ∀ h, ((⟨#[38, 60, 62, 34, 39]⟩ : ByteArray)[3]'h).toNat = 34 := fun _ => rfl
        clear hn hA hpq
        go_wp2
        go_quiet (fail)
        go_wp2
        go_quiet (fail)
        go_wp2
        go_ret2
        first | exact ⟨congrArg _ (v_two e1.symm e2.symm), below_drewN (below_drewN hbw.out _) _⟩ | exact ⟨congrArg _ (v_two (by rw [e1]; decide) e2.symm), below_drewN (below_drewN hbw.out _) _⟩
    · have hpq := preq (s := s) (X := [38, 97, 112, 111, 115, 59]) (n := 6) rfl
      cases hA : ([38, 97, 112, 111, 115, 59] : List UInt8).isPrefixOf s.data.toList
      · have HN : Hid (namR (nms.drop 5) s.data.toList = (x, y)) := by
          show namR (nms.drop 5) s.data.toList = (x, y)
          rw [← hn.out]
          exact (if_neg (Bool.eq_false_iff.1 hA)).symm
        by_cases hle : 6 ≤ s.size
        · have hq : ((s.extract 0 6).toList == [38, 97, 112, 111, 115, 59]) = false := by
            rcases hpq with h | h
            · rw [h, hA]
            · omega
          have hd : decide ((6 : Int) ≤ (s.size : Int)) = true := by simp; omega
          clear hn hA hpq
          go_wp2
          go_quiet (fail)
          go_wp2
          go_roundw
          case rel => exact ⟨5, rfl, by omega, HN, below_drewN hbw.out _, HCS.out⟩
          case measure => simp [intOf]
        · have hd : decide ((6 : Int) ≤ (s.size : Int)) = false := by simp; omega
          clear hn hA hpq
          go_wp2
          go_quiet (fail)
          go_wp2
          go_roundw
          case rel => exact ⟨5, rfl, by omega, HN, below_drewN hbw.out _, HCS.out⟩
          case measure => simp [intOf]
      · have hle : 6 ≤ s.size := by
          have := isPre hA
          rw [size_list] at this
          exact this
        have hq : ((s.extract 0 6).toList == [38, 97, 112, 111, 115, 59]) = true := by
          rcases hpq with h | h
          · rw [h, hA]
          · omega
        have hd : decide ((6 : Int) ≤ (s.size : Int)) = true := by simp; omega
        have hf : (x, y) = ((39 : Int), (6 : Int)) := by
          rw [← hn.out]
          exact if_pos hA
        simp only [Prod.mk.injEq] at hf
        obtain ⟨e1, e2⟩ := hf
        have hof : ∀ h, ((⟨#[38, 60, 62, 34, 39]⟩ : ByteArray)[4]'h).toNat = 39 := fun _ => rfl
        clear hn hA hpq
        go_wp2
        go_quiet (fail)
        go_wp2
        go_quiet (fail)
        go_wp2
        go_ret2
        first | exact ⟨congrArg _ (v_two e1.symm e2.symm), below_drewN (below_drewN hbw.out _) _⟩ | exact ⟨congrArg _ (v_two (by rw [e1]; decide) e2.symm), below_drewN (below_drewN hbw.out _) _⟩
    · have hf : (x, y) = ((0 : Int), (0 : Int)) := by rw [← hn.out]; rfl
      simp only [Prod.mk.injEq] at hf
      obtain ⟨e1, e2⟩ := hf
      clear hn
      go_wp2
      go_ret2
      first | exact ⟨congrArg _ (v_two e1.symm e2.symm), hbw.out⟩ | exact ⟨rfl, hbw.out⟩

theorem preb {s : ByteArray} {X : List UInt8} (x : ByteArray) (hx : x.data.toList = X) (h : s.size < X.length) : ((x.extract 0 s.size).toList == s.toList) = s.data.toList.isPrefixOf X := by
  rw [Lib.extract_toList, List.drop_zero, Nat.sub_zero, hx, Lib.toList_data, Bool.eq_iff_iff, beq_iff_eq, List.isPrefixOf_iff_prefix, List.prefix_iff_eq_take, size_list]
  exact eq_comm

set_option maxRecDepth 100000 in
set_option maxHeartbeats 4000000 in
theorem rbegins_walk (w : World) (s : ByteArray) (x : Bool) (hxyz : begR nms s.data.toList = x) :
    Calls Tryz.prog 144 #[.string s] w fun e w' => e = .returned (.bool x) ∧ Below w.heap.size w w' := by
  have HX : Hid (begR nms s.data.toList = x) := hxyz
  have hl := size_list s
  clear hxyz
  go_enter Tryz.func144, Tryz.ntmps144
  go_wp2
  go_loopw [4] (fun v wr => ∃ i : Nat, v = .int .i64 (i : Int) ∧ i ≤ 5 ∧ Hid (begR (nms.drop i) s.data.toList = x) ∧ Hid (Below w.heap.size w wr) ∧ (wr.cell? ⟨w.heap.size, 0, none⟩ = some (.string ⟨#[38, 97, 109, 112, 59]⟩) ∧ wr.cell? ⟨w.heap.size, 1, none⟩ = some (.string ⟨#[38, 108, 116, 59]⟩) ∧ wr.cell? ⟨w.heap.size, 2, none⟩ = some (.string ⟨#[38, 103, 116, 59]⟩) ∧ wr.cell? ⟨w.heap.size, 3, none⟩ = some (.string ⟨#[38, 113, 117, 111, 116, 59]⟩) ∧ wr.cell? ⟨w.heap.size, 4, none⟩ = some (.string ⟨#[38, 97, 112, 111, 115, 59]⟩))) (fun v _ => 5 - (intOf v).toNat)
  case atStart =>
    refine ⟨0, rfl, by omega, HX, ?_, ?_⟩
    · show Below w.heap.size w _
      exact below_new w _
    · refine ⟨?_, ?_, ?_, ?_, ?_⟩ <;> simp
  case round =>
    obtain ⟨i, rfl, hi5, hn, hbw, hcs⟩ := hrel
    have HCS : Hid (wr.cell? ⟨w.heap.size, 0, none⟩ = some (.string ⟨#[38, 97, 109, 112, 59]⟩) ∧ wr.cell? ⟨w.heap.size, 1, none⟩ = some (.string ⟨#[38, 108, 116, 59]⟩) ∧ wr.cell? ⟨w.heap.size, 2, none⟩ = some (.string ⟨#[38, 103, 116, 59]⟩) ∧ wr.cell? ⟨w.heap.size, 3, none⟩ = some (.string ⟨#[38, 113, 117, 111, 116, 59]⟩) ∧ wr.cell? ⟨w.heap.size, 4, none⟩ = some (.string ⟨#[38, 97, 112, 111, 115, 59]⟩)) := hcs
    obtain ⟨c0, c1, c2, c3, c4⟩ := hcs
    clear HX
    have h6 : i = 0 ∨ i = 1 ∨ i = 2 ∨ i = 3 ∨ i = 4 ∨ i = 5 := by omega
    rcases h6 with rfl | rfl | rfl | rfl | rfl | rfl
    · by_cases hlt : s.size < 5
      · have hpq := preb (s := s) (X := [38, 97, 109, 112, 59]) ⟨#[38, 97, 109, 112, 59]⟩ rfl hlt
        have hd : decide ((s.size : Int) < (5 : Int)) = true := by simp; omega
        have hsl : (⟨#[38, 97, 109, 112, 59]⟩ : ByteArray).size = 5 := rfl
        cases hA : s.data.toList.isPrefixOf ([38, 97, 109, 112, 59] : List UInt8)
        · have HN : Hid (begR (nms.drop 1) s.data.toList = x) := by
            show begR (nms.drop 1) s.data.toList = x
            rw [← hn.out]
            exact (if_neg (fun h => Bool.eq_false_iff.1 hA h.2)).symm
          rw [hA] at hpq
          clear hn hA
          go_wp2
          go_roundw
          case rel => exact ⟨1, rfl, by omega, HN, hbw.out, HCS.out⟩
          case measure => simp [intOf]
        · have hf : x = true := by
            rw [← hn.out]
            exact if_pos ⟨by rw [hl]; exact hlt, hA⟩
          rw [hA] at hpq
          clear hn hA
          go_wp2
          go_ret
          first | exact ⟨congrArg _ (v_bool hf.symm), hbw.out⟩ | exact ⟨rfl, hbw.out⟩
      · have hd : decide ((s.size : Int) < (5 : Int)) = false := by simp; omega
        have HN : Hid (begR (nms.drop 1) s.data.toList = x) := by
          show begR (nms.drop 1) s.data.toList = x
          rw [← hn.out]
          exact (if_neg (fun h => hlt (by have := h.1; rw [hl] at this; exact this))).symm
        clear hn
        go_wp2
        go_roundw
        case rel => exact ⟨1, rfl, by omega, HN, hbw.out, HCS.out⟩
        case measure => simp [intOf]
    · by_cases hlt : s.size < 4
      · have hpq := preb (s := s) (X := [38, 108, 116, 59]) ⟨#[38, 108, 116, 59]⟩ rfl hlt
        have hd : decide ((s.size : Int) < (4 : Int)) = true := by simp; omega
        have hsl : (⟨#[38, 108, 116, 59]⟩ : ByteArray).size = 4 := rfl
        cases hA : s.data.toList.isPrefixOf ([38, 108, 116, 59] : List UInt8)
        · have HN : Hid (begR (nms.drop 2) s.data.toList = x) := by
            show begR (nms.drop 2) s.data.toList = x
            rw [← hn.out]
            exact (if_neg (fun h => Bool.eq_false_iff.1 hA h.2)).symm
          rw [hA] at hpq
          clear hn hA
          go_wp2
          go_roundw
          case rel => exact ⟨2, rfl, by omega, HN, hbw.out, HCS.out⟩
          case measure => simp [intOf]
        · have hf : x = true := by
            rw [← hn.out]
            exact if_pos ⟨by rw [hl]; exact hlt, hA⟩
          rw [hA] at hpq
          clear hn hA
          go_wp2
          go_ret
          first | exact ⟨congrArg _ (v_bool hf.symm), hbw.out⟩ | exact ⟨rfl, hbw.out⟩
      · have hd : decide ((s.size : Int) < (4 : Int)) = false := by simp; omega
        have HN : Hid (begR (nms.drop 2) s.data.toList = x) := by
          show begR (nms.drop 2) s.data.toList = x
          rw [← hn.out]
          exact (if_neg (fun h => hlt (by have := h.1; rw [hl] at this; exact this))).symm
        clear hn
        go_wp2
        go_roundw
        case rel => exact ⟨2, rfl, by omega, HN, hbw.out, HCS.out⟩
        case measure => simp [intOf]
    · by_cases hlt : s.size < 4
      · have hpq := preb (s := s) (X := [38, 103, 116, 59]) ⟨#[38, 103, 116, 59]⟩ rfl hlt
        have hd : decide ((s.size : Int) < (4 : Int)) = true := by simp; omega
        have hsl : (⟨#[38, 103, 116, 59]⟩ : ByteArray).size = 4 := rfl
        cases hA : s.data.toList.isPrefixOf ([38, 103, 116, 59] : List UInt8)
        · have HN : Hid (begR (nms.drop 3) s.data.toList = x) := by
            show begR (nms.drop 3) s.data.toList = x
            rw [← hn.out]
            exact (if_neg (fun h => Bool.eq_false_iff.1 hA h.2)).symm
          rw [hA] at hpq
          clear hn hA
          go_wp2
          go_roundw
          case rel => exact ⟨3, rfl, by omega, HN, hbw.out, HCS.out⟩
          case measure => simp [intOf]
        · have hf : x = true := by
            rw [← hn.out]
            exact if_pos ⟨by rw [hl]; exact hlt, hA⟩
          rw [hA] at hpq
          clear hn hA
          go_wp2
          go_ret
          first | exact ⟨congrArg _ (v_bool hf.symm), hbw.out⟩ | exact ⟨rfl, hbw.out⟩
      · have hd : decide ((s.size : Int) < (4 : Int)) = false := by simp; omega
        have HN : Hid (begR (nms.drop 3) s.data.toList = x) := by
          show begR (nms.drop 3) s.data.toList = x
          rw [← hn.out]
          exact (if_neg (fun h => hlt (by have := h.1; rw [hl] at this; exact this))).symm
        clear hn
        go_wp2
        go_roundw
        case rel => exact ⟨3, rfl, by omega, HN, hbw.out, HCS.out⟩
        case measure => simp [intOf]
    · by_cases hlt : s.size < 6
      · have hpq := preb (s := s) (X := [38, 113, 117, 111, 116, 59]) ⟨#[38, 113, 117, 111, 116, 59]⟩ rfl hlt
        have hd : decide ((s.size : Int) < (6 : Int)) = true := by simp; omega
        have hsl : (⟨#[38, 113, 117, 111, 116, 59]⟩ : ByteArray).size = 6 := rfl
        cases hA : s.data.toList.isPrefixOf ([38, 113, 117, 111, 116, 59] : List UInt8)
        · have HN : Hid (begR (nms.drop 4) s.data.toList = x) := by
            show begR (nms.drop 4) s.data.toList = x
            rw [← hn.out]
            exact (if_neg (fun h => Bool.eq_false_iff.1 hA h.2)).symm
          rw [hA] at hpq
          clear hn hA
          go_wp2
          go_roundw
          case rel => exact ⟨4, rfl, by omega, HN, hbw.out, HCS.out⟩
          case measure => simp [intOf]
        · have hf : x = true := by
            rw [← hn.out]
            exact if_pos ⟨by rw [hl]; exact hlt, hA⟩
          rw [hA] at hpq
          clear hn hA
          go_wp2
          go_ret
          first | exact ⟨congrArg _ (v_bool hf.symm), hbw.out⟩ | exact ⟨rfl, hbw.out⟩
      · have hd : decide ((s.size : Int) < (6 : Int)) = false := by simp; omega
        have HN : Hid (begR (nms.drop 4) s.data.toList = x) := by
          show begR (nms.drop 4) s.data.toList = x
          rw [← hn.out]
          exact (if_neg (fun h => hlt (by have := h.1; rw [hl] at this; exact this))).symm
        clear hn
        go_wp2
        go_roundw
        case rel => exact ⟨4, rfl, by omega, HN, hbw.out, HCS.out⟩
        case measure => simp [intOf]
    · by_cases hlt : s.size < 6
      · have hpq := preb (s := s) (X := [38, 97, 112, 111, 115, 59]) ⟨#[38, 97, 112, 111, 115, 59]⟩ rfl hlt
        have hd : decide ((s.size : Int) < (6 : Int)) = true := by simp; omega
        have hsl : (⟨#[38, 97, 112, 111, 115, 59]⟩ : ByteArray).size = 6 := rfl
        cases hA : s.data.toList.isPrefixOf ([38, 97, 112, 111, 115, 59] : List UInt8)
        · have HN : Hid (begR (nms.drop 5) s.data.toList = x) := by
            show begR (nms.drop 5) s.data.toList = x
            rw [← hn.out]
            exact (if_neg (fun h => Bool.eq_false_iff.1 hA h.2)).symm
          rw [hA] at hpq
          clear hn hA
          go_wp2
          go_roundw
          case rel => exact ⟨5, rfl, by omega, HN, hbw.out, HCS.out⟩
          case measure => simp [intOf]
        · have hf : x = true := by
            rw [← hn.out]
            exact if_pos ⟨by rw [hl]; exact hlt, hA⟩
          rw [hA] at hpq
          clear hn hA
          go_wp2
          go_ret
          first | exact ⟨congrArg _ (v_bool hf.symm), hbw.out⟩ | exact ⟨rfl, hbw.out⟩
      · have hd : decide ((s.size : Int) < (6 : Int)) = false := by simp; omega
        have HN : Hid (begR (nms.drop 5) s.data.toList = x) := by
          show begR (nms.drop 5) s.data.toList = x
          rw [← hn.out]
          exact (if_neg (fun h => hlt (by have := h.1; rw [hl] at this; exact this))).symm
        clear hn
        go_wp2
        go_roundw
        case rel => exact ⟨5, rfl, by omega, HN, hbw.out, HCS.out⟩
        case measure => simp [intOf]
    · have hf : x = false := by rw [← hn.out]; rfl
      clear hn
      go_wp2
      go_ret
      first | exact ⟨congrArg _ (v_bool hf.symm), hbw.out⟩ | exact ⟨rfl, hbw.out⟩

end Go.Proofs.YtmifejkddgcbmabGreat
