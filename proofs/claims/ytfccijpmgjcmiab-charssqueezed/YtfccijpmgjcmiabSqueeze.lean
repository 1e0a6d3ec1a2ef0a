/- What Squeeze answers, the program's and the document's. -/
import Derived.Test.YtfccijpmgjcmiabEscape
namespace Go.Proofs.Ytfccijpmgjcmiab
open Go.RowKit
set_option linter.unusedVariables false

def sqStep (st : List UInt8 × Bool) (b : UInt8) : List UInt8 × Bool :=
  if blankB b.toNat = true then (st.1, decide (0 < st.1.length)) else (st.1 ++ (if st.2 = true then [32, b] else [b]), false)
def sq (l : List UInt8) : List UInt8 × Bool := l.foldl sqStep ([], false)
/-- What Squeeze answers. -/
def sans (l : List UInt8) : List UInt8 × Int := if (tans l).2 = 0 then ((sq l).1, 0) else ([], (tans l).2)

theorem sq_snoc (a : List UInt8) (b : UInt8) : sq (a ++ [b]) = sqStep (sq a) b := by simp [sq]
theorem sq_step_length (st : List UInt8 × Bool) (b : UInt8) : (sqStep st b).1.length ≤ st.1.length + 2 := by
  unfold sqStep
  split
  · simp
  · simp only [List.length_append]
    split <;> simp
theorem foldl_length (l : List UInt8) : ∀ st : List UInt8 × Bool, (l.foldl sqStep st).1.length ≤ st.1.length + 2 * l.length := by
  induction l with
  | nil => intro st; simp
  | cons b t ih =>
    intro st
    have h1 := ih (sqStep st b)
    have h2 := sq_step_length st b
    simp only [List.foldl_cons, List.length_cons]
    omega
theorem sq_length (l : List UInt8) : (sq l).1.length ≤ 2 * l.length := by
  have := foldl_length l ([], false)
  simpa [sq] using this

set_option maxRecDepth 100000 in
set_option maxHeartbeats 1000000 in
theorem squeeze_bad (w : World) (s : ByteArray) (h : (tans s.data.toList).2 ≠ 0) :
    Calls Try.prog 5 #[.string s] w fun e w' => e = .returned (.tuple #[.string ⟨#[]⟩, .int .i64 (tans s.data.toList).2]) ∧ Below w.heap.size w w' := by
  have ht := text_any w s
  have h1 : ((tans s.data.toList).2 != 0) = true := bne_iff_ne.2 h
  generalize tans s.data.toList = p at *
  go_enter Try.func5, Try.ntmps5
  go_wp2_with fail
  refine ht.mono ?_
  rintro e w' ⟨rfl, hb⟩
  go_wp2
  go_ret2
  exact ⟨rfl, hb⟩

set_option maxRecDepth 100000 in
set_option maxHeartbeats 1000000 in
theorem squeeze_walk (w : World) (s : ByteArray) (h : (tans s.data.toList).2 = 0) (hsz : s.size ≤ 16384) (X : ByteArray) (hX : X = ⟨(sq s.data.toList).1.toArray⟩) :
    Calls Try.prog 5 #[.string s] w fun e w' => e = .returned (.tuple #[.string X, .int .i64 0]) ∧ Below w.heap.size w w' := by
  have ht := text_any w s
  rw [h] at ht
  generalize (tans s.data.toList).1 = p at *
  have hl := size_list s
  have HX : Hid (X = ⟨(sq s.data.toList).1.toArray⟩) := hX
  clear hX h
  go_enter Try.func5, Try.ntmps5
  go_wp2_with fail
  refine ht.mono ?_
  rintro e W ⟨rfl, hb⟩
  have hs1 := hb.size
  have HB1 : Hid (Below w.heap.size w W) := hb
  obtain ⟨W2, cap, hrun, hbld, hW2, hbel, hc⟩ := start_build W s
  have HC : Hid (∃ cs fz, W2.heap[W.heap.size + 1]? = some (.cells cs 5 fz) ∧ ∀ j (hj : j < s.data.toList.length), cs[j]? = some (.int .u8 ((s.data.toList[j]).toNat : Int))) := hc
  have HBL : Hid (Bld W.heap.size (W.heap.size + 2) [] W2) := hbld
  have HB2 : Hid (Below W.heap.size W W2) := hbel
  have HW2 : Hid (W2.heap.size = W.heap.size + 2) := hW2
  clear hc hbld hbel hW2 hb ht
  generalize s.data.toList = l at *
  go_wp2
  go_loopw [7, 21] (fun g v wr => ∃ i : Nat, i ≤ s.size ∧ v = .int .i64 (i : Int) ∧ g = .bool (sq (l.take i)).2 ∧ Hid (Bld W.heap.size (W.heap.size + 2) (sq (l.take i)).1 wr) ∧ Hid (Keeps W.heap.size (W.heap.size + 2) W2 wr) ∧ W.heap.size + 2 ≤ wr.heap.size) (fun _ v _ => s.size - (intOf v).toNat)
  case atStart => exact ⟨0, by omega, rfl, rfl, HBL, Keeps.refl _ _ _, by have := HW2.out; omega⟩
  case round =>
    obtain ⟨i, hi, rfl, rfl, hbl, hkp, hws⟩ := hrel
    by_cases hlt : i < s.size
    · have hcell : wr.cell? ⟨W.heap.size + 1, i, none⟩ = some (.int .u8 ((l[i]'(by omega)).toNat : Int)) := by
        refine bytes_cell ?_ i (by omega)
        rw [hkp.out.2 (W.heap.size + 1) (by omega) (by omega)]
        exact HC.out
      have hts := take_snoc (l := l) (i := i) (by omega)
      generalize (l[i]'(by omega)) = b at hcell hts
      have hbk := blank_any wr b.toNat b.toNat_lt
      have hel := sq_length (l.take i)
      have htl : (l.take i).length ≤ i := by rw [List.length_take]; omega
      have hnx : sq (l.take (i + 1)) = sqStep (sq (l.take i)) b := by rw [hts, sq_snoc]
      have hqb : (sq (l.take i)).1.length ≤ 100000 := by omega
      cases hB : blankB b.toNat <;> rw [hB] at hbk
      · cases hg : (sq (l.take i)).2
        · have hwb := writeByte_any W.heap.size (W.heap.size + 2) (sq (l.take i)).1 b wr hbl.out hws (by omega)
          have HNX : Hid (sq (l.take (i + 1)) = ((sq (l.take i)).1 ++ [b], false)) := by
            show _ = _
            rw [hnx, sqStep, hB, hg]
            rfl
          clear hnx hts hel htl HX hbl hB hg
          go_wp2_with fail
          refine hbk.mono ?_
          rintro e w3 ⟨rfl, rfl⟩
          go_wp2_with fail
          refine hwb.mono ?_
          rintro e w4 ⟨rfl, hbld4, hk4, hs4⟩
          have HB4 : Hid (Bld W.heap.size (W.heap.size + 2) (sq (l.take (i + 1))).1 w4) := by
            show Bld _ _ _ _
            rw [HNX.out]
            exact hbld4
          have HK4 : Hid (Keeps W.heap.size (W.heap.size + 2) W2 w4) := hkp.out.trans hk4
          clear hbld4 hk4 hwb hbk
          go_wp2
          go_roundw
          case rel => exact ⟨i + 1, by omega, by go_num, by rw [HNX.out], HB4, HK4, by omega⟩
          case measure => simp [intOf]; omega
        · have hwb := writeByte_any W.heap.size (W.heap.size + 2) (sq (l.take i)).1 32 wr hbl.out hws (by omega)
          have HNX : Hid (sq (l.take (i + 1)) = ((sq (l.take i)).1 ++ [32] ++ [b], false)) := by
            show _ = _
            rw [hnx, sqStep, hB, hg]
            simp
          have hwb2 : ∀ w4, Bld W.heap.size (W.heap.size + 2) ((sq (l.take i)).1 ++ [32]) w4 → W.heap.size + 2 ≤ w4.heap.size → _ := fun w4 h1 h2 => writeByte_any W.heap.size (W.heap.size + 2) ((sq (l.take i)).1 ++ [32]) b w4 h1 h2 (by simp; omega)
          have HWB2 : Hid _ := hwb2
          rw [show (((32 : UInt8).toNat : Nat) : Int) = 32 from rfl] at hwb
          clear hnx hts hel htl HX hbl hB hg hwb2
          go_wp2_with fail
          refine hbk.mono ?_
          rintro e w3 ⟨rfl, rfl⟩
          go_wp2_with fail
          refine hwb.mono ?_
          rintro e w4 ⟨rfl, hbld4, hk4, hs4⟩
          have hwb3 := HWB2.out w4 hbld4 (by omega)
          have HK4 : Hid (Keeps W.heap.size (W.heap.size + 2) W2 w4) := hkp.out.trans hk4
          clear hbld4 hk4 hwb hbk
          go_wp2_with fail
          refine hwb3.mono ?_
          rintro e w5 ⟨rfl, hbld5, hk5, hs5⟩
          have HB5 : Hid (Bld W.heap.size (W.heap.size + 2) (sq (l.take (i + 1))).1 w5) := by
            show Bld _ _ _ _
            rw [HNX.out]
            exact hbld5
          have HK5 : Hid (Keeps W.heap.size (W.heap.size + 2) W2 w5) := HK4.out.trans hk5
          clear hbld5 hk5 hwb3
          go_wp2
          go_roundw
          case rel => exact ⟨i + 1, by omega, by go_num, by rw [HNX.out], HB5, HK5, by omega⟩
          case measure => simp [intOf]; omega
      · have hle := blen_any W.heap.size (W.heap.size + 2) (sq (l.take i)).1 wr hbl.out
        have HNX : Hid (sq (l.take (i + 1)) = ((sq (l.take i)).1, decide (0 < (sq (l.take i)).1.length))) := by
          show _ = _
          rw [hnx, sqStep, hB]
          rfl
        have HB4 : Hid (Bld W.heap.size (W.heap.size + 2) (sq (l.take (i + 1))).1 wr) := by
          show Bld _ _ _ _
          rw [HNX.out]
          exact hbl.out
        clear hnx hts hel htl HX hbl hB
        go_wp2_with fail
        refine hbk.mono ?_
        rintro e w3 ⟨rfl, rfl⟩
        go_wp2_with fail
        refine hle.mono ?_
        rintro e w4 ⟨rfl, rfl⟩
        go_wp2
        go_roundw
        case rel => exact ⟨i + 1, by omega, by go_num, by rw [HNX.out], HB4, hkp, by omega⟩
        case measure => simp [intOf]; omega
    · have hst := bstring_any W.heap.size (W.heap.size + 2) _ wr hbl.out
      rw [List.take_of_length_le (by omega), ← HX.out] at hst
      clear HX hbl
      go_wp2_with fail
      refine hst.mono ?_
      rintro e w4 ⟨rfl, hb4⟩
      go_wp2
      go_ret2
      exact ⟨rfl, HB1.out.trans ((HB2.out.trans (hkp.out.1.trans hb4)).mono hs1)⟩

theorem squeeze_any (w : World) (s : ByteArray) :
    Calls Try.prog 5 #[.string s] w fun e w' => e = .returned (.tuple #[.string ⟨(sans s.data.toList).1.toArray⟩, .int .i64 (sans s.data.toList).2]) ∧ Below w.heap.size w w' := by
  by_cases h : (tans s.data.toList).2 = 0
  · have h1 := (tans_ok h).1
    rw [size_list] at h1
    rw [sans, if_pos h]
    exact squeeze_walk w s h h1 _ rfl
  · rw [sans, if_neg h]
    exact squeeze_bad w s h
end Go.Proofs.Ytfccijpmgjcmiab
