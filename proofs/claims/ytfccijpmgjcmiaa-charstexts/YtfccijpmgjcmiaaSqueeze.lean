/- What Squeeze answers, the program's and the document's. -/
import Derived.Test.YtfccijpmgjcmiaaEscape
namespace Go.Proofs.Ytfccijpmgjcmiaa
open Go.RowKit
set_option linter.unusedVariables false

def sqStep (st : List UInt8 × Bool) (b : UInt8) : List UInt8 × Bool :=
  if blankB b.toNat = true then (st.1, decide (0 < st.1.length)) else (st.1 ++ (if st.2 = true then [32, b] else [b]), false)
def sq (l : List UInt8) : List UInt8 × Bool := l.foldl sqStep ([], false)
/-- What Squeeze answers. -/
def sans (l : List UInt8) : List UInt8 × Int := if (tans l).2 = 0 then ((sq l).1, 0) else ([], (tans l).2)

theorem sq_snoc (a : List UInt8) (b : UInt8) : sq (a ++ [b]) = sqStep (sq a) b := by simp [sq]
theorem sq_step_length (st : List UInt8 × Bool) (b : UInt8) : (sqStep st b).1.length ≤ st.1.length + 2 := by
  unfold sqStep
  split
  · simp
  · simp only [List.length_append]
    split <;> simp
theorem foldl_length (l : List UInt8) : ∀ st : List UInt8 × Bool, (l.foldl sqStep st).1.length ≤ st.1.length + 2 * l.length := by
  induction l with
  | nil => intro st; simp
  | cons b t ih =>
    intro st
    have h1 := ih (sqStep st b)
    have h2 := sq_step_length st b
    simp only [List.foldl_cons, List.length_cons]
    omega
theorem sq_length (l : List UInt8) : (sq l).1.length ≤ 2 * l.length := by
  have := foldl_length l ([], false)
  simpa [sq] using this

set_option maxRecDepth 100000 in
set_option maxHeartbeats 1000000 in
theorem squeeze_bad (w : World) (s : ByteArray) (h : (tans s.data.toList).2 ≠ 0) :
    Calls Try.prog 23 #[.string s] w fun e w' => e = .returned (.tuple #[.string ⟨#[]⟩, .int .i64 (tans s.data.toList).2]) ∧ Below w.heap.size w w' := by
  have ht := text_any w s
  have h1 : ((tans s.data.toList).2 != 0) = true := bne_iff_ne.2 h
  generalize tans s.data.toList = p at *
  go_enter Try.func23, Try.ntmps23
  go_wp2_with fail
  refine ht.mono ?_
  rintro e w' ⟨rfl, hb⟩
  go_wp2
  go_ret2
  exact ⟨rfl, hb⟩

set_option maxRecDepth 100000 in
set_option maxHeartbeats 1000000 in
theorem rsqueeze_bad (w : World) (s : ByteArray) (h : (tans s.data.toList).2 ≠ 0) :
    Calls Try.prog 24 #[.string s] w fun e w' => e = .returned (.tuple #[.string ⟨#[]⟩, .int .i64 (tans s.data.toList).2]) ∧ Below w.heap.size w w' := by
  have ht := rtext_any w s
  have h1 : ((tans s.data.toList).2 != 0) = true := bne_iff_ne.2 h
  generalize tans s.data.toList = p at *
  go_enter Try.func24, Try.ntmps24
  go_wp2_with fail
  refine ht.mono ?_
  rintro e w' ⟨rfl, hb⟩
  go_wp2
  go_ret2
  exact ⟨rfl, hb⟩

set_option maxRecDepth 100000 in
set_option maxHeartbeats 1000000 in
theorem squeeze_walk (w : World) (s : ByteArray) (h : (tans s.data.toList).2 = 0) (hsz : s.size ≤ 16384) (X : ByteArray) (hX : X = ⟨(sq s.data.toList).1.toArray⟩) :
    Calls Try.prog 23 #[.string s] w fun e w' => e = .returned (.tuple #[.string X, .int .i64 0]) ∧ Below w.heap.size w w' := by
  have ht := text_any w s
  rw [h] at ht
  generalize (tans s.data.toList).1 = p at *
  have hl := size_list s
  have HX : Hid (X = ⟨(sq s.data.toList).1.toArray⟩) := hX
  clear hX h
  go_enter Try.func23, Try.ntmps23
  go_wp2_with fail
  refine ht.mono ?_
  rintro e W ⟨rfl, hb⟩
  have hs1 := hb.size
  have HB1 : Hid (Below w.heap.size w W) := hb
  obtain ⟨W2, cap, hrun, hbld, hW2, hbel, hc⟩ := start_build W s
  have HC : Hid (∃ cs fz, W2.heap[W.heap.size + 1]? = some (.cells cs 5 fz) ∧ ∀ j (hj : j < s.data.toList.length), cs[j]? = some (.int .u8 ((s.data.toList[j]).toNat : Int))) := hc
  have HBL : Hid (Bld W.heap.size (W.heap.size + 2) [] W2) := hbld
  have HB2 : Hid (Below W.heap.size W W2) := hbel
  have HW2 : Hid (W2.heap.size = W.heap.size + 2) := hW2
  clear hc hbld hbel hW2 hb ht
  generalize s.data.toList = l at *
  go_wp2
  go_loopw [7, 21] (fun g v wr => ∃ i : Nat, i ≤ s.size ∧ v = .int .i64 (i : Int) ∧ g = .bool (sq (l.take i)).2 ∧ Hid (Bld W.heap.size (W.heap.size + 2) (sq (l.take i)).1 wr) ∧ Hid (Keeps W.heap.size (W.heap.size + 2) W2 wr) ∧ W.heap.size + 2 ≤ wr.heap.size) (fun _ v _ => s.size - (intOf v).toNat)
  case atStart => exact ⟨0, by omega, rfl, rfl, HBL, Keeps.refl _ _ _, by have := HW2.out; omega⟩
  case round =>
    obtain ⟨i, hi, rfl, rfl, hbl, hkp, hws⟩ := hrel
    by_cases hlt : i < s.size
    · have hcell : wr.cell? ⟨W.heap.size + 1, i, none⟩ = some (.int .u8 ((l[i]'(by omega)).toNat : Int)) := by
        refine bytes_cell ?_ i (by omega)
        rw [hkp.out.2 (W.heap.size + 1) (by omega) (by omega)]
        exact HC.out
      have hts := take_snoc (l := l) (i := i) (by omega)
      generalize (l[i]'(by omega)) = b at hcell hts
      have hbk := blank_any wr b.toNat b.toNat_lt
      have hel := sq_length (l.take i)
      have htl : (l.take i).length ≤ i := by rw [List.length_take]; omega
      have hnx : sq (l.take (i + 1)) = sqStep (sq (l.take i)) b := by rw [hts, sq_snoc]
      have hqb : (sq (l.take i)).1.length ≤ 100000 := by omega
      cases hB : blankB b.toNat <;> rw [hB] at hbk
      · cases hg : (sq (l.take i)).2
        · have hwb := writeByte_any W.heap.size (W.heap.size + 2) (sq (l.take i)).1 b wr hbl.out hws (by omega)
          have HNX : Hid (sq (l.take (i + 1)) = ((sq (l.take i)).1 ++ [b], false)) := by
            show _ = _
            rw [hnx, sqStep, hB, hg]
            rfl
          clear hnx hts hel htl HX hbl hB hg
          go_wp2_with fail
          refine hbk.mono ?_
          rintro e w3 ⟨rfl, rfl⟩
          go_wp2_with fail
          refine hwb.mono ?_
          rintro e w4 ⟨rfl, hbld4, hk4, hs4⟩
          have HB4 : Hid (Bld W.heap.size (W.heap.size + 2) (sq (l.take (i + 1))).1 w4) := by
            show Bld _ _ _ _
            rw [HNX.out]
            exact hbld4
          have HK4 : Hid (Keeps W.heap.size (W.heap.size + 2) W2 w4) := hkp.out.trans hk4
          clear hbld4 hk4 hwb hbk
          go_wp2
          go_roundw
          case rel => exact ⟨i + 1, by omega, by go_num, by rw [HNX.out], HB4, HK4, by omega⟩
          case measure => simp [intOf]; omega
        · have hwb := writeByte_any W.heap.size (W.heap.size + 2) (sq (l.take i)).1 32 wr hbl.out hws (by omega)
          have HNX : Hid (sq (l.take (i + 1)) = ((sq (l.take i)).1 ++ [32] ++ [b], false)) := by
            show _ = _
            rw [hnx, sqStep, hB, hg]
            simp
          have hwb2 : ∀ w4, Bld W.heap.size (W.heap.size + 2) ((sq (l.take i)).1 ++ [32]) w4 → W.heap.size + 2 ≤ w4.heap.size → _ := fun w4 h1 h2 => writeByte_any W.heap.size (W.heap.size + 2) ((sq (l.take i)).1 ++ [32]) b w4 h1 h2 (by simp; omega)
          have HWB2 : Hid _ := hwb2
          rw [show (((32 : UInt8).toNat : Nat) : Int) = 32 from rfl] at hwb
          clear hnx hts hel htl HX hbl hB hg hwb2
          go_wp2_with fail
          refine hbk.mono ?_
          rintro e w3 ⟨rfl, rfl⟩
          go_wp2_with fail
          refine hwb.mono ?_
          rintro e w4 ⟨rfl, hbld4, hk4, hs4⟩
          have hwb3 := HWB2.out w4 hbld4 (by omega)
          have HK4 : Hid (Keeps W.heap.size (W.heap.size + 2) W2 w4) := hkp.out.trans hk4
          clear hbld4 hk4 hwb hbk
          go_wp2_with fail
          refine hwb3.mono ?_
          rintro e w5 ⟨rfl, hbld5, hk5, hs5⟩
          have HB5 : Hid (Bld W.heap.size (W.heap.size + 2) (sq (l.take (i + 1))).1 w5) := by
            show Bld _ _ _ _
            rw [HNX.out]
            exact hbld5
          have HK5 : Hid (Keeps W.heap.size (W.heap.size + 2) W2 w5) := HK4.out.trans hk5
          clear hbld5 hk5 hwb3
          go_wp2
          go_roundw
          case rel => exact ⟨i + 1, by omega, by go_num, by rw [HNX.out], HB5, HK5, by omega⟩
          case measure => simp [intOf]; omega
      · have hle := blen_any W.heap.size (W.heap.size + 2) (sq (l.take i)).1 wr hbl.out
        have HNX : Hid (sq (l.take (i + 1)) = ((sq (l.take i)).1, decide (0 < (sq (l.take i)).1.length))) := by
          show _ = _
          rw [hnx, sqStep, hB]
          rfl
        have HB4 : Hid (Bld W.heap.size (W.heap.size + 2) (sq (l.take (i + 1))).1 wr) := by
          show Bld _ _ _ _
          rw [HNX.out]
          exact hbl.out
        clear hnx hts hel htl HX hbl hB
        go_wp2_with fail
        refine hbk.mono ?_
        rintro e w3 ⟨rfl, rfl⟩
        go_wp2_with fail
        refine hle.mono ?_
        rintro e w4 ⟨rfl, rfl⟩
        go_wp2
        go_roundw
        case rel => exact ⟨i + 1, by omega, by go_num, by rw [HNX.out], HB4, hkp, by omega⟩
        case measure => simp [intOf]; omega
    · have hst := bstring_any W.heap.size (W.heap.size + 2) _ wr hbl.out
      rw [List.take_of_length_le (by omega), ← HX.out] at hst
      clear HX hbl
      go_wp2_with fail
      refine hst.mono ?_
      rintro e w4 ⟨rfl, hb4⟩
      go_wp2
      go_ret2
      exact ⟨rfl, HB1.out.trans ((HB2.out.trans (hkp.out.1.trans hb4)).mono hs1)⟩

set_option maxRecDepth 100000 in
set_option maxHeartbeats 1000000 in
theorem rsqueeze_walk (w : World) (s : ByteArray) (h : (tans s.data.toList).2 = 0) (hsz : s.size ≤ 16384) (X : ByteArray) (hX : X = ⟨(sq s.data.toList).1.toArray⟩) :
    Calls Try.prog 24 #[.string s] w fun e w' => e = .returned (.tuple #[.string X, .int .i64 0]) ∧ Below w.heap.size w w' := by
  have ht := rtext_any w s
  rw [h] at ht
  generalize (tans s.data.toList).1 = p at *
  have hl := size_list s
  have HX : Hid (X = ⟨(sq s.data.toList).1.toArray⟩) := hX
  have HC : Hid (∀ j (hj : j < s.data.toList.length) (hj' : j < s.size), s.data.toList[j]'hj = s[j]'hj') := fun j hj hj' => (get_list hj').2
  obtain ⟨i0, hi, hz0, hz1, hz2⟩ := info_parts info5
  clear hX h
  generalize s.data.toList = l at *
  go_enter Try.func24, Try.ntmps24
  go_wp2_with fail
  refine ht.mono ?_
  rintro e W ⟨rfl, hb⟩
  have hs1 := hb.size
  have HB1 : Hid (Below w.heap.size w W) := hb
  clear hb ht
  go_wp2
  go_loopw [6, 7, 8] (fun v6 g v wr => ∃ i : Nat, i ≤ s.size ∧ v = .int .i64 (i : Int) ∧ g = .bool (sq (l.take i)).2 ∧ wr.ownsRow W.heap.size 5 1 v6 (sq (l.take i)).1.length (Lib.byteCells (sq (l.take i)).1) ∧ Hid (Below W.heap.size W wr)) (fun _ _ v _ => s.size - (intOf v).toNat)
  case atStart => exact ⟨0, by omega, rfl, rfl, ⟨rfl, Or.inl ⟨rfl, rfl⟩⟩, Below.refl _ _⟩
  case round =>
    obtain ⟨i, hil, rfl, rfl, hown, hbw⟩ := hrel
    have hws := hbw.out.size
    obtain ⟨ba, bcap, rfl⟩ := owns_slice hown
    by_cases hlt : i < s.size
    · have hcell := HC.out i (by omega) hlt
      have hts := take_snoc (l := l) (i := i) (by omega)
      rw [hcell] at hts
      have hbk := white_any wr (s[i]'hlt).toNat (UInt8.toNat_lt _)
      have hel := sq_length (l.take i)
      have htl : (l.take i).length ≤ i := by rw [List.length_take]; omega
      have hnx : sq (l.take (i + 1)) = sqStep (sq (l.take i)) (s[i]'hlt) := by rw [hts, sq_snoc]
      have hqb : (sq (l.take i)).1.length ≤ 100000 := by omega
      have HOW : Hid (wr.ownsRow W.heap.size 5 1 (.slice ba (sq (l.take i)).1.length bcap) (sq (l.take i)).1.length (Lib.byteCells (sq (l.take i)).1)) := hown
      cases hB : blankB (s[i]'hlt).toNat <;> rw [hB] at hbk
      · cases hg : (sq (l.take i)).2
        · have HNX : Hid (sq (l.take (i + 1)) = ((sq (l.take i)).1 ++ [s[i]'hlt], false)) := by
            show _ = _
            rw [hnx, sqStep, hB, hg]
            rfl
          clear hnx hts hel htl HX hown hcell hB hg
          go_wp2_with fail
          refine hbk.mono ?_
          rintro e w3 ⟨rfl, rfl⟩
          go_wp2_with (at_builtin; refine wpList_append_own _ rfl _ _ 42 rfl W.heap.size 5 i0 (.int .u8 0) 1 1 Try.underlying42 hi hz0 hz1 hz2 rfl (by decide) _ _ _ rfl (HOW.out.alloc _) ⟨w3.heap.size, 0, none⟩ 1 1 [.int .u8 ((s[i]'hlt).toNat : Int)] rfl rfl ?c1 ?c2 ?c3 ?c4 ?c5 ?_)
          case c1 =>
            intro j u hj
            match j, hj with
            | 0, hj => simp at hj; subst hj; simp [Addr.add]
          case c2 => intro u hu; simp at hu; subst hu; rfl
          case c3 => unfold maxLen; omega
          case c4 => omega
          case c5 => simp; omega
          intro v' w4 hown' hgrow _
          have HO4 : Hid (w4.ownsRow W.heap.size 5 1 v' (sq (l.take (i + 1))).1.length (Lib.byteCells (sq (l.take (i + 1))).1)) := by
            show w4.ownsRow _ _ _ _ _ _
            rw [HNX.out, Lib.byteCells_append, List.length_append]
            exact hown'
          have HB4 : Hid (Below W.heap.size W w4) := (hbw.out.alloc hws _).grown hgrow (by simp; omega) (fun k hk => (HOW.out.lt k hk).1)
          clear hown' hgrow hbk
          go_wp2
          go_roundw
          case rel => exact ⟨i + 1, by omega, by go_num, by rw [HNX.out], HO4.out, HB4⟩
          case measure => simp [intOf]; omega
        · have HNX : Hid (sq (l.take (i + 1)) = ((sq (l.take i)).1 ++ [32] ++ [s[i]'hlt], false)) := by
            show _ = _
            rw [hnx, sqStep, hB, hg]
            simp
          clear hnx hts hel htl HX hown hcell hB hg
          have tok1 : True := trivial
          go_wp2_with fail
          refine hbk.mono ?_
          rintro e w3 ⟨rfl, rfl⟩
          go_wp2_with (at_builtin; refine wpList_append_own _ rfl _ _ 42 rfl W.heap.size 5 i0 (.int .u8 0) 1 1 Try.underlying42 hi hz0 hz1 hz2 rfl (by decide) _ _ _ rfl (HOW.out.alloc _) ⟨w3.heap.size, 0, none⟩ 1 1 [.int .u8 32] rfl rfl ?c1 ?c2 ?c3 ?c4 ?c5 ?_)
          case c1 =>
            intro j u hj
            match j, hj with
            | 0, hj => simp at hj; subst hj; simp [Addr.add]
          case c2 => intro u hu; simp at hu; subst hu; rfl
          case c3 => unfold maxLen; omega
          case c4 => omega
          case c5 => simp; omega
          intro v' w4 hown' hgrow _
          obtain ⟨ba2, bcap2, rfl⟩ := owns_slice hown'
          have HO4 : Hid (w4.ownsRow W.heap.size 5 1 (.slice ba2 ((sq (l.take i)).1.length + 1) bcap2) ((sq (l.take i)).1.length + 1) (Lib.byteCells ((sq (l.take i)).1 ++ [32]))) := by
            show w4.ownsRow _ _ _ _ _ _
            rw [Lib.byteCells_append]
            exact hown'
          have HB4 : Hid (Below W.heap.size W w4) := (hbw.out.alloc hws _).grown hgrow (by simp; omega) (fun k hk => (HOW.out.lt k hk).1)
          have hws4 := HB4.out.size
          clear hown' hgrow hbk HOW
          go_wp2_with (at_builtin; refine wpList_append_own _ rfl _ _ 42 rfl W.heap.size 5 i0 (.int .u8 0) 1 1 Try.underlying42 hi hz0 hz1 hz2 rfl (by decide) _ _ _ rfl (HO4.out.alloc _) ⟨w4.heap.size, 0, none⟩ 1 1 [.int .u8 ((s[i]'hlt).toNat : Int)] rfl rfl ?c1 ?c2 ?c3 ?c4 ?c5 ?_)
          case c1 =>
            intro j u hj
            match j, hj with
            | 0, hj => simp at hj; subst hj; simp [Addr.add]
          case c2 => intro u hu; simp at hu; subst hu; rfl
          case c3 => unfold maxLen; omega
          case c4 => omega
          case c5 => simp; omega
          intro v5 w5 hown5 hgrow5 _
          have HO5 : Hid (w5.ownsRow W.heap.size 5 1 v5 (sq (l.take (i + 1))).1.length (Lib.byteCells (sq (l.take (i + 1))).1)) := by
            show w5.ownsRow _ _ _ _ _ _
            rw [HNX.out, Lib.byteCells_append, List.length_append, List.length_append]
            exact hown5
          have HB5 : Hid (Below W.heap.size W w5) := (HB4.out.alloc hws4 _).grown hgrow5 (by simp; omega) (fun k hk => (HO4.out.lt k hk).1)
          clear hown5 hgrow5
          go_wp2
          go_roundw
          case rel => exact ⟨i + 1, by omega, by go_num, by rw [HNX.out], HO5.out, HB5⟩
          case measure => simp [intOf]; omega
      · have HNX : Hid (sq (l.take (i + 1)) = ((sq (l.take i)).1, decide (0 < (sq (l.take i)).1.length))) := by
          show _ = _
          rw [hnx, sqStep, hB]
          rfl
        clear hnx hts hel htl HX hown hcell hB
        go_wp2_with fail
        refine hbk.mono ?_
        rintro e w3 ⟨rfl, rfl⟩
        go_wp2
        go_roundw
        case rel => exact ⟨i + 1, by omega, by go_num, by rw [HNX.out], by rw [HNX.out]; exact HOW.out, hbw⟩
        case measure => simp [intOf]; omega
    · have hconv := conv_own hown
      have hX2 : X = ⟨(sq (l.take i)).1.toArray⟩ := by rw [HX.out, List.take_of_length_le (by omega)]
      rw [← hX2] at hconv
      clear HX hown hX2
      go_wp2
      go_ret2
      exact ⟨rfl, HB1.out.trans (hbw.out.mono hs1)⟩

theorem squeeze_any (w : World) (s : ByteArray) :
    Calls Try.prog 23 #[.string s] w fun e w' => e = .returned (.tuple #[.string ⟨(sans s.data.toList).1.toArray⟩, .int .i64 (sans s.data.toList).2]) ∧ Below w.heap.size w w' := by
  by_cases h : (tans s.data.toList).2 = 0
  · have h1 := (tans_ok h).1
    rw [size_list] at h1
    rw [sans, if_pos h]
    exact squeeze_walk w s h h1 _ rfl
  · rw [sans, if_neg h]
    exact squeeze_bad w s h
theorem rsqueeze_any (w : World) (s : ByteArray) :
    Calls Try.prog 24 #[.string s] w fun e w' => e = .returned (.tuple #[.string ⟨(sans s.data.toList).1.toArray⟩, .int .i64 (sans s.data.toList).2]) ∧ Below w.heap.size w w' := by
  by_cases h : (tans s.data.toList).2 = 0
  · have h1 := (tans_ok h).1
    rw [size_list] at h1
    rw [sans, if_pos h]
    exact rsqueeze_walk w s h h1 _ rfl
  · rw [sans, if_neg h]
    exact rsqueeze_bad w s h

end Go.Proofs.Ytfccijpmgjcmiaa
