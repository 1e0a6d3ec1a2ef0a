/- Escape's walks, the program's and the document's. -/
import Derived.Test.YtfccijpmgjcmiabEsc
namespace Go.Proofs.Ytfccijpmgjcmiab
open Go.RowKit
set_option linter.unusedVariables false

theorem v_sii {k k' : IntKind} {a b : ByteArray} {c d e f : Int} (h : a = b) (h' : c = d) (h'' : e = f) : Value.tuple #[.string a, .int k c, .int k' e] = .tuple #[.string b, .int k d, .int k' f] := by rw [h, h', h'']

set_option maxRecDepth 100000 in
set_option maxHeartbeats 1000000 in
theorem escape_bad (w : World) (s : ByteArray) (q : Bool) (h : (tans s.data.toList).2 ≠ 0) :
    Calls Try.prog 8 #[.string s, .bool q] w fun e w' => e = .returned (.tuple #[.string ⟨#[]⟩, .int .i64 (tans s.data.toList).1, .int .i64 (tans s.data.toList).2]) ∧ Below w.heap.size w w' := by
  have ht := text_any w s
  have h1 : ((tans s.data.toList).2 != 0) = true := bne_iff_ne.2 h
  generalize tans s.data.toList = p at *
  go_enter Try.func8, Try.ntmps8
  go_wp2_with fail
  refine ht.mono ?_
  rintro e w' ⟨rfl, hb⟩
  go_wp2
  go_ret3
  exact ⟨rfl, hb⟩

/-- A new builder and a text's bytes behind it. -/
theorem start_build (W : World) (s : ByteArray) : ∃ W2 cap, (convert 9 35 (.string s)).run Try.prog (W.alloc (.cells #[.pointer none, .slice none 0 0] 37)) = .ok (.slice (some ⟨W.heap.size + 1, 0, none⟩) s.size cap) W2 ∧
    Bld W.heap.size (W.heap.size + 2) [] W2 ∧ W2.heap.size = W.heap.size + 2 ∧ Below W.heap.size W W2 ∧
    ∃ cs fz, W2.heap[W.heap.size + 1]? = some (.cells cs 5 fz) ∧ ∀ j (hj : j < s.data.toList.length), cs[j]? = some (.int .u8 ((s.data.toList[j]).toNat : Int)) := by
  obtain ⟨W2, cap, hrun, hbel, hWs, hc⟩ := conv_bytes (W.alloc (.cells #[.pointer none, .slice none 0 0] 37)) s
  have hsz : (W.alloc (.cells #[.pointer none, .slice none 0 0] 37)).heap.size = W.heap.size + 1 := by simp
  rw [hsz] at hrun hbel hWs hc
  refine ⟨W2, cap, hrun, ⟨by omega, .pointer none, .slice none 0 0, Or.inl rfl, ?_, ⟨rfl, Or.inl ⟨rfl, rfl⟩⟩⟩, by omega, (below_new W _).trans (hbel.mono (by omega)), hc⟩
  rw [hbel.block _ (by omega)]
  simp [World.alloc, -World.alloc_eq]

set_option maxRecDepth 100000 in
set_option maxHeartbeats 1000000 in
theorem escape_walk (w : World) (s : ByteArray) (q : Bool) (h : (tans s.data.toList).2 = 0) (hsz : s.size ≤ 16384) (X : ByteArray) (hX : X = ⟨(escL q s.data.toList).toArray⟩) :
    Calls Try.prog 8 #[.string s, .bool q] w fun e w' => e = .returned (.tuple #[.string X, .int .i64 0, .int .i64 0]) ∧ Below w.heap.size w w' := by
  have ht := text_any w s
  rw [h] at ht
  generalize (tans s.data.toList).1 = p at *
  have hl := size_list s
  have HX : Hid (X = ⟨(escL q s.data.toList).toArray⟩) := hX
  clear hX h
  go_enter Try.func8, Try.ntmps8
  go_wp2_with fail
  refine ht.mono ?_
  rintro e W ⟨rfl, hb⟩
  have hs1 := hb.size
  have HB1 : Hid (Below w.heap.size w W) := hb
  obtain ⟨W2, cap, hrun, hbld, hW2, hbel, hc⟩ := start_build W s
  have HC : Hid (∃ cs fz, W2.heap[W.heap.size + 1]? = some (.cells cs 5 fz) ∧ ∀ j (hj : j < s.data.toList.length), cs[j]? = some (.int .u8 ((s.data.toList[j]).toNat : Int))) := hc
  have HBL : Hid (Bld W.heap.size (W.heap.size + 2) [] W2) := hbld
  have HB2 : Hid (Below W.heap.size W W2) := hbel
  have HW2 : Hid (W2.heap.size = W.heap.size + 2) := hW2
  clear hc hbld hbel hW2 hb ht
  generalize s.data.toList = l at *
  go_wp2
  go_loopw [25] (fun v wr => ∃ i : Nat, i ≤ s.size ∧ v = .int .i64 (i : Int) ∧ Hid (Bld W.heap.size (W.heap.size + 2) (escL q (l.take i)) wr) ∧ Hid (Keeps W.heap.size (W.heap.size + 2) W2 wr) ∧ W.heap.size + 2 ≤ wr.heap.size) (fun v _ => s.size - (intOf v).toNat)
  case atStart => exact ⟨0, by omega, rfl, HBL, Keeps.refl _ _ _, by have := HW2.out; omega⟩
  case round =>
    obtain ⟨i, hi, rfl, hbl, hkp, hws⟩ := hrel
    by_cases hlt : i < s.size
    · have hcell : wr.cell? ⟨W.heap.size + 1, i, none⟩ = some (.int .u8 ((l[i]'(by omega)).toNat : Int)) := by
        refine bytes_cell ?_ i (by omega)
        rw [hkp.out.2 (W.heap.size + 1) (by omega) (by omega)]
        exact HC.out
      have hts := take_snoc (l := l) (i := i) (by omega)
      generalize (l[i]'(by omega)) = b at hcell hts
      have hes := escaped_any wr b.toNat b.toNat_lt q
      have hel := escL_length q (l.take i)
      have htl : (l.take i).length ≤ i := by rw [List.length_take]; omega
      have hnx : escL q (l.take (i + 1)) = escL q (l.take i) ++ esc1 q b := by rw [hts, escL_snoc]
      by_cases he : escB b.toNat q = []
      · have hwb := writeByte_any W.heap.size (W.heap.size + 2) (escL q (l.take i)) b wr hbl.out hws (by omega)
        have HNX : Hid (escL q (l.take (i + 1)) = escL q (l.take i) ++ [b]) := by
          show _ = _
          rw [hnx, esc1, if_pos he]
        rw [he] at hes
        clear hnx hts he hel htl HX hbl
        go_wp2_with fail
        refine hes.mono ?_
        rintro e w3 ⟨rfl, rfl⟩
        go_wp2_with fail
        refine hwb.mono ?_
        rintro e w4 ⟨rfl, hbld4, hk4, hs4⟩
        have HB4 : Hid (Bld W.heap.size (W.heap.size + 2) (escL q (l.take (i + 1))) w4) := by
          show Bld _ _ _ _
          rw [HNX.out]
          exact hbld4
        have HK4 : Hid (Keeps W.heap.size (W.heap.size + 2) W2 w4) := hkp.out.trans hk4
        clear hbld4 hk4 hwb hes
        go_wp2
        go_roundw
        case rel => exact ⟨i + 1, by omega, by go_num, HB4, HK4, by omega⟩
        case measure => simp [intOf]; omega
      · have hS0 : (⟨(escB b.toNat q).toArray⟩ : ByteArray).toList.isEmpty = false := by
          rw [Lib.toList_data]
          simpa using he
        have hSs : (⟨(escB b.toNat q).toArray⟩ : ByteArray).size ≤ 1000000 := by
          have := escB_length b.toNat q
          have h2 := size_list (⟨(escB b.toNat q).toArray⟩ : ByteArray)
          have h3 : (⟨(escB b.toNat q).toArray⟩ : ByteArray).data.toList = escB b.toNat q := rfl
          rw [h3] at h2
          omega
        have hwb := writeString_any W.heap.size (W.heap.size + 2) (escL q (l.take i)) ⟨(escB b.toNat q).toArray⟩ wr hbl.out hws (by omega) hSs
        have HNX : Hid (escL q (l.take (i + 1)) = escL q (l.take i) ++ (⟨(escB b.toNat q).toArray⟩ : ByteArray).data.toList) := by
          show _ = _
          rw [hnx, esc1, if_neg he]
        generalize (⟨(escB b.toNat q).toArray⟩ : ByteArray) = S at *
        clear hnx hts he hel htl HX hbl
        go_wp2_with fail
        refine hes.mono ?_
        rintro e w3 ⟨rfl, rfl⟩
        go_wp2_with fail
        refine hwb.mono ?_
        rintro e w4 ⟨rfl, hbld4, hk4, hs4⟩
        have HB4 : Hid (Bld W.heap.size (W.heap.size + 2) (escL q (l.take (i + 1))) w4) := by
          show Bld _ _ _ _
          rw [HNX.out]
          exact hbld4
        have HK4 : Hid (Keeps W.heap.size (W.heap.size + 2) W2 w4) := hkp.out.trans hk4
        clear hbld4 hk4 hwb hes
        go_wp2
        go_roundw
        case rel => exact ⟨i + 1, by omega, by go_num, HB4, HK4, by omega⟩
        case measure => simp [intOf]; omega
    · have hst := bstring_any W.heap.size (W.heap.size + 2) _ wr hbl.out
      rw [List.take_of_length_le (by omega), ← HX.out] at hst
      clear HX hbl
      go_wp2_with fail
      refine hst.mono ?_
      rintro e w4 ⟨rfl, hb4⟩
      go_wp2
      go_ret3
      exact ⟨rfl, HB1.out.trans ((HB2.out.trans (hkp.out.1.trans hb4)).mono hs1)⟩

theorem escape_any (w : World) (s : ByteArray) (q : Bool) :
    Calls Try.prog 8 #[.string s, .bool q] w fun e w' => e = .returned (.tuple #[.string ⟨(eans q s.data.toList).1.toArray⟩, .int .i64 (eans q s.data.toList).2.1, .int .i64 (eans q s.data.toList).2.2]) ∧ Below w.heap.size w w' := by
  by_cases h : (tans s.data.toList).2 = 0
  · have h1 := (tans_ok h).1
    rw [size_list] at h1
    rw [eans, if_pos h]
    exact escape_walk w s q h h1 _ rfl
  · rw [eans, if_neg h]
    exact escape_bad w s q h
end Go.Proofs.Ytfccijpmgjcmiab
