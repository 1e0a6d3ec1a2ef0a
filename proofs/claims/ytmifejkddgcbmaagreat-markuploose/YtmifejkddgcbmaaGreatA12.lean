/- The program's reference and next. -/
import Derived.Test.YtmifejkddgcbmaaGreatA11
import Derived.Test.YtmifejkddgcbmaaGreatA08
import Derived.Test.YtmifejkddgcbmaaGreatA04
namespace Go.Proofs.YtmifejkddgcbmaaGreat
open Go.RowKit
set_option linter.unusedVariables false
set_option linter.unusedSimpArgs false

set_option maxRecDepth 100000 in
set_option maxHeartbeats 1000000 in
theorem reference_walk (w : World) (s : ByteArray) (hsz : s.size < 1152921504606846976) (x y z : Int) (hxyz : refP s.data.toList = (x, y, z)) :
    Calls Tryz.prog 149 #[.string s] w fun e w' => e = .returned (.tuple #[.int .i64 x, .int .i64 y, .int .i64 z]) ∧ Below w.heap.size w w' := by
  have hp1 := Tryz.strings_HasPrefix s ⟨#[38, 35, 120]⟩ w
  have hp2 := Tryz.strings_HasPrefix s ⟨#[38, 35]⟩ w
  unfold refP at hxyz
  cases hA : Lib.hasPrefix s.data.toList (⟨#[38, 35, 120]⟩ : ByteArray).data.toList
  · rw [hA] at hp1
    rw [if_neg (Bool.eq_false_iff.1 (show ([38, 35, 120] : List UInt8).isPrefixOf s.data.toList = false from hA))] at hxyz
    cases hB : Lib.hasPrefix s.data.toList (⟨#[38, 35]⟩ : ByteArray).data.toList
    · rw [hB] at hp2
      rw [if_neg (Bool.eq_false_iff.1 (show ([38, 35] : List UInt8).isPrefixOf s.data.toList = false from hB))] at hxyz
      have hnm := named_walk w s x y z hxyz
      clear hA hB hxyz
      go_enter Tryz.func149, Tryz.ntmps149
      go_wp2_with fail
      refine hp1.mono ?_
      rintro e w1 ⟨rfl, rfl⟩
      go_wp2_with fail
      refine hp2.mono ?_
      rintro e w2 ⟨rfl, rfl⟩
      go_wp2_with fail
      refine hnm.mono ?_
      rintro e w3 ⟨rfl, hb⟩
      go_wp2
      go_ret3
      exact ⟨rfl, hb⟩
    · rw [hB] at hp2
      rw [if_pos (show ([38, 35] : List UInt8).isPrefixOf s.data.toList = true from hB)] at hxyz
      have hl : 2 ≤ s.size := by
        have := isPre hB
        rw [size_list] at this
        exact this
      have hnm := numbered_walk w s 2 10 7 (by omega) hl hsz x y z hxyz
      clear hA hB hxyz
      go_enter Tryz.func149, Tryz.ntmps149
      go_wp2_with fail
      refine hp1.mono ?_
      rintro e w1 ⟨rfl, rfl⟩
      go_wp2_with fail
      refine hp2.mono ?_
      rintro e w2 ⟨rfl, rfl⟩
      go_wp2_with fail
      refine hnm.mono ?_
      rintro e w3 ⟨rfl, rfl⟩
      go_wp2
      go_ret3
      exact ⟨rfl, Below.refl _ _⟩
  · rw [hA] at hp1
    rw [if_pos (show ([38, 35, 120] : List UInt8).isPrefixOf s.data.toList = true from hA)] at hxyz
    have hl : 3 ≤ s.size := by
      have := isPre hA
      rw [size_list] at this
      exact this
    have hnm := numbered_walk w s 3 16 6 (by omega) hl hsz x y z hxyz
    clear hA hxyz hp2
    go_enter Tryz.func149, Tryz.ntmps149
    go_wp2_with fail
    refine hp1.mono ?_
    rintro e w1 ⟨rfl, rfl⟩
    go_wp2_with fail
    refine hnm.mono ?_
    rintro e w3 ⟨rfl, rfl⟩
    go_wp2
    go_ret3
    exact ⟨rfl, Below.refl _ _⟩

set_option maxRecDepth 100000 in
set_option maxHeartbeats 1000000 in
theorem next_char (w : World) (s : ByteArray) (h0 : 0 < s.size) (hc : (s[0]'h0).toNat ≠ 38) :
    Calls Tryz.prog 133 #[.string s] w fun e w' => e = .returned (.tuple #[.int .i64 (fans s.data.toList).1, .int .i64 (fans s.data.toList).2.1, .int .i64 (fans s.data.toList).2.2]) ∧ Below w.heap.size w w' := by
  have hf := first_any w s
  have hne : (((s[0]'h0).toNat : Int) != 38) = true := bne_iff_ne.2 (by omega)
  generalize fans s.data.toList = p at *
  clear hc
  go_enter Tryz.func133, Tryz.ntmps133
  go_wp2_with fail
  refine hf.mono ?_
  rintro e w1 ⟨rfl, hb⟩
  go_wp2
  go_ret3
  exact ⟨rfl, hb⟩

set_option maxRecDepth 100000 in
set_option maxHeartbeats 1000000 in
theorem next_ref (w : World) (s : ByteArray) (h0 : 0 < s.size) (hsz : s.size < 1152921504606846976) (hc : (s[0]'h0).toNat = 38) (x y z : Int) (hr : refP s.data.toList = (x, y, z)) (x' y' z' : Int) (hr' : chkC (x, y, z) = (x', y', z')) :
    Calls Tryz.prog 133 #[.string s] w fun e w' => e = .returned (.tuple #[.int .i64 x', .int .i64 y', .int .i64 z']) ∧ Below w.heap.size w w' := by
  have hrf := reference_walk w s hsz x y z hr
  have hch := fun W => char_any W x
  have hne : (((s[0]'h0).toNat : Int) != 38) = false := by rw [hc]; rfl
  clear hc hr
  by_cases hz : z = 0
  · subst hz
    cases hcb : charB x
    · rw [chkC, if_pos ⟨rfl, hcb⟩] at hr'
      simp only [Prod.mk.injEq] at hr'
      obtain ⟨e1, e2, e3⟩ := hr'
      simp only [hcb] at hch
      clear hcb
      have e1' := e1.symm
      have e2' := e2.symm
      have e3' := e3.symm
      clear e1 e2 e3
      go_enter Tryz.func133, Tryz.ntmps133
      go_wp2_with fail
      refine hrf.mono ?_
      rintro e w1 ⟨rfl, hb⟩
      go_wp2_with fail
      refine (hch w1).mono ?_
      rintro e w2 ⟨rfl, rfl⟩
      go_wp2
      go_ret3
      first | exact ⟨congrArg _ (v_three e1'.symm e2'.symm e3'.symm), hb⟩ | exact ⟨rfl, hb⟩
    · rw [chkC, if_neg (by simp [hcb])] at hr'
      simp only [Prod.mk.injEq] at hr'
      obtain ⟨rfl, rfl, rfl⟩ := hr'
      simp only [hcb] at hch
      clear hcb
      go_enter Tryz.func133, Tryz.ntmps133
      go_wp2_with fail
      refine hrf.mono ?_
      rintro e w1 ⟨rfl, hb⟩
      go_wp2_with fail
      refine (hch w1).mono ?_
      rintro e w2 ⟨rfl, rfl⟩
      go_wp2
      go_ret3
      exact ⟨rfl, hb⟩
  · rw [chkC, if_neg (by simp [hz])] at hr'
    simp only [Prod.mk.injEq] at hr'
    obtain ⟨rfl, rfl, rfl⟩ := hr'
    have hz' : (z == 0) = false := beq_eq_false_iff_ne.2 hz
    go_enter Tryz.func133, Tryz.ntmps133
    go_wp2_with fail
    refine hrf.mono ?_
    rintro e w1 ⟨rfl, hb⟩
    go_wp2
    go_ret3
    exact ⟨rfl, hb⟩

theorem next_any (w : World) (s : ByteArray) (h0 : 0 < s.size) (hsz : s.size < 1152921504606846976) :
    Calls Tryz.prog 133 #[.string s] w fun e w' => e = .returned (.tuple #[.int .i64 (nextP s.data.toList).1, .int .i64 (nextP s.data.toList).2.1, .int .i64 (nextP s.data.toList).2.2]) ∧ Below w.heap.size w w' := by
  have hd := drop_get h0
  rw [List.drop_zero] at hd
  by_cases hc : (s[0]'h0).toNat = 38
  · have e : nextP s.data.toList = chkC (refP s.data.toList) := by
      rw [hd]
      simp [nextP, hc]
    rw [e]
    exact next_ref w s h0 hsz hc _ _ _ rfl _ _ _ rfl
  · have e : nextP s.data.toList = fans s.data.toList := by
      rw [hd]
      simp [nextP, hc]
    rw [e]
    exact next_char w s h0 hc

end Go.Proofs.YtmifejkddgcbmaaGreat

/- What Escape answers, the program's and the document's. -/
namespace Go.Proofs.YtmifejkddgcbmaaGreat
open Go.RowKit
set_option linter.unusedVariables false
set_option linter.unusedSimpArgs false

/-- What stands for a byte; empty: it stands for itself. -/
def escB (c : Nat) (q : Bool) : List UInt8 :=
  if c = 38 then [38, 97, 109, 112, 59] else if c = 60 then [38, 108, 116, 59] else if c = 62 then [38, 103, 116, 59] else if c = 13 then [38, 35, 49, 51, 59]
  else if q = true ∧ c = 34 then [38, 113, 117, 111, 116, 59] else if q = true ∧ c = 9 then [38, 35, 57, 59] else if q = true ∧ c = 10 then [38, 35, 49, 48, 59] else []
def esc1 (q : Bool) (b : UInt8) : List UInt8 := if escB b.toNat q = [] then [b] else escB b.toNat q
def escL (q : Bool) (l : List UInt8) : List UInt8 := l.flatMap (esc1 q)
/-- What Escape answers. -/
def eans (q : Bool) (l : List UInt8) : List UInt8 × Int × Int := if (tans l).2 = 0 then (escL q l, 0, 0) else ([], (tans l).1, (tans l).2)

theorem escB_length (c : Nat) (q : Bool) : (escB c q).length ≤ 6 := by
  unfold escB
  split
  · simp
  · split
    · simp
    · split
      · simp
      · split
        · simp
        · split
          · simp
          · split
            · simp
            · split <;> simp
theorem esc1_length (q : Bool) (b : UInt8) : (esc1 q b).length ≤ 6 := by
  unfold esc1
  split
  · simp
  · exact escB_length _ _
theorem escL_length (q : Bool) (l : List UInt8) : (escL q l).length ≤ 6 * l.length := by
  induction l with
  | nil => simp [escL]
  | cons b t ih =>
    have h1 := esc1_length q b
    simp only [escL, List.flatMap_cons, List.length_append, List.length_cons] at ih ⊢
    omega
theorem escL_snoc (q : Bool) (a : List UInt8) (b : UInt8) : escL q (a ++ [b]) = escL q a ++ esc1 q b := by simp [escL]

set_option maxRecDepth 100000 in
set_option maxHeartbeats 2000000 in
theorem escaped_any (w : World) (c : Nat) (hc : c < 256) (q : Bool) : Calls Tryz.prog 46 #[.int .u8 (c : Int), .bool q] w fun e w' => e = .returned (.string ⟨(escB c q).toArray⟩) ∧ w' = w := by
  have h38 : ((c : Int) == 38) = decide (c = 38) := by rw [Bool.eq_iff_iff]; simp; omega
  have h60 : ((c : Int) == 60) = decide (c = 60) := by rw [Bool.eq_iff_iff]; simp; omega
  have h62 : ((c : Int) == 62) = decide (c = 62) := by rw [Bool.eq_iff_iff]; simp; omega
  have h13 : ((c : Int) == 13) = decide (c = 13) := by rw [Bool.eq_iff_iff]; simp; omega
  have h34 : ((c : Int) == 34) = decide (c = 34) := by rw [Bool.eq_iff_iff]; simp; omega
  have h9 : ((c : Int) == 9) = decide (c = 9) := by rw [Bool.eq_iff_iff]; simp; omega
  have h10 : ((c : Int) == 10) = decide (c = 10) := by rw [Bool.eq_iff_iff]; simp; omega
  generalize hS : (⟨(escB c q).toArray⟩ : ByteArray) = S
  have HS : Hid ((⟨(escB c q).toArray⟩ : ByteArray) = S) := hS
  clear hS
  cases q
  all_goals go_enter Tryz.func46, Tryz.ntmps46
  all_goals go_wp2
  all_goals go_ret
  all_goals refine ⟨congrArg _ (v_str ?_), rfl⟩
  all_goals rw [← HS.out]
  all_goals clear HS h38 h60 h62 h13 h34 h9 h10
  all_goals simp_all [escB]

end Go.Proofs.YtmifejkddgcbmaaGreat

/- Escape's walks, the program's and the document's. -/
namespace Go.Proofs.YtmifejkddgcbmaaGreat
open Go.RowKit
set_option linter.unusedVariables false
set_option linter.unusedSimpArgs false

theorem v_sii {k k' : IntKind} {a b : ByteArray} {c d e f : Int} (h : a = b) (h' : c = d) (h'' : e = f) : Value.tuple #[.string a, .int k c, .int k' e] = .tuple #[.string b, .int k d, .int k' f] := by rw [h, h', h'']

set_option maxRecDepth 100000 in
set_option maxHeartbeats 1000000 in
theorem escape_bad (w : World) (s : ByteArray) (q : Bool) (h : (tans s.data.toList).2 ≠ 0) :
    Calls Tryz.prog 32 #[.string s, .bool q] w fun e w' => e = .returned (.tuple #[.string ⟨#[]⟩, .int .i64 (tans s.data.toList).1, .int .i64 (tans s.data.toList).2]) ∧ Below w.heap.size w w' := by
  have ht := text_any w s
  have h1 : ((tans s.data.toList).2 != 0) = true := bne_iff_ne.2 h
  generalize tans s.data.toList = p at *
  go_enter Tryz.func32, Tryz.ntmps32
  go_wp2_with fail
  refine ht.mono ?_
  rintro e w' ⟨rfl, hb⟩
  go_wp2
  go_ret3
  exact ⟨rfl, hb⟩

/-- A new builder and a text's bytes behind it. -/
theorem start_build (W : World) (s : ByteArray) : ∃ W2 cap, (convert 9 41 (.string s)).run Tryz.prog (W.alloc (.cells #[.pointer none, .slice none 0 0] 59)) = .ok (.slice (some ⟨W.heap.size + 1, 0, none⟩) s.size cap) W2 ∧
    Bld W.heap.size (W.heap.size + 2) [] W2 ∧ W2.heap.size = W.heap.size + 2 ∧ Below W.heap.size W W2 ∧
    ∃ cs fz, W2.heap[W.heap.size + 1]? = some (.cells cs 5 fz) ∧ ∀ j (hj : j < s.data.toList.length), cs[j]? = some (.int .u8 ((s.data.toList[j]).toNat : Int)) := by
  obtain ⟨W2, cap, hrun, hbel, hWs, hc⟩ := conv_bytes (W.alloc (.cells #[.pointer none, .slice none 0 0] 59)) s
  have hsz : (W.alloc (.cells #[.pointer none, .slice none 0 0] 59)).heap.size = W.heap.size + 1 := by simp
  rw [hsz] at hrun hbel hWs hc
  refine ⟨W2, cap, hrun, ⟨by omega, .pointer none, .slice none 0 0, Or.inl rfl, ?_, ⟨rfl, Or.inl ⟨rfl, rfl⟩⟩⟩, by omega, (below_new W _).trans (hbel.mono (by omega)), hc⟩
  rw [hbel.block _ (by omega)]
  simp [World.alloc, -World.alloc_eq]

set_option maxRecDepth 100000 in
set_option maxHeartbeats 1000000 in
theorem escape_walk (w : World) (s : ByteArray) (q : Bool) (h : (tans s.data.toList).2 = 0) (hsz : s.size ≤ 16384) (X : ByteArray) (hX : X = ⟨(escL q s.data.toList).toArray⟩) :
    Calls Tryz.prog 32 #[.string s, .bool q] w fun e w' => e = .returned (.tuple #[.string X, .int .i64 0, .int .i64 0]) ∧ Below w.heap.size w w' := by
  have ht := text_any w s
  rw [h] at ht
  generalize (tans s.data.toList).1 = p at *
  have hl := size_list s
  have HX : Hid (X = ⟨(escL q s.data.toList).toArray⟩) := hX
  clear hX h
  go_enter Tryz.func32, Tryz.ntmps32
  go_wp2_with fail
  refine ht.mono ?_
  rintro e W ⟨rfl, hb⟩
  have hs1 := hb.size
  have HB1 : Hid (Below w.heap.size w W) := hb
  obtain ⟨W2, cap, hrun, hbld, hW2, hbel, hc⟩ := start_build W s
  have HC : Hid (∃ cs fz, W2.heap[W.heap.size + 1]? = some (.cells cs 5 fz) ∧ ∀ j (hj : j < s.data.toList.length), cs[j]? = some (.int .u8 ((s.data.toList[j]).toNat : Int))) := hc
  have HBL : Hid (Bld W.heap.size (W.heap.size + 2) [] W2) := hbld
  have HB2 : Hid (Below W.heap.size W W2) := hbel
  have HW2 : Hid (W2.heap.size = W.heap.size + 2) := hW2
  clear hc hbld hbel hW2 hb ht
  generalize s.data.toList = l at *
  go_wp2
  go_loopw [25] (fun v wr => ∃ i : Nat, i ≤ s.size ∧ v = .int .i64 (i : Int) ∧ Hid (Bld W.heap.size (W.heap.size + 2) (escL q (l.take i)) wr) ∧ Hid (Keeps W.heap.size (W.heap.size + 2) W2 wr) ∧ W.heap.size + 2 ≤ wr.heap.size) (fun v _ => s.size - (intOf v).toNat)
  case atStart => exact ⟨0, by omega, rfl, HBL, Keeps.refl _ _ _, by have := HW2.out; omega⟩
  case round =>
    obtain ⟨i, hi, rfl, hbl, hkp, hws⟩ := hrel
    by_cases hlt : i < s.size
    · have hcell : wr.cell? ⟨W.heap.size + 1, i, none⟩ = some (.int .u8 ((l[i]'(by omega)).toNat : Int)) := by
        refine bytes_cell ?_ i (by omega)
        rw [hkp.out.2 (W.heap.size + 1) (by omega) (by omega)]
        exact HC.out
      have hts := take_snoc (l := l) (i := i) (by omega)
      generalize (l[i]'(by omega)) = b at hcell hts
      have hes := escaped_any wr b.toNat b.toNat_lt q
      have hel := escL_length q (l.take i)
      have htl : (l.take i).length ≤ i := by rw [List.length_take]; omega
      have hnx : escL q (l.take (i + 1)) = escL q (l.take i) ++ esc1 q b := by rw [hts, escL_snoc]
      by_cases he : escB b.toNat q = []
      · have hwb := writeByte_any W.heap.size (W.heap.size + 2) (escL q (l.take i)) b wr hbl.out hws (by omega)
        have HNX : Hid (escL q (l.take (i + 1)) = escL q (l.take i) ++ [b]) := by
          show _ = _
          rw [hnx, esc1, if_pos he]
        rw [he] at hes
        clear hnx hts he hel htl HX hbl
        go_wp2_with fail
        refine hes.mono ?_
        rintro e w3 ⟨rfl, rfl⟩
        go_wp2_with fail
        refine hwb.mono ?_
        rintro e w4 ⟨rfl, hbld4, hk4, hs4⟩
        have HB4 : Hid (Bld W.heap.size (W.heap.size + 2) (escL q (l.take (i + 1))) w4) := by
          show Bld _ _ _ _
          rw [HNX.out]
          exact hbld4
        have HK4 : Hid (Keeps W.heap.size (W.heap.size + 2) W2 w4) := hkp.out.trans hk4
        clear hbld4 hk4 hwb hes
        go_wp2
        go_roundw
        case rel => exact ⟨i + 1, by omega, by go_num, HB4, HK4, by omega⟩
        case measure => simp [intOf]; omega
      · have hS0 : (⟨(escB b.toNat q).toArray⟩ : ByteArray).toList.isEmpty = false := by
          rw [Lib.toList_data]
          simpa using he
        have hSs : (⟨(escB b.toNat q).toArray⟩ : ByteArray).size ≤ 1000000 := by
          have := escB_length b.toNat q
          have h2 := size_list (⟨(escB b.toNat q).toArray⟩ : ByteArray)
          have h3 : (⟨(escB b.toNat q).toArray⟩ : ByteArray).data.toList = escB b.toNat q := rfl
          rw [h3] at h2
          omega
        have hwb := writeString_any W.heap.size (W.heap.size + 2) (escL q (l.take i)) ⟨(escB b.toNat q).toArray⟩ wr hbl.out hws (by omega) hSs
        have HNX : Hid (escL q (l.take (i + 1)) = escL q (l.take i) ++ (⟨(escB b.toNat q).toArray⟩ : ByteArray).data.toList) := by
          show _ = _
          rw [hnx, esc1, if_neg he]
        generalize (⟨(escB b.toNat q).toArray⟩ : ByteArray) = S at *
        clear hnx hts he hel htl HX hbl
        go_wp2_with fail
        refine hes.mono ?_
        rintro e w3 ⟨rfl, rfl⟩
        go_wp2_with fail
        refine hwb.mono ?_
        rintro e w4 ⟨rfl, hbld4, hk4, hs4⟩
        have HB4 : Hid (Bld W.heap.size (W.heap.size + 2) (escL q (l.take (i + 1))) w4) := by
          show Bld _ _ _ _
          rw [HNX.out]
          exact hbld4
        have HK4 : Hid (Keeps W.heap.size (W.heap.size + 2) W2 w4) := hkp.out.trans hk4
        clear hbld4 hk4 hwb hes
        go_wp2
        go_roundw
        case rel => exact ⟨i + 1, by omega, by go_num, HB4, HK4, by omega⟩
        case measure => simp [intOf]; omega
    · have hst := bstring_any W.heap.size (W.heap.size + 2) _ wr hbl.out
      rw [List.take_of_length_le (by omega), ← HX.out] at hst
      clear HX hbl
      go_wp2_with fail
      refine hst.mono ?_
      rintro e w4 ⟨rfl, hb4⟩
      go_wp2
      go_ret3
      exact ⟨rfl, HB1.out.trans ((HB2.out.trans (hkp.out.1.trans hb4)).mono hs1)⟩

theorem escape_any (w : World) (s : ByteArray) (q : Bool) :
    Calls Tryz.prog 32 #[.string s, .bool q] w fun e w' => e = .returned (.tuple #[.string ⟨(eans q s.data.toList).1.toArray⟩, .int .i64 (eans q s.data.toList).2.1, .int .i64 (eans q s.data.toList).2.2]) ∧ Below w.heap.size w w' := by
  by_cases h : (tans s.data.toList).2 = 0
  · have h1 := (tans_ok h).1
    rw [size_list] at h1
    rw [eans, if_pos h]
    exact escape_walk w s q h h1 _ rfl
  · rw [eans, if_neg h]
    exact escape_bad w s q h
end Go.Proofs.YtmifejkddgcbmaaGreat

/- The program's Unescape. -/
namespace Go.Proofs.YtmifejkddgcbmaaGreat
open Go.RowKit
set_option linter.unusedVariables false
set_option linter.unusedSimpArgs false

theorem rune_cells {r : Nat} (h : Ch r) : Lib.runeCells (r : Int) = Lib.byteCells (enc r) := by rw [← Lib.byteCells_encodeRune, enc_rune h]

/-- One step of the reading. -/
theorem unF_step {k pos : Nat} {l acc : List UInt8} {R n : Nat} (hl : l ≠ []) (h : nextP l = ((R : Int), (n : Int), 0)) :
    unF (k + 1) l acc pos = if 16384 < acc.length + size R then ([], (pos : Int), 2) else unF k (l.drop n) (acc ++ enc R) (pos + n) := by
  rw [unF, if_neg hl, if_neg (by rw [h]; simp), h]
  simp only [Int.toNat_natCast]
theorem unF_bad {k pos : Nat} {l acc : List UInt8} (hl : l ≠ []) (h : (nextP l).2.2 ≠ 0) : unF (k + 1) l acc pos = ([], (pos : Int), (nextP l).2.2) := by
  rw [unF, if_neg hl, if_pos h]
theorem unF_end (k pos : Nat) (acc : List UInt8) : unF k [] acc pos = (acc, 0, 0) := by
  cases k with
  | zero => rfl
  | succ k => rw [unF, if_pos rfl]

set_option maxRecDepth 100000 in
set_option maxHeartbeats 2000000 in
theorem unescape_walk (w : World) (s : ByteArray) (hsz : s.size < 1152921504606846976) (X : ByteArray) (x y : Int) (hX : X = ⟨(uans s.data.toList).1.toArray⟩) (hx : (uans s.data.toList).2.1 = x) (hy : (uans s.data.toList).2.2 = y) :
    Calls Tryz.prog 121 #[.string s] w fun e w' => e = .returned (.tuple #[.string X, .int .i64 x, .int .i64 y]) ∧ Below w.heap.size w w' := by
  have hl := size_list s
  have HA : Hid (X = ⟨(uans s.data.toList).1.toArray⟩ ∧ (uans s.data.toList).2.1 = x ∧ (uans s.data.toList).2.2 = y) := ⟨hX, hx, hy⟩
  clear hX hx hy
  go_enter Tryz.func121, Tryz.ntmps121
  go_wp2
  go_loopw [5, 6] (fun v5 v6 wr => ∃ (k pos : Nat) (acc : List UInt8), v6 = .int .i64 (pos : Int) ∧ pos ≤ s.size ∧ acc.length ≤ 16384 ∧ wr.ownsRow w.heap.size 5 1 v5 acc.length (Lib.byteCells acc) ∧ Hid (Below w.heap.size w wr) ∧ Hid (unF k (s.data.toList.drop pos) acc pos = uans s.data.toList) ∧ Hid (s.size - pos ≤ k)) (fun _ v6 _ => s.size - (intOf v6).toNat)
  case atStart => exact ⟨s.data.toList.length, 0, [], rfl, by omega, by simp, ⟨rfl, Or.inl ⟨rfl, rfl⟩⟩, Below.refl _ _, rfl, by show _ ≤ _; omega⟩
  case round =>
    obtain ⟨k, pos, acc, rfl, hpos, hacc, hown, hbw, hun, hk⟩ := hrel
    have hws := hbw.out.size
    obtain ⟨ba, bcap, rfl⟩ := owns_slice hown
    by_cases hlt : pos < s.size
    · have hex : (s.extract pos s.size).data.toList = s.data.toList.drop pos := by
        rw [Lib.extract_data, List.take_of_length_le]
        rw [List.length_drop, hl]
        exact Nat.le_refl _
      have hexs : (s.extract pos s.size).size = s.size - pos := by rw [← size_list, hex, List.length_drop, hl]
      have hnx := next_any wr (s.extract pos s.size) (by omega) (by omega)
      rw [hex] at hnx
      have hne : s.data.toList.drop pos ≠ [] := by
        intro h
        have := congrArg List.length h
        rw [List.length_drop, hl] at this
        simp at this
        omega
      obtain ⟨k', rfl⟩ : ∃ k', k = k' + 1 := ⟨k - 1, by have := hk.out; omega⟩
      have HOW : Hid (wr.ownsRow w.heap.size 5 1 (.slice ba acc.length bcap) acc.length (Lib.byteCells acc)) := hown
      by_cases hz : (nextP (s.data.toList.drop pos)).2.2 = 0
      · obtain ⟨R, n, hp, hch, hn1, hn2⟩ := nextP_ok hz
        rw [List.length_drop, hl] at hn2
        have hu := hun.out
        rw [unF_step hne hp] at hu
        have hR : R ≤ 1114111 := by unfold Ch at hch; omega
        rw [hp] at hnx
        have hsz2 := fun W => size_any W R
        have hsp := size_pos R
        have HRC : Hid (Lib.runeCells (R : Int) = Lib.byteCells (enc R)) := rune_cells hch
        have HEL : Hid ((enc R).length = size R) := enc_length R
        generalize hzz : size R = sz at *
        by_cases hlong : 16384 < acc.length + sz
        · rw [if_pos hlong] at hu
          obtain ⟨a1, a2, a3⟩ := HA.out
          rw [← hu] at a1 a2 a3
          have a2' := a2.symm
          have a3' := a3.symm
          clear hown hun hu hne hp hz HA hk a2 a3 hch
          go_wp2_with fail
          refine hnx.mono ?_
          rintro e w2 ⟨rfl, hb2⟩
          go_wp2_with fail
          refine (hsz2 w2).mono ?_
          rintro e w3 ⟨rfl, rfl⟩
          go_wp2
          go_ret3
          first | exact ⟨congrArg _ (v_sii a1.symm a2'.symm a3'.symm), hbw.out.trans (hb2.mono hws)⟩ | exact ⟨rfl, hbw.out.trans (hb2.mono hws)⟩
        · rw [if_neg hlong] at hu
          have hacc2 : acc.length + sz ≤ 16384 := by omega
          have HU : Hid (unF k' (s.data.toList.drop (pos + n)) (acc ++ enc R) (pos + n) = uans s.data.toList) := by
            show _ = _
            rw [← hu, List.drop_drop]
          have HK : Hid (s.size - (pos + n) ≤ k') := by
            have := hk.out
            show _ ≤ _
            omega
          clear hown hun hu hne hp hz HA hk hlong hch
          go_wp2_with fail
          refine hnx.mono ?_
          rintro e w2 ⟨rfl, hb2⟩
          have hs2 := hb2.size
          have HO2 := owns_below HOW.out hb2
          have HB2 : Hid (Below w.heap.size w w2) := hbw.out.trans (hb2.mono hws)
          have hap := Tryz.utf8_AppendRune_plain w.heap.size _ acc.length (Lib.byteCells acc) (R : Int) (by omega) (by omega) w2 HO2 (by omega) (by omega)
          clear hb2
          go_wp2_with fail
          refine (hsz2 w2).mono ?_
          rintro e w3 ⟨rfl, rfl⟩
          go_wp2_with fail
          refine hap.mono ?_
          rintro e w4 ⟨v', rfl, hown4, o, hg4⟩
          rw [HRC.out, ← Lib.byteCells_append, Lib.byteCells_length, ← List.length_append] at hown4
          have HO4 : Hid (w4.ownsRow w.heap.size 5 1 v' (acc ++ enc R).length (Lib.byteCells (acc ++ enc R))) := hown4
          have HB4 : Hid (Below w.heap.size w w4) := (HB2.out.alloc (by omega) o).grown hg4 (by simp; omega) (fun j hj => (HO2.lt j hj).1)
          clear hown4 hg4 hap
          go_wp2
          go_roundw
          case rel => exact ⟨k', pos + n, acc ++ enc R, by go_num, by omega, by rw [List.length_append, HEL.out]; omega, HO4.out, HB4, HU, HK⟩
          case measure => simp [intOf]; omega
      · have hu := hun.out
        rw [unF_bad hne hz] at hu
        obtain ⟨a1, a2, a3⟩ := HA.out
        rw [← hu] at a1 a2 a3
        have a2' := a2.symm
        have a3' := a3.symm
        have hz1 : ((nextP (s.data.toList.drop pos)).2.2 == 0) = false := beq_eq_false_iff_ne.2 hz
        have hz2 : ((nextP (s.data.toList.drop pos)).2.2 != 0) = true := bne_iff_ne.2 hz
        generalize nextP (s.data.toList.drop pos) = p at *
        clear hown hun hu hne hz HA hk a2 a3
        go_wp2_with fail
        refine hnx.mono ?_
        rintro e w2 ⟨rfl, hb2⟩
        go_wp2
        go_ret3
        first | exact ⟨congrArg _ (v_sii a1.symm a2'.symm a3'.symm), hbw.out.trans (hb2.mono hws)⟩ | exact ⟨rfl, hbw.out.trans (hb2.mono hws)⟩
    · have hu := hun.out
      rw [List.drop_of_length_le (by omega), unF_end] at hu
      obtain ⟨a1, a2, a3⟩ := HA.out
      rw [← hu] at a1 a2 a3
      have hconv := conv_own hown
      have a2' := a2.symm
      have a3' := a3.symm
      rw [← a1] at hconv
      clear hown hun hu HA hk a2 a3 a1
      go_wp2
      go_ret3
      first | exact ⟨congrArg _ (v_sii rfl a2'.symm a3'.symm), hbw.out⟩ | exact ⟨rfl, hbw.out⟩

theorem unescape_any (w : World) (s : ByteArray) (hsz : s.size < 1152921504606846976) :
    Calls Tryz.prog 121 #[.string s] w fun e w' => e = .returned (.tuple #[.string ⟨(uans s.data.toList).1.toArray⟩, .int .i64 (uans s.data.toList).2.1, .int .i64 (uans s.data.toList).2.2]) ∧ Below w.heap.size w w' :=
  unescape_walk w s hsz _ _ _ rfl rfl rfl

end Go.Proofs.YtmifejkddgcbmaaGreat
