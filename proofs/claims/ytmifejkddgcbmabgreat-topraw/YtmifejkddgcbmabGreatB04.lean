/- The document's Ref. -/
import Derived.Test.YtmifejkddgcbmabGreatB03
import Derived.Test.YtmifejkddgcbmabGreatA08
import Derived.Test.YtmifejkddgcbmabGreatA26
namespace Go.Proofs.YtmifejkddgcbmabGreat
open Go.RowKit
set_option linter.unusedVariables false
set_option linter.unusedSimpArgs false

theorem namR_none {l : List UInt8} : ∀ ns : List (List UInt8 × Nat), (∀ p ∈ ns, p.1.isPrefixOf l = false) → namR ns l = (0, 0) := by
  intro ns
  induction ns with
  | nil => intro _; rfl
  | cons p ns ih =>
    obtain ⟨x, r⟩ := p
    intro h
    have h1 := h (x, r) (by simp)
    rw [namR, if_neg (Bool.eq_false_iff.1 h1)]
    exact ih (fun p hp => h p (by simp [hp]))

theorem named_eq (l : List UInt8) : ∀ ns : List (List UInt8 × Nat), ns.Pairwise (fun p q => ¬ q.1 <+: p.1) → (∀ p ∈ ns, 1 ≤ p.1.length) →
    namedF ns l = if 0 < (namR ns l).2 then ((namR ns l).1, (namR ns l).2, 0) else if begR ns l = true then (0, 0, 4) else (0, 0, 20) := by
  intro ns
  induction ns with
  | nil => intro _ _; rfl
  | cons p ns ih =>
    obtain ⟨x, r⟩ := p
    intro hp hpos
    rw [List.pairwise_cons] at hp
    have hx : 1 ≤ x.length := hpos (x, r) (by simp)
    rw [namedF, namR, begR]
    by_cases hP : x.isPrefixOf l = true
    · rw [if_pos hP, if_pos hP, if_pos (by simp; omega)]
    · rw [if_neg hP, if_neg hP]
      by_cases hQ : l.isPrefixOf x = true
      · have hn : namR ns l = (0, 0) := by
          apply namR_none
          intro q hq
          rw [Bool.eq_false_iff]
          intro h
          exact hp.1 q hq ((List.isPrefixOf_iff_prefix.1 h).trans (List.isPrefixOf_iff_prefix.1 hQ))
        have hlt : l.length < x.length := by
          have h1 := List.isPrefixOf_iff_prefix.1 hQ
          rcases Nat.lt_or_ge l.length x.length with h2 | h2
          · exact h2
          · have h3 : l = x := h1.eq_of_length_le h2
            exfalso
            apply hP
            rw [h3]
            exact List.isPrefixOf_iff_prefix.2 (List.prefix_refl x)
        rw [if_pos hQ, hn]
        simp [hlt, hQ]
      · have hnq : ¬ (l.length < x.length ∧ l.isPrefixOf x = true) := fun h => hQ h.2
        rw [if_neg hQ]
        simp only [hnq, if_false]
        exact ih hp.2 (fun p hp' => hpos p (by simp [hp']))

theorem named_nms (l : List UInt8) : namedF nms l = if 0 < (namR nms l).2 then ((namR nms l).1, (namR nms l).2, 0) else if begR nms l = true then (0, 0, 4) else (0, 0, 20) :=
  named_eq l nms (by decide) (by decide)

theorem namR_mem (l : List UInt8) : ∀ ns : List (List UInt8 × Nat), (0 < (namR ns l).2 → ∃ p ∈ ns, (namR ns l).1 = (p.2 : Int)) ∧ 0 ≤ (namR ns l).2 ∧ ((namR ns l).2 = 0 → namR ns l = (0, 0) ∨ ∃ p ∈ ns, p.1 = []) := by
  intro ns
  induction ns with
  | nil => exact ⟨fun h => by simp [namR] at h, by simp [namR], fun _ => Or.inl rfl⟩
  | cons p ns ih =>
    obtain ⟨x, r⟩ := p
    rw [namR]
    split
    · refine ⟨fun _ => ⟨(x, r), by simp, rfl⟩, by simp, fun h => Or.inr ⟨(x, r), by simp, ?_⟩⟩
      simp at h
      exact h
    · refine ⟨fun h => ?_, ih.2.1, fun h => ?_⟩
      · obtain ⟨p, hp, he⟩ := ih.1 h
        exact ⟨p, by simp [hp], he⟩
      · rcases ih.2.2 h with h1 | ⟨p, hp, he⟩
        · exact Or.inl h1
        · exact Or.inr ⟨p, by simp [hp], he⟩

theorem chk_named (l : List UInt8) : chkC (namedF nms l) = namedF nms l := by
  rw [named_nms]
  by_cases h : 0 < (namR nms l).2
  · rw [if_pos h]
    obtain ⟨p, hp, he⟩ := (namR_mem l nms).1 h
    have hc : ∀ p ∈ nms, charB ((p.2 : Nat) : Int) = true := by decide
    rw [chkC, if_neg]
    rintro ⟨_, h2⟩
    simp only [he, hc p hp] at h2
    simp at h2
  · rw [if_neg h]
    split <;> rfl

set_option maxRecDepth 100000 in
set_option maxHeartbeats 1000000 in
theorem rref_named (w : World) (s : ByteArray) (hc : s.size < 2 ∨ ∃ h : 1 < s.size, (s[1]'h).toNat ≠ 35) (x y z : Int) (hr : namedF nms s.data.toList = (x, y, z)) :
    Calls Tryz.prog 127 #[.string s] w fun e w' => e = .returned (.tuple #[.int .i64 x, .int .i64 y, .int .i64 z]) ∧ Below w.heap.size w w' := by
  have hnm := rnamed_walk w s (namR nms s.data.toList).1 (namR nms s.data.toList).2 rfl
  have hbg := fun W => rbegins_walk W s (begR nms s.data.toList) rfl
  have hge := (namR_mem s.data.toList nms).2
  rw [named_nms] at hr
  generalize hN : namR nms s.data.toList = N at *
  generalize begR nms s.data.toList = B at *
  obtain ⟨n1, n2⟩ := N
  have hz : n2 = 0 → n1 = 0 := by
    intro h
    rcases hge.2 h with h1 | ⟨p, hp, he⟩
    · simp only [Prod.mk.injEq] at h1
      exact h1.1
    · exact absurd he (by revert p; decide)
  have hz2 := hge.1
  simp only at hnm hr hz2
  have HR : Hid ((x, y, z) = if 0 < n2 then (n1, n2, 0) else if B = true then (0, 0, 4) else (0, 0, 20)) := hr.symm
  clear hr hge hN
  have main : ∀ (hq : Hid (s.size < 2 ∨ ∃ h : 1 < s.size, (s[1]'h).toNat ≠ 35)), True := fun _ => trivial
  by_cases hp : 0 < n2
  · have h1 := HR.out
    rw [if_pos hp] at h1
    simp only [Prod.mk.injEq] at h1
    obtain ⟨e1, e2, e3⟩ := h1
    rcases hc with hc | ⟨h1, hc⟩
    · clear HR hz main hbg
      go_enter Tryz.func127, Tryz.ntmps127
      go_wp2_with fail
      refine hnm.mono ?_
      rintro e w1 ⟨rfl, hb⟩
      go_wp2
      go_ret3
      first | exact ⟨congrArg _ (v_three e1.symm e2.symm e3.symm), hb⟩ | exact ⟨rfl, hb⟩
    · have hc' : (((s[1]'h1).toNat : Int) == 35) = false := beq_eq_false_iff_ne.2 (by omega)
      clear HR hz main hbg hc
      go_enter Tryz.func127, Tryz.ntmps127
      go_wp2_with fail
      refine hnm.mono ?_
      rintro e w1 ⟨rfl, hb⟩
      go_wp2
      go_ret3
      first | exact ⟨congrArg _ (v_three e1.symm e2.symm e3.symm), hb⟩ | exact ⟨rfl, hb⟩
  · have h1 := HR.out
    rw [if_neg hp] at h1
    have hn2 : n2 = 0 := by omega
    have hn1 := hz hn2
    subst hn2 hn1
    cases B
    · simp only [Bool.false_eq_true, if_false, Prod.mk.injEq] at h1
      obtain ⟨e1, e2, e3⟩ := h1
      rcases hc with hc | ⟨h1, hc⟩
      · clear HR hz main hp
        go_enter Tryz.func127, Tryz.ntmps127
        go_wp2_with fail
        refine hnm.mono ?_
        rintro e w1 ⟨rfl, hb⟩
        go_wp2_with fail
        refine (hbg w1).mono ?_
        rintro e w2 ⟨rfl, hb2⟩
        go_wp2
        go_ret3
        first | exact ⟨congrArg _ (v_three e1.symm e2.symm e3.symm), hb.trans (hb2.mono hb.size)⟩ | exact ⟨rfl, hb.trans (hb2.mono hb.size)⟩
      · have hc' : (((s[1]'h1).toNat : Int) == 35) = false := beq_eq_false_iff_ne.2 (by omega)
        clear HR hz main hp hc
        go_enter Tryz.func127, Tryz.ntmps127
        go_wp2_with fail
        refine hnm.mono ?_
        rintro e w1 ⟨rfl, hb⟩
        go_wp2_with fail
        refine (hbg w1).mono ?_
        rintro e w2 ⟨rfl, hb2⟩
        go_wp2
        go_ret3
        first | exact ⟨congrArg _ (v_three e1.symm e2.symm e3.symm), hb.trans (hb2.mono hb.size)⟩ | exact ⟨rfl, hb.trans (hb2.mono hb.size)⟩
    · simp only [if_true, Prod.mk.injEq] at h1
      obtain ⟨e1, e2, e3⟩ := h1
      rcases hc with hc | ⟨h1, hc⟩
      · clear HR hz main hp
        go_enter Tryz.func127, Tryz.ntmps127
        go_wp2_with fail
        refine hnm.mono ?_
        rintro e w1 ⟨rfl, hb⟩
        go_wp2_with fail
        refine (hbg w1).mono ?_
        rintro e w2 ⟨rfl, hb2⟩
        go_wp2
        go_ret3
        first | exact ⟨congrArg _ (v_three e1.symm e2.symm e3.symm), hb.trans (hb2.mono hb.size)⟩ | exact ⟨rfl, hb.trans (hb2.mono hb.size)⟩
      · have hc' : (((s[1]'h1).toNat : Int) == 35) = false := beq_eq_false_iff_ne.2 (by omega)
        clear HR hz main hp hc
        go_enter Tryz.func127, Tryz.ntmps127
        go_wp2_with fail
        refine hnm.mono ?_
        rintro e w1 ⟨rfl, hb⟩
        go_wp2_with fail
        refine (hbg w1).mono ?_
        rintro e w2 ⟨rfl, hb2⟩
        go_wp2
        go_ret3
        first | exact ⟨congrArg _ (v_three e1.symm e2.symm e3.symm), hb.trans (hb2.mono hb.size)⟩ | exact ⟨rfl, hb.trans (hb2.mono hb.size)⟩

set_option maxRecDepth 100000 in
set_option maxHeartbeats 1000000 in
theorem rref_number (w : World) (s : ByteArray) (h1 : 1 < s.size) (hc : (s[1]'h1).toNat = 35) (x y z : Int)
    (hnm : Calls Tryz.prog 142 #[.string s] w fun e w' => e = .returned (.tuple #[.int .i64 x, .int .i64 y, .int .i64 z]) ∧ w' = w) :
    Calls Tryz.prog 127 #[.string s] w fun e w' => e = .returned (.tuple #[.int .i64 x, .int .i64 y, .int .i64 z]) ∧ w' = w := by
  have hc' : (((s[1]'h1).toNat : Int) == 35) = true := by rw [hc]; rfl
  clear hc
  go_enter Tryz.func127, Tryz.ntmps127
  go_wp2_with fail
  refine hnm.mono ?_
  rintro e w1 ⟨rfl, rfl⟩
  go_wp2
  go_ret3
  exact ⟨rfl, rfl⟩

theorem u8_nat {b : UInt8} {n : Nat} (h : b.toNat = n) (hn : n < 256) : b = n.toUInt8 := u8eq h

theorem rref_any (w : World) (s : ByteArray) (h0 : 0 < s.size) (hsz : s.size < 1152921504606846976) (hc0 : (s[0]'h0).toNat = 38) :
    Calls Tryz.prog 127 #[.string s] w fun e w' => e = .returned (.tuple #[.int .i64 (chkC (refP s.data.toList)).1, .int .i64 (chkC (refP s.data.toList)).2.1, .int .i64 (chkC (refP s.data.toList)).2.2]) ∧ Below w.heap.size w w' := by
  have hd0 := drop_get h0
  rw [List.drop_zero] at hd0
  have e0 : s[0]'h0 = 38 := u8eq hc0
  by_cases h1 : 1 < s.size
  · have hd1 := drop_get h1
    by_cases hc1 : (s[1]'h1).toNat = 35
    · have e1 : s[1]'h1 = 35 := u8eq hc1
      by_cases h2 : 2 < s.size
      · have hd2 := drop_get h2
        by_cases hc2 : (s[2]'h2).toNat = 120
        · have e2 : s[2]'h2 = 120 := u8eq hc2
          have hr : refP s.data.toList = num 16 6 3 0 0 (s.data.toList.drop 3) := by
            have hp : ([38, 35, 120] : List UInt8).isPrefixOf s.data.toList = true := by
              rw [hd0, e0, hd1, e1, hd2, e2]
              simp [List.isPrefixOf]
            rw [refP, if_pos hp]
          rw [hr]
          refine (rref_number w s h1 hc1 _ _ _ (rnumber_hex w s h2 hc2 hsz _ rfl _ _ _ rfl)).mono ?_
          rintro e w' ⟨rfl, rfl⟩
          exact ⟨rfl, Below.refl _ _⟩
        · have hr : refP s.data.toList = num 10 7 2 0 0 (s.data.toList.drop 2) := by
            have hp : ([38, 35, 120] : List UInt8).isPrefixOf s.data.toList = false := by
              rw [hd0, e0, hd1, e1, hd2]
              have hne : ¬ (120 : UInt8) = s[2]'h2 := by
                intro h
                apply hc2
                rw [← h]
                rfl
              simp [List.isPrefixOf, hne]
            have hp2 : ([38, 35] : List UInt8).isPrefixOf s.data.toList = true := by
              rw [hd0, e0, hd1, e1]
              simp [List.isPrefixOf]
            rw [refP, if_neg (Bool.eq_false_iff.1 hp), if_pos hp2]
          rw [hr]
          refine (rref_number w s h1 hc1 _ _ _ (rnumber_decLong w s h2 hc2 hsz _ rfl _ _ _ rfl)).mono ?_
          rintro e w' ⟨rfl, rfl⟩
          exact ⟨rfl, Below.refl _ _⟩
      · have hs2 : s.size = 2 := by omega
        have hr : refP s.data.toList = num 10 7 2 0 0 (s.data.toList.drop 2) := by
          have hp : ([38, 35, 120] : List UInt8).isPrefixOf s.data.toList = false := by
            rw [Bool.eq_false_iff]
            intro h
            have := isPre h
            rw [size_list] at this
            simp at this
            omega
          have hp2 : ([38, 35] : List UInt8).isPrefixOf s.data.toList = true := by
            rw [hd0, e0, hd1, e1]
            simp [List.isPrefixOf]
          rw [refP, if_neg (Bool.eq_false_iff.1 hp), if_pos hp2]
        rw [hr]
        refine (rref_number w s h1 hc1 _ _ _ (rnumber_decShort w s hs2 hsz _ rfl _ _ _ rfl)).mono ?_
        rintro e w' ⟨rfl, rfl⟩
        exact ⟨rfl, Below.refl _ _⟩
    · have hne : ¬ (35 : UInt8) = s[1]'h1 := by
        intro h
        apply hc1
        rw [← h]
        rfl
      have hr : refP s.data.toList = namedF nms s.data.toList := by
        have hp : ([38, 35, 120] : List UInt8).isPrefixOf s.data.toList = false := by
          rw [hd0, e0, hd1]
          simp [List.isPrefixOf, hne]
        have hp2 : ([38, 35] : List UInt8).isPrefixOf s.data.toList = false := by
          rw [hd0, e0, hd1]
          simp [List.isPrefixOf, hne]
        rw [refP, if_neg (Bool.eq_false_iff.1 hp), if_neg (Bool.eq_false_iff.1 hp2)]
      rw [hr, chk_named]
      exact rref_named w s (Or.inr ⟨h1, hc1⟩) _ _ _ rfl
  · have hr : refP s.data.toList = namedF nms s.data.toList := by
      have hp : ([38, 35, 120] : List UInt8).isPrefixOf s.data.toList = false := by
        rw [Bool.eq_false_iff]
        intro h
        have := isPre h
        rw [size_list] at this
        simp at this
        omega
      have hp2 : ([38, 35] : List UInt8).isPrefixOf s.data.toList = false := by
        rw [Bool.eq_false_iff]
        intro h
        have := isPre h
        rw [size_list] at this
        simp at this
        omega
      rw [refP, if_neg (Bool.eq_false_iff.1 hp), if_neg (Bool.eq_false_iff.1 hp2)]
    rw [hr, chk_named]
    exact rref_named w s (Or.inl (by omega)) _ _ _ rfl

end Go.Proofs.YtmifejkddgcbmabGreat

/- The document's Next and Unescape; CharsUnescapes' walk. -/
namespace Go.Proofs.YtmifejkddgcbmabGreat
open Go.RowKit
set_option linter.unusedVariables false
set_option linter.unusedSimpArgs false

/-- What Next answers: the bytes, how many bytes it has there, what is wrong. -/
def nbytes (l : List UInt8) : ByteArray := if (nextP l).2.2 = 0 then ⟨(enc (nextP l).1.toNat).toArray⟩ else ⟨#[]⟩
def nlen (l : List UInt8) : Int := if (nextP l).2.2 = 0 then (nextP l).2.1 else 0

theorem str_of {s : ByteArray} {l : List UInt8} (h : s.data.toList = l) : s = ⟨l.toArray⟩ := by
  subst h
  rfl
theorem ext_end (s : ByteArray) (pos : Nat) (h : pos ≤ s.size) : (s.extract pos s.size).data.toList = s.data.toList.drop pos ∧ (s.extract pos s.size).size = s.size - pos := by
  have hl := size_list s
  have hex : (s.extract pos s.size).data.toList = s.data.toList.drop pos := by
    rw [Lib.extract_data, List.take_of_length_le]
    rw [List.length_drop, hl]
    exact Nat.le_refl _
  exact ⟨hex, by rw [← size_list, hex, List.length_drop, hl]⟩

set_option maxRecDepth 100000 in
set_option maxHeartbeats 1000000 in
theorem rnext_amp_bad (w : World) (s : ByteArray) (pos : Nat) (h : pos < s.size) (hsz : s.size < 1152921504606846976) (hc : (s[pos]'h).toNat = 38) (x y z : Int) (hz : z ≠ 0)
    (hr : Calls Tryz.prog 127 #[.string (s.extract pos s.size)] w fun e w' => e = .returned (.tuple #[.int .i64 x, .int .i64 y, .int .i64 z]) ∧ Below w.heap.size w w') :
    Calls Tryz.prog 105 #[.string s, .int .i64 (pos : Int)] w fun e w' => e = .returned (.tuple #[.string ⟨#[]⟩, .int .i64 0, .int .i64 z]) ∧ Below w.heap.size w w' := by
  have hc' : (((s[pos]'h).toNat : Int) == 38) = true := by rw [hc]; rfl
  have hz' : (z != 0) = true := bne_iff_ne.2 hz
  clear hc
  go_enter Tryz.func105, Tryz.ntmps105
  go_wp2_with fail
  refine hr.mono ?_
  rintro e w1 ⟨rfl, hb⟩
  go_wp2
  go_ret3
  exact ⟨rfl, hb⟩

set_option maxRecDepth 100000 in
set_option maxHeartbeats 1000000 in
theorem rnext_amp_ok (w : World) (s : ByteArray) (pos : Nat) (h : pos < s.size) (hsz : s.size < 1152921504606846976) (hc : (s[pos]'h).toNat = 38) (x y : Int) (X : ByteArray)
    (hr : Calls Tryz.prog 127 #[.string (s.extract pos s.size)] w fun e w' => e = .returned (.tuple #[.int .i64 x, .int .i64 y, .int .i64 0]) ∧ Below w.heap.size w w')
    (hb : ∀ W, Calls Tryz.prog 126 #[.int .i64 x] W fun e w' => e = .returned (.string X) ∧ Below W.heap.size W w') :
    Calls Tryz.prog 105 #[.string s, .int .i64 (pos : Int)] w fun e w' => e = .returned (.tuple #[.string X, .int .i64 y, .int .i64 0]) ∧ Below w.heap.size w w' := by
  have hc' : (((s[pos]'h).toNat : Int) == 38) = true := by rw [hc]; rfl
  clear hc
  go_enter Tryz.func105, Tryz.ntmps105
  go_wp2_with fail
  refine hr.mono ?_
  rintro e w1 ⟨rfl, hb1⟩
  go_wp2_with fail
  refine (hb w1).mono ?_
  rintro e w2 ⟨rfl, hb2⟩
  go_wp2
  go_ret3
  exact ⟨rfl, hb1.trans (hb2.mono hb1.size)⟩

set_option maxRecDepth 100000 in
set_option maxHeartbeats 1000000 in
theorem rnext_bad (w : World) (s : ByteArray) (pos : Nat) (h : pos < s.size) (hsz : s.size < 1152921504606846976) (hc : (s[pos]'h).toNat ≠ 38)
    (hr : Calls Tryz.prog 103 #[.string s, .int .i64 (pos : Int)] w fun e w' => e = .returned (.tuple #[.int .i64 0, .int .i64 0]) ∧ Below w.heap.size w w') :
    Calls Tryz.prog 105 #[.string s, .int .i64 (pos : Int)] w fun e w' => e = .returned (.tuple #[.string ⟨#[]⟩, .int .i64 0, .int .i64 7]) ∧ Below w.heap.size w w' := by
  have hc' : (((s[pos]'h).toNat : Int) == 38) = false := beq_eq_false_iff_ne.2 (by omega)
  clear hc
  go_enter Tryz.func105, Tryz.ntmps105
  go_wp2_with fail
  refine hr.mono ?_
  rintro e w1 ⟨rfl, hb⟩
  go_wp2
  go_ret3
  exact ⟨rfl, hb⟩

set_option maxRecDepth 100000 in
set_option maxHeartbeats 1000000 in
theorem rnext_ok (w : World) (s : ByteArray) (pos : Nat) (h : pos < s.size) (hsz : s.size < 1152921504606846976) (hc : (s[pos]'h).toNat ≠ 38) (r n : Nat) (hn : 1 ≤ n) (hn2 : pos + n ≤ s.size) (X : ByteArray) (hX : s.extract pos (pos + n) = X)
    (hr : Calls Tryz.prog 103 #[.string s, .int .i64 (pos : Int)] w fun e w' => e = .returned (.tuple #[.int .i64 (r : Int), .int .i64 (n : Int)]) ∧ Below w.heap.size w w') :
    Calls Tryz.prog 105 #[.string s, .int .i64 (pos : Int)] w fun e w' => e = .returned (.tuple #[.string X, .int .i64 (n : Int), .int .i64 0]) ∧ Below w.heap.size w w' := by
  have hc' : (((s[pos]'h).toNat : Int) == 38) = false := beq_eq_false_iff_ne.2 (by omega)
  have hn' : ((n : Int) == 0) = false := beq_eq_false_iff_ne.2 (by omega)
  clear hc
  go_enter Tryz.func105, Tryz.ntmps105
  go_wp2_with fail
  refine hr.mono ?_
  rintro e w1 ⟨rfl, hb⟩
  go_wp2
  go_ret3
  first | exact ⟨congrArg _ (v_sii hX rfl rfl), hb⟩ | exact ⟨rfl, hb⟩

theorem rnext_any (w : World) (s : ByteArray) (pos : Nat) (h : pos < s.size) (hsz : s.size < 1152921504606846976) :
    Calls Tryz.prog 105 #[.string s, .int .i64 (pos : Int)] w fun e w' => e = .returned (.tuple #[.string (nbytes (s.data.toList.drop pos)), .int .i64 (nlen (s.data.toList.drop pos)), .int .i64 (nextP (s.data.toList.drop pos)).2.2]) ∧ Below w.heap.size w w' := by
  obtain ⟨hex, hexs⟩ := ext_end s pos (Nat.le_of_lt h)
  have hd := drop_get h
  by_cases hc : (s[pos]'h).toNat = 38
  · have h0 : 0 < (s.extract pos s.size).size := by omega
    have hd' := drop_get h0
    rw [List.drop_zero, hex, hd] at hd'
    have hc0 : ((s.extract pos s.size)[0]'h0).toNat = 38 := by
      rw [← (List.cons.inj hd').1]
      exact hc
    have hr := rref_any w (s.extract pos s.size) h0 (by omega) hc0
    rw [hex] at hr
    have e : nextP (s.data.toList.drop pos) = chkC (refP (s.data.toList.drop pos)) := by
      rw [hd]
      simp [nextP, hc]
    rw [← e] at hr
    by_cases hz : (nextP (s.data.toList.drop pos)).2.2 = 0
    · obtain ⟨R, n, hp, hch, hn1, hn2⟩ := nextP_ok hz
      have hR : R ≤ 1114111 := by unfold Ch at hch; omega
      rw [nbytes, nlen, if_pos hz, if_pos hz]
      rw [hp] at hr ⊢
      exact rnext_amp_ok w s pos h hsz hc _ _ _ hr (fun W => rbytes_any W R hR)
    · rw [nbytes, nlen, if_neg hz, if_neg hz]
      exact rnext_amp_bad w s pos h hsz hc _ _ _ hz hr
  · have e : nextP (s.data.toList.drop pos) = fans (s.data.toList.drop pos) := by
      rw [hd]
      simp [nextP, hc]
    have hat := at_any w s pos h hsz
    have hlen : (s.data.toList.drop pos).length = s.size - pos := by rw [List.length_drop, size_list]
    cases hf : first (s.data.toList.drop pos) with
    | none =>
      have haa : aans (s.data.toList.drop pos) = (0, 0) := by simp [aans, hf]
      rw [haa] at hat
      have he : nextP (s.data.toList.drop pos) = (0, 0, 7) := by rw [e, fans_no (by omega) hf]
      rw [nbytes, nlen, he, if_neg (by simp), if_neg (by simp)]
      exact rnext_bad w s pos h hsz hc hat
    | some p =>
      obtain ⟨r, n⟩ := p
      obtain ⟨h1, h2, u, h3⟩ := first_some hf
      have haa : aans (s.data.toList.drop pos) = ((r : Int), (n : Int)) := by simp [aans, hf]
      rw [haa] at hat
      have he : nextP (s.data.toList.drop pos) = ((r : Int), (n : Int), 0) := by rw [e, fans_of hf]
      have hp := enc_pos r
      have hl2 := congrArg List.length h3
      rw [hlen, List.length_append] at hl2
      rw [nbytes, nlen, he, if_pos rfl, if_pos rfl]
      refine rnext_ok w s pos h hsz hc r n (by omega) (by omega) _ ?_ hat
      apply str_of
      rw [Lib.extract_data, h3, Nat.add_sub_cancel_left, h2, List.take_left]
      simp

end Go.Proofs.YtmifejkddgcbmabGreat

/- The document's reader in memory; its small steps. -/
namespace Go.Proofs.YtmifejkddgcbmabGreat
open Go.RowKit
set_option linter.unusedVariables false
set_option linter.unusedSimpArgs false
attribute [local go_sem] Bel.cell Bel.fz

/-- Where the document's reader is. -/
structure Qs where
  at_ : Nat
  place : Nat
  err : Int
  n : Nat
  has : Bool

def qC (tx : ByteArray) (q : Qs) (vo vt : Value) : Array Value := #[.string tx, .int .i64 (q.at_ : Int), .int .i64 (q.place : Int), .int .i64 q.err, .int .i64 (q.n : Int), vo, vt, .bool q.has]

/-- The document's reader lies in block b; the text that is under way from block B on; op: the names that are open. -/
structure Qd (w : World) (b B : Nat) (tx : ByteArray) (q : Qs) (vo vt : Value) (op : List ByteArray) (o : Bs) : Prop where
  cel : w.heap[b]? = some (.cells (qC tx q vo vt) 49 (0, 0))
  txt : Own w B vt o
  opn : w.ownsRow 0 9 1 vo op.length (op.map Value.string)
  opb : ∀ k, vo.ownBlock = some k → k < B ∧ k ≠ b
  ltb : b < B
  leB : B ≤ w.heap.size
  nl : o = [] → vt = .slice none 0 0

theorem Qd.facts {w : World} {b B : Nat} {tx : ByteArray} {q : Qs} {vo vt : Value} {op : List ByteArray} {o : Bs} (h : Qd w b B tx q vo vt op o) :
    w.cell? ⟨b, 0, none⟩ = some (.string tx) ∧ w.cell? ⟨b, 1, none⟩ = some (.int .i64 (q.at_ : Int)) ∧ w.cell? ⟨b, 2, none⟩ = some (.int .i64 (q.place : Int)) ∧ w.cell? ⟨b, 3, none⟩ = some (.int .i64 q.err) ∧ w.cell? ⟨b, 4, none⟩ = some (.int .i64 (q.n : Int)) ∧ w.cell? ⟨b, 5, none⟩ = some vo ∧ w.cell? ⟨b, 6, none⟩ = some vt ∧ w.cell? ⟨b, 7, none⟩ = some (.bool q.has) ∧ (∀ j, w.frozen? ⟨b, j, none⟩ = false) ∧ b < w.heap.size := by
  have hc := h.cel
  refine ⟨?_, ?_, ?_, ?_, ?_, ?_, ?_, ?_, fun j => ?_, (Array.getElem?_eq_some_iff.1 hc).1⟩ <;> simp [World.cell?, World.frozen?, hc, qC]

/-- A store into the reader's own word. -/
theorem Qd.set {w : World} {b B : Nat} {tx : ByteArray} {q q' : Qs} {vo vt : Value} {op : List ByteArray} {o : Bs} (h : Qd w b B tx q vo vt op o) (k : Nat) (v : Value) (e : (qC tx q vo vt).setIfInBounds k v = qC tx q' vo vt) : Qd (w.setCell ⟨b, k, none⟩ v) b B tx q' vo vt op o := by
  have hb := h.ltb
  refine ⟨?_, ?_, ?_, h.opb, hb, by simpa [World.setCell] using h.leB, h.nl⟩
  · rw [← e]; simp [World.setCell, Array.getElem?_modify, h.cel]
  · exact own_of_block h.txt (fun k' hk => Below.heap_setCell _ _ _ _ (by have := (own_block_lt h.txt k' hk).1; show k' ≠ b; omega))
  · exact own_of_block h.opn (fun k' hk => Below.heap_setCell _ _ _ _ (h.opb k' hk).2)
theorem Qd.below {w w' : World} {b B : Nat} {tx : ByteArray} {q : Qs} {vo vt : Value} {op : List ByteArray} {o : Bs} (h : Qd w b B tx q vo vt op o) (hb : Below w.heap.size w w') : Qd w' b B tx q vo vt op o :=
  ⟨(hb.block b (Nat.lt_of_lt_of_le h.ltb h.leB)).trans h.cel, owns_below h.txt hb, owns_below h.opn hb, h.opb, h.ltb, Nat.le_trans h.leB hb.size, h.nl⟩

def badQ (q : Qs) (p : Nat) (e : Int) : Qs := if q.err = 0 then { q with place := p, err := e } else q

set_option maxRecDepth 100000 in
theorem qok_any (w : World) (b B : Nat) (tx : ByteArray) (q : Qs) (vo vt : Value) (op : List ByteArray) (o : Bs) (h : Qd w b B tx q vo vt op o) :
    Calls Tryz.prog 17 #[.pointer (some ⟨b, 0, none⟩)] w fun e w' => e = .returned (.bool (q.err == 0)) ∧ w' = w := by
  obtain ⟨h0, h1, h2, h3, h4, h5, h6, h7, fz, hb⟩ := h.facts
  go_enter Tryz.func17, Tryz.ntmps17
  go_wp2
  go_ret
  exact ⟨rfl, rfl⟩

set_option maxRecDepth 100000 in
theorem qbad_any (w : World) (b B : Nat) (tx : ByteArray) (q : Qs) (vo vt : Value) (op : List ByteArray) (o : Bs) (h : Qd w b B tx q vo vt op o) (p : Nat) (c : Int) :
    Calls Tryz.prog 51 #[.pointer (some ⟨b, 0, none⟩), .int .i64 (p : Int), .int .i64 c] w fun e w' => e = .returned (.tuple #[]) ∧ Qd w' b B tx (badQ q p c) vo vt op o ∧ Turn (fun x => x = b) w w' := by
  have HQ : Hid (Qd w b B tx q vo vt op o) := h
  obtain ⟨h0, h1, h2, h3, h4, h5, h6, h7, fz, hb⟩ := h.facts
  unfold badQ
  by_cases he : q.err = 0
  · rw [if_pos he]
    have t1 : (q.err == 0) = true := by rw [he]; rfl
    have HE : Hid (q.err = 0) := he
    clear he h
    go_enter Tryz.func51, Tryz.ntmps51
    go_wp2
    go_end0
    refine ⟨rfl, (HQ.out.set (q' := { q with place := p }) 2 _ (by simp [qC])).set 3 _ (by simp [qC]), turn_set (turn_set (Turn.refl _ w) _ _) _ _⟩
  · rw [if_neg he]
    have t1 : (q.err == 0) = false := beq_eq_false_iff_ne.2 he
    clear he h
    go_enter Tryz.func51, Tryz.ntmps51
    go_wp2
    go_end0
    exact ⟨rfl, HQ.out, Turn.refl _ _⟩

theorem ext_sees {tx p : ByteArray} {a : Nat} (h : a + p.size ≤ tx.size) : ((tx.extract a (a + p.size)).toList == p.toList) = seesP tx.data.toList p.data.toList a := by
  have hx : (tx.extract a (a + p.size)).data.toList = (tx.data.toList.drop a).take p.data.toList.length := by rw [ext_mid, size_list, show a + p.size - a = p.size by omega]
  unfold seesP
  rw [Bool.eq_iff_iff, List.isPrefixOf_iff_prefix, List.prefix_iff_eq_take, ← hx]
  constructor
  · intro e
    have : tx.extract a (a + p.size) = p := Decidable.byContradiction fun hn => by rw [str_ne hn] at e; cases e
    rw [this]
  · intro e
    refine str_eq ?_
    rw [← ba_of (tx.extract a (a + p.size)), ← e, ba_of]
theorem sees_short {l p : Bs} {a : Nat} (h : l.length < a + p.length) (hp : p ≠ []) : seesP l p a = false := by
  cases hs : seesP l p a
  · rfl
  · have := seesP_le hs hp; omega

set_option maxRecDepth 100000 in
set_option maxHeartbeats 1000000 in
theorem qstarts_any (w : World) (b B : Nat) (tx : ByteArray) (q : Qs) (vo vt : Value) (op : List ByteArray) (o : Bs) (h : Qd w b B tx q vo vt op o) (hl : tx.size ≤ 262144) (ha : q.at_ ≤ tx.size) (p : ByteArray) (hp : 0 < p.size) (hp2 : p.size ≤ 100) :
    Calls Tryz.prog 75 #[.pointer (some ⟨b, 0, none⟩), .string p] w fun e w' => e = .returned (.bool (seesP tx.data.toList p.data.toList q.at_)) ∧ Below w.heap.size w w' := by
  obtain ⟨h0, h1, h2, h3, h4, h5, h6, h7, fz, hb⟩ := h.facts
  clear h
  by_cases hle : q.at_ + p.size ≤ tx.size
  · have hx := ext_sees hle
    have t1 : decide ((p.size : Int) ≤ (tx.size : Int) - (q.at_ : Int)) = true := by simp; omega
    generalize seesP tx.data.toList p.data.toList q.at_ = z at *
    go_enter Tryz.func75, Tryz.ntmps75
    go_wp2
    refine wp_region_bel (by kernel_rfl) (by kernel_rfl) ?_
    intro hne
    repeat go_big_quiet_step (fail)
    refine wpQuiet_nil ?_
    rintro _ ⟨u, rfl⟩
    go_wp2
    go_ret
    exact ⟨rfl, u.h⟩
  · have hx : seesP tx.data.toList p.data.toList q.at_ = false := sees_short (by rw [size_list, size_list]; omega) (by intro e; rw [← List.length_eq_zero_iff, size_list] at e; omega)
    rw [hx]
    have t1 : decide ((p.size : Int) ≤ (tx.size : Int) - (q.at_ : Int)) = false := by simp; omega
    clear hx
    go_enter Tryz.func75, Tryz.ntmps75
    go_wp2
    refine wp_region_bel (by kernel_rfl) (by kernel_rfl) ?_
    intro hne
    repeat go_big_quiet_step (fail)
    refine wpQuiet_nil ?_
    rintro _ ⟨u, rfl⟩
    go_wp2
    go_ret
    exact ⟨rfl, u.h⟩

end Go.Proofs.YtmifejkddgcbmabGreat
