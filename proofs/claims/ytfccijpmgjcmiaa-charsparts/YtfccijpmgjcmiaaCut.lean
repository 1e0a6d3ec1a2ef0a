/- What Cut of the program answers. -/
import Derived.Test.YtfccijpmgjcmiaaLen
import Derived.Test.YtfccijpmgjcmiaaShelf
namespace Go.Proofs.Ytfccijpmgjcmiaa
open Go.RowKit
set_option linter.unusedVariables false

/-- What Cut answers. -/
def cans (l : List UInt8) (f n : Int) : List UInt8 × Int :=
  if (tans l).2 = 0 then (if f < 0 ∨ n < 0 then ([], 1) else (bytes (((scan l).1.drop f.toNat).take n.toNat), 0)) else ([], (tans l).2)

theorem v_strint {k : IntKind} {a b : ByteArray} {c d : Int} (h : a = b) (h' : c = d) : Value.tuple #[.string a, .int k c] = .tuple #[.string b, .int k d] := by rw [h, h']
theorem v_str {a b : ByteArray} (h : a = b) : Value.string a = .string b := by rw [h]
theorem str_of {s : ByteArray} {l : List UInt8} (h : s.data.toList = l) : s = ⟨l.toArray⟩ := by
  subst h
  rfl

set_option maxRecDepth 100000 in
set_option maxHeartbeats 1000000 in
theorem clone_any (w : World) (s : ByteArray) (h : s.size ≤ 16384) : Calls Try.prog 40 #[.string s] w fun e w' => e = .returned (.string s) ∧ Below w.heap.size w w' := by
  have hc := Try.stringslite_Clone s w (by omega)
  go_enter Try.func40, Try.ntmps40
  go_wp2_with fail
  refine hc.mono ?_
  rintro e w' ⟨rfl, hb⟩
  go_wp2
  go_ret
  exact ⟨rfl, hb⟩

set_option maxRecDepth 100000 in
set_option maxHeartbeats 1000000 in
theorem cut_bad (w : World) (s : ByteArray) (f n : Int) (h : (tans s.data.toList).2 ≠ 0) :
    Calls Try.prog 21 #[.string s, .int .i64 f, .int .i64 n] w fun e w' => e = .returned (.tuple #[.string ⟨#[]⟩, .int .i64 (tans s.data.toList).2]) ∧ Below w.heap.size w w' := by
  have ht := text_any w s
  have h1 : ((tans s.data.toList).2 != 0) = true := bne_iff_ne.2 h
  generalize tans s.data.toList = p at *
  go_enter Try.func21, Try.ntmps21
  go_wp2_with fail
  refine ht.mono ?_
  rintro e w' ⟨rfl, hb⟩
  go_wp2
  go_ret2
  exact ⟨rfl, hb⟩

set_option maxRecDepth 100000 in
set_option maxHeartbeats 1000000 in
theorem cut_arg (w : World) (s : ByteArray) (f n : Int) (h : (tans s.data.toList).2 = 0) (hfn : f < 0 ∨ n < 0) :
    Calls Try.prog 21 #[.string s, .int .i64 f, .int .i64 n] w fun e w' => e = .returned (.tuple #[.string ⟨#[]⟩, .int .i64 1]) ∧ Below w.heap.size w w' := by
  have ht := text_any w s
  rw [h] at ht
  generalize (tans s.data.toList).1 = p at *
  clear h
  by_cases hf : f < 0
  · clear hfn
    go_enter Try.func21, Try.ntmps21
    go_wp2_with fail
    refine ht.mono ?_
    rintro e w' ⟨rfl, hb⟩
    go_wp2
    go_ret2
    exact ⟨rfl, hb⟩
  · have hn : n < 0 := by omega
    have hf' : 0 ≤ f := by omega
    clear hfn hf
    go_enter Try.func21, Try.ntmps21
    go_wp2_with fail
    refine ht.mono ?_
    rintro e w' ⟨rfl, hb⟩
    go_wp2
    go_ret2
    exact ⟨rfl, hb⟩

set_option maxRecDepth 100000 in
set_option maxHeartbeats 1000000 in
theorem cut_walk (w : World) (s : ByteArray) (f n : Int) (h : (tans s.data.toList).2 = 0) (hf : 0 ≤ f) (hn : 0 ≤ n) (hf9 : f ≤ 9223372036854775807) (hn9 : n ≤ 9223372036854775807) (rs : List Nat) (hs : s.data.toList = bytes rs) (hc : ∀ r ∈ rs, Ch r) (hsz : s.size ≤ 16384)
    (X : ByteArray) (hX : X = ⟨(bytes ((rs.drop f.toNat).take n.toNat)).toArray⟩) :
    Calls Try.prog 21 #[.string s, .int .i64 f, .int .i64 n] w fun e w' => e = .returned (.tuple #[.string X, .int .i64 0]) ∧ Below w.heap.size w w' := by
  have ht := text_any w s
  rw [h] at ht
  have hl := size_list s
  generalize (tans s.data.toList).1 = p at *
  -- the first place
  have hsplit : rs = rs.take f.toNat ++ rs.drop f.toNat := (List.take_append_drop _ _).symm
  have hp1 : ∀ W : World, _ := fun W => place_walk W s rs hs hc hsz f _ hf hf9 rfl
  have hb1 : (bytes (rs.take f.toNat)).length + (bytes (rs.drop f.toNat)).length = s.size := by
    rw [← List.length_append, ← bytes_append, ← hsplit, ← hs, hl]
  have hrest : (s.extract (bytes (rs.take f.toNat)).length s.size).data.toList = bytes (rs.drop f.toNat) := by
    rw [Lib.extract_data, hs]
    have : bytes rs = bytes (rs.take f.toNat) ++ bytes (rs.drop f.toNat) := by rw [← bytes_append, ← hsplit]
    rw [this, List.drop_left, List.take_of_length_le (by omega)]
  have hrsz : (s.extract (bytes (rs.take f.toNat)).length s.size).size = s.size - (bytes (rs.take f.toNat)).length := by rw [← size_list, hrest]; omega
  have hc2 : ∀ r ∈ rs.drop f.toNat, Ch r := fun r hr => hc r (List.mem_of_mem_drop hr)
  have hp2 : ∀ W : World, _ := fun W => place_walk W (s.extract (bytes (rs.take f.toNat)).length s.size) (rs.drop f.toNat) hrest hc2 (by rw [hrsz]; omega) n _ hn hn9 rfl
  have hb2 : (bytes ((rs.drop f.toNat).take n.toNat)).length ≤ (bytes (rs.drop f.toNat)).length := by
    have : bytes (rs.drop f.toNat) = bytes ((rs.drop f.toNat).take n.toNat) ++ bytes ((rs.drop f.toNat).drop n.toNat) := by rw [← bytes_append, List.take_append_drop]
    rw [this, List.length_append]
    omega
  have hX2 : (s.extract (bytes (rs.take f.toNat)).length s.size).extract 0 (bytes ((rs.drop f.toNat).take n.toNat)).length = X := by
    rw [hX]
    apply str_of
    rw [Lib.extract_data, hrest, List.drop_zero, Nat.sub_zero]
    have : bytes (rs.drop f.toNat) = bytes ((rs.drop f.toNat).take n.toNat) ++ bytes ((rs.drop f.toNat).drop n.toNat) := by rw [← bytes_append, List.take_append_drop]
    rw [this, List.take_left]
  have hXs : X.size ≤ 16384 := by
    have : X.data.toList.length = X.size := size_list X
    rw [← this, hX]
    show (bytes ((rs.drop f.toNat).take n.toNat)).length ≤ 16384
    omega
  have hcl : ∀ W : World, _ := fun W => clone_any W X hXs
  have HX : Hid True := trivial
  generalize hq : (bytes (rs.take f.toNat)).length = q at *
  generalize (bytes (rs.drop f.toNat)).length = q2 at *
  generalize hm : (bytes ((rs.drop f.toNat).take n.toNat)).length = m at *
  have hqs : q ≤ s.size := by omega
  have hms : m ≤ (s.extract q s.size).size := by omega
  clear hX hrest hc2 hc hs hsplit h hq hm
  generalize hR : s.extract q s.size = R at *
  clear hb2 hb1
  go_enter Try.func21, Try.ntmps21
  go_wp2_with fail
  refine ht.mono ?_
  rintro e W1 ⟨rfl, hb⟩
  go_wp2_with fail
  refine (hp1 W1).mono ?_
  rintro e W2 ⟨rfl, hbw2⟩
  go_wp2_with fail
  refine (hp2 W2).mono ?_
  rintro e W3 ⟨rfl, hbw3⟩
  go_wp2_with fail
  refine (hcl W3).mono ?_
  rintro e W4 ⟨rfl, hbw4⟩
  go_wp2
  go_ret2
  have s1 := hb.size
  have s2 := hbw2.size
  have s3 := hbw3.size
  exact ⟨rfl, hb.trans ((hbw2.mono s1).trans ((hbw3.mono (by omega)).trans (hbw4.mono (by omega))))⟩

theorem cut_any (w : World) (s : ByteArray) (f n : Int) (hf9 : f ≤ 9223372036854775807) (hn9 : n ≤ 9223372036854775807) :
    Calls Try.prog 21 #[.string s, .int .i64 f, .int .i64 n] w fun e w' => e = .returned (.tuple #[.string ⟨(cans s.data.toList f n).1.toArray⟩, .int .i64 (cans s.data.toList f n).2]) ∧ Below w.heap.size w w' := by
  by_cases h : (tans s.data.toList).2 = 0
  · by_cases hfn : f < 0 ∨ n < 0
    · rw [cans, if_pos h, if_pos hfn]
      exact cut_arg w s f n h hfn
    · obtain ⟨h1, h2, h3⟩ := tans_ok h
      rw [size_list] at h1
      rw [cans, if_pos h, if_neg hfn]
      exact cut_walk w s f n h (by omega) (by omega) hf9 hn9 _ h2 h3 h1 _ rfl
  · rw [cans, if_neg h]
    exact cut_bad w s f n h

end Go.Proofs.Ytfccijpmgjcmiaa
