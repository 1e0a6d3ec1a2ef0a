/- The document's Cut. -/
import Derived.Test.YtfccijpmgjcmiaaChars
import Derived.Laws.BytesArg
namespace Go.Proofs.Ytfccijpmgjcmiaa
open Go.RowKit
set_option linter.unusedVariables false

/-- A row of bytes of the call's own, as a text. -/
theorem conv_own {w : World} {B n : Nat} {v : Value} {l : List UInt8} (h : w.ownsRow B 5 1 v n (Lib.byteCells l)) : (convert 42 9 v).run Try.prog w = .ok (.string ⟨l.toArray⟩) w := by
  have hn : n = l.length := by
    have := h.1
    rw [Lib.byteCells_length] at this
    omega
  rcases h.2 with ⟨rfl, h0⟩ | ⟨g, cap, cur, rfl, hg, hh, hrest⟩
  · have : l = [] := List.length_eq_zero_iff.1 (by omega)
    subst this
    exact run_convert_bytes_nil w 42 5 Try.underlying42 Try.underlying5 0 0 9 Try.underlying9
  · subst hn
    refine run_convert_bytes_back w 42 9 5 ⟨g, 0, none⟩ cap l Try.underlying42 Try.underlying5 Try.underlying9 ?_
    intro j hj
    refine h.cells (g := g) rfl j _ ?_
    simp [Lib.byteCells, hj]

set_option maxRecDepth 100000 in
set_option maxHeartbeats 1000000 in
theorem rcut_bad (w : World) (s : ByteArray) (f n : Int) (h : (tans s.data.toList).2 ≠ 0) :
    Calls Try.prog 22 #[.string s, .int .i64 f, .int .i64 n] w fun e w' => e = .returned (.tuple #[.string ⟨#[]⟩, .int .i64 (tans s.data.toList).2]) ∧ Below w.heap.size w w' := by
  have ht := rtext_any w s
  have h1 : ((tans s.data.toList).2 != 0) = true := bne_iff_ne.2 h
  have h2 : ((tans s.data.toList).2 == 0) = false := beq_eq_false_iff_ne.2 h
  generalize tans s.data.toList = p at *
  go_enter Try.func22, Try.ntmps22
  go_wp2_with fail
  refine ht.mono ?_
  rintro e w' ⟨rfl, hb⟩
  go_wp2
  go_ret2
  exact ⟨rfl, hb⟩

set_option maxRecDepth 100000 in
set_option maxHeartbeats 1000000 in
theorem rcut_arg (w : World) (s : ByteArray) (f n : Int) (h : (tans s.data.toList).2 = 0) (hfn : f < 0 ∨ n < 0) :
    Calls Try.prog 22 #[.string s, .int .i64 f, .int .i64 n] w fun e w' => e = .returned (.tuple #[.string ⟨#[]⟩, .int .i64 1]) ∧ Below w.heap.size w w' := by
  have ht := rtext_any w s
  rw [h] at ht
  generalize (tans s.data.toList).1 = p at *
  clear h
  by_cases hf : f < 0
  · clear hfn
    go_enter Try.func22, Try.ntmps22
    go_wp2_with fail
    refine ht.mono ?_
    rintro e w' ⟨rfl, hb⟩
    go_wp2
    go_ret2
    exact ⟨rfl, hb⟩
  · have hn : n < 0 := by omega
    have hf' : 0 ≤ f := by omega
    clear hfn hf
    go_enter Try.func22, Try.ntmps22
    go_wp2_with fail
    refine ht.mono ?_
    rintro e w' ⟨rfl, hb⟩
    go_wp2
    go_ret2
    exact ⟨rfl, hb⟩

set_option maxRecDepth 100000 in
set_option maxHeartbeats 1000000 in
theorem rcut_walk (w : World) (s : ByteArray) (F : Nat) (n : Int) (h : (tans s.data.toList).2 = 0) (hn : 0 ≤ n) (hf9 : (F : Int) ≤ 9223372036854775807) (hn9 : n ≤ 9223372036854775807) (rs : List Nat) (hs : s.data.toList = bytes rs) (hc : ∀ r ∈ rs, Ch r) (hsz : s.size ≤ 16384)
    (X : ByteArray) (hX : X = ⟨(bytes ((rs.drop F).take n.toNat)).toArray⟩) :
    Calls Try.prog 22 #[.string s, .int .i64 (F : Int), .int .i64 n] w fun e w' => e = .returned (.tuple #[.string X, .int .i64 0]) ∧ Below w.heap.size w w' := by
  have ht := rtext_any w s
  rw [h] at ht
  have hl := size_list s
  have hch := fun W => chars_walk W s rs hs hc hsz
  have hrl : rs.length ≤ s.size := by rw [← hl, hs]; exact bytes_length_ge rs
  have hbl : (bytes rs).length ≤ 16384 := by rw [← hs, hl]; exact hsz
  generalize (tans s.data.toList).1 = p at *
  have HX : Hid (X = ⟨(bytes ((rs.drop F).take n.toNat)).toArray⟩) := hX
  clear hX h hs hc
  go_enter Try.func22, Try.ntmps22
  go_wp2_with fail
  refine ht.mono ?_
  rintro e W1 ⟨rfl, hb⟩
  have hs1 := hb.size
  go_wp2_with fail
  refine (hch W1).mono ?_
  rintro e W3 ⟨v, rfl, hown, hb2⟩
  have hs2 := hb2.size
  have HB1 : Hid (Below w.heap.size w W3) := hb.trans (hb2.mono hs1)
  obtain ⟨sa, scap, rfl⟩ := owns_slice hown
  have HSL : Hid (∀ j (hj : j < rs.length), ∃ g, sa = some ⟨g, 0, none⟩ ∧ g < W3.heap.size ∧ W3.cell? ⟨g, j, none⟩ = some (.string ⟨(enc rs[j]).toArray⟩)) := by
    intro j hj
    rcases hown.2 with ⟨_, h2⟩ | ⟨g, cap, cur, hv, hg, hh, rest⟩
    · omega
    · simp only [Value.slice.injEq] at hv
      refine ⟨g, hv.1, (Array.getElem?_eq_some_iff.1 hh).1, ?_⟩
      have hcl := hown.cells (g := g) (by rw [hv.1]; rfl) j (.string ⟨(enc rs[j]).toArray⟩) (by simp [strs, hj])
      rw [addr_add] at hcl
      exact hcl
  clear hown hb hb2 hch ht
  go_wp2
  go_loopw [10, 12] (fun v10 v12 wr => ∃ (j : Nat), v12 = .int .i64 ((F : Int) + (j : Int)) ∧ (j : Int) ≤ n ∧ (j = 0 ∨ F + j ≤ rs.length) ∧ wr.ownsRow W3.heap.size 5 1 v10 (bytes ((rs.drop F).take j)).length (Lib.byteCells (bytes ((rs.drop F).take j))) ∧ Hid (Below W3.heap.size W3 wr)) (fun _ v12 _ => rs.length + F + 1 - (intOf v12).toNat)
  case atStart => exact ⟨0, by simp, by omega, Or.inl rfl, ⟨rfl, Or.inl ⟨rfl, rfl⟩⟩, Below.refl _ _⟩
  case round =>
    obtain ⟨j, rfl, hjn, hjr, hown, hbw⟩ := hrel
    obtain ⟨ba, bcap, rfl⟩ := owns_slice hown
    have hws := hbw.out.size
    by_cases hgo : F + j < rs.length ∧ (j : Int) < n
    · obtain ⟨hg1, hg2⟩ := hgo
      obtain ⟨g, hga, hgl, hcell⟩ := HSL.out (F + j) hg1
      subst hga
      have hcell2 : wr.cell? ⟨g, F + j, none⟩ = some (.string ⟨(enc (rs[F + j]'hg1)).toArray⟩) := by rw [hbw.out.cell (p := ⟨g, F + j, none⟩) hgl]; exact hcell
      have htk : (rs.drop F).take (j + 1) = (rs.drop F).take j ++ [rs[F + j]'hg1] := by
        rw [List.take_add_one, List.getElem?_drop, List.getElem?_eq_getElem hg1]
        rfl
      have hbt : bytes ((rs.drop F).take (j + 1)) = bytes ((rs.drop F).take j) ++ enc (rs[F + j]'hg1) := by rw [htk, bytes_append, bytes_cons, bytes_nil, List.append_nil]
      have hble : (bytes ((rs.drop F).take (j + 1))).length ≤ 16384 := by
        have h1 : bytes rs = bytes (rs.take F) ++ (bytes ((rs.drop F).take (j + 1)) ++ bytes ((rs.drop F).drop (j + 1))) := by
          rw [← bytes_append, List.take_append_drop, ← bytes_append, List.take_append_drop]
        have h2 := congrArg List.length h1
        simp only [List.length_append] at h2
        omega
      have HE : Hid (bytes ((rs.drop F).take (j + 1)) = bytes ((rs.drop F).take j) ++ enc (rs[F + j]'hg1)) := hbt
      have hlen2 : (bytes ((rs.drop F).take (j + 1))).length = (bytes ((rs.drop F).take j)).length + (enc (rs[F + j]'hg1)).length := by rw [hbt, List.length_append]
      have hSs : (⟨(enc (rs[F + j]'hg1)).toArray⟩ : ByteArray).size = (enc (rs[F + j]'hg1)).length := by simp [ByteArray.size]
      have hSc : Lib.strCells ⟨(enc (rs[F + j]'hg1)).toArray⟩ = Lib.byteCells (enc (rs[F + j]'hg1)) := Lib.strCells_eq _
      obtain ⟨i0, hi, hz0, hz1, hz2⟩ := info_parts info5
      have HOW : Hid (wr.ownsRow W3.heap.size 5 1 (.slice ba (bytes ((rs.drop F).take j)).length bcap) (bytes ((rs.drop F).take j)).length (Lib.byteCells (bytes ((rs.drop F).take j)))) := hown
      have hjF : (F : Int) + (j : Int) < (rs.length : Int) := by omega
      clear hown htk hbt hcell hjr HX
      generalize (⟨(enc (rs[F + j]'hg1)).toArray⟩ : ByteArray) = S at *
      generalize hq : (bytes ((rs.drop F).take j)).length = q at *
      have HQ : Hid ((bytes ((rs.drop F).take (j + 1))).length = q + S.size) := by
        show _ = _
        omega
      have hqS : q + S.size ≤ 16384 := by omega
      clear hq hlen2
      go_wp2_with (at_builtin; refine Lib.wpList_append_own_string _ rfl _ _ 42 9 rfl W3.heap.size 5 i0 Try.underlying42 Try.underlying9 hi hz0 hz1 hz2 _ _ _ rfl HOW.out S rfl ?c3 ?c4 ?c5 ?_)
      case c3 => unfold maxLen; omega
      case c4 => omega
      case c5 => omega
      intro v' W5 hown' hgrow _
      have HO3 : Hid (W5.ownsRow W3.heap.size 5 1 v' (bytes ((rs.drop F).take (j + 1))).length (Lib.byteCells (bytes ((rs.drop F).take (j + 1))))) := by
        show W5.ownsRow _ _ _ _ _ _
        rw [HQ.out, HE.out, Lib.byteCells_append, hSs]
        exact hown'
      have HB3 : Hid (Below W3.heap.size W3 W5) := hbw.out.grown hgrow hws (fun k hk => (HOW.out.lt k hk).1)
      clear hown' hgrow
      go_wp2
      go_roundw
      case rel => exact ⟨j + 1, by go_num, by omega, by omega, HO3.out, HB3⟩
      case measure => simp [intOf]; omega
    · have hfin : Hid (X = ⟨(bytes ((rs.drop F).take j)).toArray⟩) := by
        show X = _
        rw [HX.out]
        congr 3
        by_cases h1 : (j : Int) = n
        · rw [← h1, Int.toNat_natCast]
        · rw [List.take_of_length_le (by rw [List.length_drop]; omega), List.take_of_length_le (by rw [List.length_drop]; omega)]
      have hconv := conv_own hown
      rw [← hfin.out] at hconv
      clear HX hfin hown
      by_cases h1 : F + j < rs.length
      · have h2 : n ≤ (j : Int) := by omega
        have h3 : (F : Int) + (j : Int) < (rs.length : Int) := by omega
        clear hgo hjr
        go_wp2
        go_ret2
        exact ⟨rfl, HB1.out.trans (hbw.out.mono (by omega))⟩
      · have h3 : (rs.length : Int) ≤ (F : Int) + (j : Int) := by omega
        clear hgo hjr
        go_wp2
        go_ret2
        exact ⟨rfl, HB1.out.trans (hbw.out.mono (by omega))⟩

theorem rcut_any (w : World) (s : ByteArray) (f n : Int) (hf9 : f ≤ 9223372036854775807) (hn9 : n ≤ 9223372036854775807) :
    Calls Try.prog 22 #[.string s, .int .i64 f, .int .i64 n] w fun e w' => e = .returned (.tuple #[.string ⟨(cans s.data.toList f n).1.toArray⟩, .int .i64 (cans s.data.toList f n).2]) ∧ Below w.heap.size w w' := by
  by_cases h : (tans s.data.toList).2 = 0
  · by_cases hfn : f < 0 ∨ n < 0
    · rw [cans, if_pos h, if_pos hfn]
      exact rcut_arg w s f n h hfn
    · obtain ⟨h1, h2, h3⟩ := tans_ok h
      rw [size_list] at h1
      rw [cans, if_pos h, if_neg hfn]
      obtain ⟨F, rfl⟩ := Int.eq_ofNat_of_zero_le (show 0 ≤ f by omega)
      exact rcut_walk w s F n h (by omega) hf9 hn9 _ h2 h3 h1 _ rfl
  · rw [cans, if_neg h]
    exact rcut_bad w s f n h

end Go.Proofs.Ytfccijpmgjcmiaa
