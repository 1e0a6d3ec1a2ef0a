/- The document's Chars: the characters of a text, each a text of its own. -/
import Derived.Test.YtoabgmpcdnikeaaGreatDoorXn
import Derived.Lib.AppendStr
import Derived.Laws.AppendOwn
import Derived.OwnWalk
namespace Go.Proofs.YtoabgmpcdnikeaaGreatDoor
open Go.RowKit
set_option linter.unusedVariables false

theorem owns_below {w w' : World} {base : Nat} {e : TypeId} {size : Nat} {v : Value} {n : Nat} {xs : List Value} (h : w.ownsRow base e size v n xs) (hb : Below w.heap.size w w') : w'.ownsRow base e size v n xs := by
  refine ⟨h.1, ?_⟩
  rcases h.2 with h1 | ⟨g, cap, cur, hv, hg, hh, rest⟩
  · exact Or.inl h1
  · exact Or.inr ⟨g, cap, cur, hv, hg, by rw [hb.block g (Array.getElem?_eq_some_iff.1 hh).1]; exact hh, rest⟩

theorem owns_slice {w : World} {base : Nat} {e : TypeId} {v : Value} {n : Nat} {xs : List Value} (h : w.ownsRow base e 1 v n xs) : ∃ a cap, v = .slice a n cap := by
  rcases h.2 with ⟨h1, h2⟩ | ⟨g, cap, cur, hv, _⟩
  · exact ⟨none, 0, by rw [h1, h2]⟩
  · exact ⟨_, _, hv⟩


/-- The characters, each a text of its own. -/
def strs (rs : List Nat) : List Value := rs.map fun r => Value.string ⟨(enc r).toArray⟩

set_option maxRecDepth 100000 in
set_option maxHeartbeats 1000000 in
theorem chars_walk (w : World) (s : ByteArray) (rs : List Nat) (hs : s.data.toList = bytes rs) (hc : ∀ r ∈ rs, Ch r) (hsz : s.size ≤ 16384) :
    Calls Tryz.prog 51 #[.string s] w fun e w' => ∃ v, e = .returned v ∧ w'.ownsRow w.heap.size 9 1 v rs.length (strs rs) ∧ Below w.heap.size w w' := by
  have hl := size_list s
  have HS : Hid (scan s.data.toList = (rs, [])) := by rw [hs]; exact scan_bytes hc
  have hrl : rs.length ≤ s.size := by rw [← hl, hs]; exact bytes_length_ge rs
  clear hc
  go_enter Tryz.func51, Tryz.ntmps51
  go_wp2
  go_loopw [3, 4] (fun v3 v4 wr => ∃ (a b : List Nat), Hid (rs = a ++ b) ∧ v4 = .int .i64 ((bytes a).length : Int) ∧ wr.ownsRow w.heap.size 9 1 v3 a.length (strs a) ∧ Hid (Below w.heap.size w wr)) (fun _ v4 _ => s.size - (intOf v4).toNat)
  case atStart => exact ⟨[], rs, rfl, rfl, ⟨rfl, Or.inl ⟨rfl, rfl⟩⟩, Below.refl _ _⟩
  case round =>
    obtain ⟨a, b, hab, rfl, hown, hbw⟩ := hrel
    obtain ⟨sa, scap, rfl⟩ := owns_slice hown
    have hws := hbw.out.size
    have hsc : (scan s.data.toList).1 = a ++ b := by rw [HS.out]; exact hab.out
    by_cases hp : (bytes a).length < s.size
    · have hat := at_any wr s (bytes a).length hp (by omega)
      have hst := scan_step hsc (by rw [hl]; exact hp)
      rcases hst with ⟨r, b', rfl, hr, hf, hsc2, hlen, hle⟩ | ⟨rfl, hf, hne, hans⟩
      · have haa : aans (s.data.toList.drop (bytes a).length) = ((r : Int), ((enc r).length : Int)) := by simp [aans, hf]
        rw [haa] at hat
        have hpl := enc_pos r
        have HSC : Hid (rs = (a ++ [r]) ++ b') := by rw [HS.out] at hsc2; exact hsc2
        have HLN : Hid ((bytes (a ++ [r])).length = (bytes a).length + (enc r).length) := hlen
        have hz : (((enc r).length : Int) == 0) = false := beq_eq_false_iff_ne.2 (by omega)
        have hext : s.extract (bytes a).length ((bytes a).length + (enc r).length) = ⟨(enc r).toArray⟩ := by
          refine ba_eq ?_
          show (s.extract _ _).data.toList = (enc r).toArray.toList
          obtain ⟨_, _, t, ht⟩ := first_some hf
          rw [Lib.extract_data, ht, Nat.add_sub_cancel_left, List.take_left]
        rw [hl] at hle
        have hal : a.length + 1 ≤ 16384 := by
          have := congrArg List.length HSC.out
          simp only [List.length_append, List.length_cons, List.length_nil] at this
          omega
        have HST : Hid (strs (a ++ [r]) = strs a ++ [.string ⟨(enc r).toArray⟩]) := by
          show strs (a ++ [r]) = _
          simp [strs]
        have HOW : Hid (wr.ownsRow w.heap.size 9 1 (.slice sa a.length scap) a.length (strs a)) := hown
        clear hab hf hsc haa hlen hsc2 hs hown
        generalize (⟨(enc r).toArray⟩ : ByteArray) = S at *
        generalize (enc r).length = m at *
        generalize (bytes a).length = q at *
        go_wp2_with fail
        refine hat.mono ?_
        rintro e W2 ⟨rfl, hb2⟩
        have hs2 := hb2.size
        have HO2 := owns_below HOW.out hb2
        obtain ⟨i0, hi, hz0, hz1, hz2⟩ := info9.parts
        go_wp2_with (at_builtin; refine wpList_append_own _ rfl _ _ 22 rfl w.heap.size 9 i0 (.string ⟨#[]⟩) 1 16 Tryz.underlying22 hi hz0 hz1 hz2 rfl (by decide) _ _ _ rfl (HO2.alloc _) ⟨W2.heap.size, 0, none⟩ 1 1 [.string S] rfl rfl ?c1 ?c2 ?c3 ?c4 ?c5 ?_)
        case c1 =>
          intro j u hj
          match j, hj with
          | 0, hj => simp at hj; subst hj; simp [Addr.add]
        case c2 => intro u hu; simp at hu; subst hu; rfl
        case c3 => unfold maxLen; omega
        case c4 => omega
        case c5 => simp; omega
        intro v' W3 hown' hgrow _
        have HO3 : Hid (W3.ownsRow w.heap.size 9 1 v' (a.length + 1) (strs a ++ [.string S])) := hown'
        have HB3 : Hid (Below w.heap.size w W3) := ((hbw.out.trans (hb2.mono hws)).alloc (by omega) _).grown hgrow (by simp; omega) (fun k hk => (HO2.lt k hk).1)
        clear hown' hgrow
        go_wp2
        go_roundw
        case rel => exact ⟨a ++ [r], b', HSC, congrArg _ (by have := HLN.out; omega), by rw [HST.out, show (a ++ [r]).length = a.length + 1 by simp]; exact HO3.out, HB3⟩
        case measure => simp [intOf]; omega
      · rw [HS.out] at hne
        exact absurd rfl hne
    · have he := (scan_end hsc (by rw [hl]; exact hp)).1
      have hfin : Hid (a = rs) := by
        show a = rs
        rw [hab.out, he, List.append_nil]
      have HOW : Hid (wr.ownsRow w.heap.size 9 1 (.slice sa a.length scap) a.length (strs a)) := hown
      clear hab he HS hsc hown
      go_wp2
      go_ret
      exact ⟨_, rfl, hfin.out ▸ HOW.out, hbw.out⟩


/-- How many there are. -/
theorem dchars_any (w : World) (s : ByteArray) (h : (tans (Tx s)).2 = 0) : Calls Tryz.prog 51 #[.string s] w fun e w' => ∃ a m c, e = .returned (.slice a m c) ∧ (m : Int) = (lans (Tx s)).1 ∧ Below w.heap.size w w' := by
  obtain ⟨h1, h2, h3⟩ := tans_ok h
  have hsz : s.size ≤ 16384 := by simpa using h1
  refine (chars_walk w s _ h2 h3 hsz).mono ?_
  rintro e w' ⟨v, rfl, hown, hb⟩
  obtain ⟨a, c, rfl⟩ := owns_slice hown
  exact ⟨a, _, c, rfl, by unfold lans; rw [if_pos h], hb⟩

end Go.Proofs.YtoabgmpcdnikeaaGreatDoor
