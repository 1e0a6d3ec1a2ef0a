/- The document's Text. -/
import Derived.Test.YtoabgmpcdnikeaaGreatDoorXj
namespace Go.Proofs.YtoabgmpcdnikeaaGreatDoor
open Go.RowKit
set_option linter.unusedVariables false

theorem ddig_any (w : World) (n : Int) (h0 : -9223372036854775808 ≤ n) (h1 : n ≤ 9223372036854775807) : Calls Tryz.prog 43 #[.int .i64 n] w fun e w' => e = .returned (.string ⟨(Lib.itoa n).toArray⟩) ∧ Below w.heap.size w w' := by
  rcases Classical.em (n < 0) with hn | hn
  · obtain ⟨v, rfl⟩ : ∃ v : Nat, n = -(v : Int) := ⟨n.natAbs, by omega⟩
    refine ddig_neg w v (by omega) (by omega) _ ?_
    show (Lib.itoa _).toArray.toList = _
    unfold Lib.itoa
    rw [if_pos hn]
    simp
  · obtain ⟨v, rfl⟩ : ∃ v : Nat, n = (v : Int) := ⟨n.toNat, by omega⟩
    refine ddig_pos w v (by omega) _ ?_
    show (Lib.itoa _).toArray.toList = _
    unfold Lib.itoa
    rw [if_neg (by omega)]
    simp

set_option maxRecDepth 100000 in
theorem dtext_val (w : World) {k n : Int} {b no : Bool} {t : ByteArray} {a : Option Addr} {c : Nat} {L : List ByteArray} (h : VOk w ⟨k, b, n, no, t, L⟩ a) :
    Calls Tryz.prog 17 #[.agg #[.int .i64 k, .bool b, .int .i64 n, .bool no, .string t, .slice a L.length c]] w fun e w' => e = .returned (.string (txV k b n no t L)) ∧ Below w.heap.size w w' := by
  obtain ⟨z, HZ⟩ : ∃ z, Hid (txV k b n no t L = z) := ⟨_, rfl⟩
  rw [HZ.out]
  obtain ⟨W, hW⟩ : ∃ W, (w.alloc (.cells #[.int .i64 k, .bool b, .int .i64 n, .bool no, .string t, .slice a L.length c] 24)) = W := ⟨_, rfl⟩
  have hbW : Below w.heap.size w W := by rw [← hW]; exact (Below.refl _ _).alloc (Nat.le_refl _) _
  have hx : IsCells W w.heap.size #[.int .i64 k, .bool b, .int .i64 n, .bool no, .string t, .slice a L.length c] := by rw [← hW]; exact isCells_new _ _ _
  have HW : Hid ((w.alloc (.cells #[.int .i64 k, .bool b, .int .i64 n, .bool no, .string t, .slice a L.length c] 24)) = W ∧ Below w.heap.size w W) := ⟨hW, hbW⟩
  obtain ⟨x0, x1, x2, x3, x4, x5⟩ := six_cells hx
  have HH : Hid (VOk w ⟨k, b, n, no, t, L⟩ a ∧ w.heap.size < W.heap.size) := ⟨h, hx.lt⟩
  clear h hx hbW hW
  by_cases h1 : k = 1
  · subst h1
    have HE : Hid ((⟨if b then #[116, 114, 117, 101] else #[102, 97, 108, 115, 101]⟩ : ByteArray) = z) := HZ.out
    cases b with
    | true =>
      have hE : z = ⟨#[116, 114, 117, 101]⟩ := HE.out.symm
      subst hE
      go_enter Tryz.func17, Tryz.ntmps17
      go_wp2
      go_ret
      exact ⟨rfl, below1 _ _⟩
    | false =>
      have hE : z = ⟨#[102, 97, 108, 115, 101]⟩ := HE.out.symm
      subst hE
      go_enter Tryz.func17, Tryz.ntmps17
      go_wp2
      go_ret
      exact ⟨rfl, below1 _ _⟩
  by_cases h2 : k = 2
  · subst h2
    cases no with
    | true =>
      have HE : z = ⟨#[78, 97, 78]⟩ := HZ.out.symm
      subst HE
      go_enter Tryz.func17, Tryz.ntmps17
      go_wp2
      go_ret
      exact ⟨rfl, below1 _ _⟩
    | false =>
      have hf := ddig_any W n HH.out.1.n0 HH.out.1.n1
      have HE : Hid ((⟨(Lib.itoa n).toArray⟩ : ByteArray) = z) := HZ.out
      rw [HE.out] at hf
      go_enter Tryz.func17, Tryz.ntmps17
      go_wp2_with fail
      rw [HW.out.1]
      go_wp2_with fail
      with_reducible refine hf.mono ?_
      rintro e w' ⟨rfl, hb⟩
      have HB : Hid (Below w.heap.size w w') := HW.out.2.trans (hb.mono HW.out.2.size)
      clear hb
      go_wp2
      go_ret
      exact ⟨rfl, HB.out⟩
  by_cases h3 : k = 3
  · subst h3
    have HE : z = t := HZ.out.symm
    subst HE
    go_enter Tryz.func17, Tryz.ntmps17
    go_wp2
    go_ret
    exact ⟨rfl, below1 _ _⟩
  · have q1 : (k == 1) = false := by simpa using h1
    have q2 : (k == 2) = false := by simpa using h2
    have q3 : (k == 3) = false := by simpa using h3
    have HQ : Hid (L.headD ⟨#[]⟩ = z) := by show _ = _; rw [← HZ.out]; simp [txV, h1, h2, h3]
    have hf := dfirst_any W (c := c) (HH.out.1.bel HW.out.2)
    rw [HQ.out] at hf
    generalize decide (L ≠ []) = q at *
    clear h1 h2 h3 HZ
    go_enter Tryz.func17, Tryz.ntmps17
    go_wp2_with fail
    rw [HW.out.1]
    with_reducible refine hf.mono ?_
    rintro e w' ⟨rfl, hb⟩
    have HB : Hid (Below w.heap.size w w') := HW.out.2.trans (hb.mono HW.out.2.size)
    clear hb x0 x1 x2 x3 x4 x5
    go_wp2
    go_ret
    exact ⟨rfl, HB.out⟩

end Go.Proofs.YtoabgmpcdnikeaaGreatDoor
