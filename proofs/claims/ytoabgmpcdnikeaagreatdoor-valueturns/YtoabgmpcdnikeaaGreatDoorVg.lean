/- A value as a text and as a number: the program's asText, asNumber. -/
import Derived.Test.YtoabgmpcdnikeaaGreatDoorVf
namespace Go.Proofs.YtoabgmpcdnikeaaGreatDoor
open Go.RowKit
set_option linter.unusedVariables false

/-- A value as it lies in memory, and what is known of its size. -/
structure VOk (w : World) (v : Vl) (a : Option Addr) : Prop where
  at_ : SsAt w a v.L
  len : v.L.length ≤ 4611686018427387904
  n0 : -9223372036854775808 ≤ v.n
  n1 : v.n ≤ 9223372036854775807
  ts : v.t.size ≤ 281474976710656
  ls : ∀ s ∈ v.L, s.size ≤ 281474976710656
theorem VOk.bel {w w' : World} {v : Vl} {a : Option Addr} (h : VOk w v a) (hb : Below w.heap.size w w') : VOk w' v a := ⟨h.at_.bel hb, h.len, h.n0, h.n1, h.ts, h.ls⟩

theorem fint_any (w : World) (G : Gl w) (n : Int) (h0 : -9223372036854775808 ≤ n) (h1 : n ≤ 9223372036854775807) : Calls Tryz.prog 68 #[.int .i64 n, .int .i64 10] w fun e w' => e = .returned (.string ⟨(Lib.itoa n).toArray⟩) ∧ Below w.heap.size w w' := by
  refine (Tryz.strconv_FormatInt_10 n h0 h1 w G.pow).mono ?_
  rintro e w' ⟨rfl, k, os, rfl⟩
  exact ⟨rfl, Lib.below_grow _ _ (Nat.le_refl _) _ _⟩

theorem v_str {x y : ByteArray} (h : x = y) : Value.string x = Value.string y := by rw [h]

set_option maxRecDepth 100000 in
theorem astext_any (w : World) (G : Gl w) {k n : Int} {b no : Bool} {t : ByteArray} {a : Option Addr} {c : Nat} {L : List ByteArray} (h : VOk w ⟨k, b, n, no, t, L⟩ a) :
    Calls Tryz.prog 37 #[.agg #[.int .i64 k, .bool b, .int .i64 n, .bool no, .string t, .slice a L.length c]] w fun e w' => e = .returned (.string (txV k b n no t L)) ∧ Below w.heap.size w w' := by
  obtain ⟨z, HZ⟩ : ∃ z, Hid (txV k b n no t L = z) := ⟨_, rfl⟩
  rw [HZ.out]
  obtain ⟨W, hW⟩ : ∃ W, (w.alloc (.cells #[.int .i64 k, .bool b, .int .i64 n, .bool no, .string t, .slice a L.length c] 24)) = W := ⟨_, rfl⟩
  have hbW : Below w.heap.size w W := by rw [← hW]; exact (Below.refl _ _).alloc (Nat.le_refl _) _
  have hx : IsCells W w.heap.size #[.int .i64 k, .bool b, .int .i64 n, .bool no, .string t, .slice a L.length c] := by rw [← hW]; exact isCells_new _ _ _
  have HW : Hid ((w.alloc (.cells #[.int .i64 k, .bool b, .int .i64 n, .bool no, .string t, .slice a L.length c] 24)) = W ∧ Below w.heap.size w W) := ⟨hW, hbW⟩
  have x0 : W.cell? ⟨w.heap.size, 0, none⟩ = some (.int .i64 k) := hx.cell 0
  have x1 : W.cell? ⟨w.heap.size, 1, none⟩ = some (.bool b) := hx.cell 1
  have x2 : W.cell? ⟨w.heap.size, 2, none⟩ = some (.int .i64 n) := hx.cell 2
  have x3 : W.cell? ⟨w.heap.size, 3, none⟩ = some (.bool no) := hx.cell 3
  have x4 : W.cell? ⟨w.heap.size, 4, none⟩ = some (.string t) := hx.cell 4
  have x5 : W.cell? ⟨w.heap.size, 5, none⟩ = some (.slice a L.length c) := hx.cell 5
  have HH : Hid (VOk w ⟨k, b, n, no, t, L⟩ a ∧ Gl w ∧ w.heap.size < W.heap.size) := ⟨h, G, hx.lt⟩
  clear h G hx hbW hW
  by_cases h1 : k = 1
  · subst h1
    have hf := formatBool_any W b
    have HE : Hid ((⟨if b then #[116, 114, 117, 101] else #[102, 97, 108, 115, 101]⟩ : ByteArray) = z) := HZ.out
    rw [HE.out] at hf
    go_enter Tryz.func37, Tryz.ntmps37
    go_wp2_with fail
    rw [HW.out.1]
    go_wp2_with fail
    with_reducible refine hf.mono ?_
    rintro e w' ⟨rfl, rfl⟩
    go_wp2
    go_ret
    exact ⟨rfl, HW.out.2⟩
  by_cases h2 : k = 2
  · subst h2
    cases no with
    | true =>
      have HE : z = ⟨#[78, 97, 78]⟩ := HZ.out.symm
      subst HE
      go_enter Tryz.func37, Tryz.ntmps37
      go_wp2
      go_ret
      exact ⟨rfl, (Below.refl _ _).alloc (Nat.le_refl _) _⟩
    | false =>
      have hf := fint_any W (HH.out.2.1.bel HW.out.2) n HH.out.1.n0 HH.out.1.n1
      have HE : Hid ((⟨(Lib.itoa n).toArray⟩ : ByteArray) = z) := HZ.out
      rw [HE.out] at hf
      go_enter Tryz.func37, Tryz.ntmps37
      go_wp2_with fail
      rw [HW.out.1]
      go_wp2_with fail
      with_reducible refine hf.mono ?_
      rintro e w' ⟨rfl, hb⟩
      have HB : Hid (Below w.heap.size w w') := HW.out.2.trans (hb.mono HW.out.2.size)
      clear hb
      go_wp2
      go_ret
      exact ⟨rfl, HB.out⟩
  by_cases h3 : k = 3
  · subst h3
    have HE : z = t := HZ.out.symm
    subst HE
    go_enter Tryz.func37, Tryz.ntmps37
    go_wp2
    go_ret
    exact ⟨rfl, (Below.refl _ _).alloc (Nat.le_refl _) _⟩
  · have q1 : (k == 1) = false := by simpa using h1
    have q2 : (k == 2) = false := by simpa using h2
    have q3 : (k == 3) = false := by simpa using h3
    have HQ : Hid (L.headD ⟨#[]⟩ = z) := by show _ = _; rw [← HZ.out]; simp [txV, h1, h2, h3]
    clear h1 h2 h3 HZ
    cases L with
    | nil =>
      have HE : z = ⟨#[]⟩ := HQ.out.symm
      subst HE
      go_enter Tryz.func37, Tryz.ntmps37
      go_wp2
      go_ret
      exact ⟨rfl, (Below.refl _ _).alloc (Nat.le_refl _) _⟩
    | cons s r =>
      have HE : z = s := HQ.out.symm
      subst HE
      obtain ⟨bb, o, rfl, hb, hcell⟩ := HH.out.1.at_ 0 z rfl
      simp only [Nat.add_zero] at hcell
      have l0 : (0 : Int) < ((z :: r).length : Int) := by simp only [List.length_cons]; omega
      have l1 : (((z :: r).length : Int) == 0) = false := by rw [beq_eq_false_iff_ne]; omega
      have l2 : 0 < (z :: r).length := by simp
      have l3 : ((z :: r).length == 0) = false := by simp
      clear x0 x1 x2 x3 x4 x5 HW HQ HH
      generalize (z :: r).length = m at *
      go_enter Tryz.func37, Tryz.ntmps37
      go_wp2
      go_ret
      exact ⟨rfl, (Below.refl _ _).alloc (Nat.le_refl _) _⟩

end Go.Proofs.YtoabgmpcdnikeaaGreatDoor
