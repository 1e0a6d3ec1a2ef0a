/- What the document's At and First answer. -/
import Derived.Test.YtoabgmpcdnikeaaGreatDoorFirst
import Derived.Test.YtoabgmpcdnikeaaGreatDoorBytes
namespace Go.Proofs.YtoabgmpcdnikeaaGreatDoor
open Go.RowKit
set_option linter.unusedVariables false

/-- What At answers of what is there from the place on. -/
def aans (l : List UInt8) : Int × Int :=
  match first l with
  | none => (0, 0)
  | some (r, n) => ((r : Int), (n : Int))

theorem get_list {s : ByteArray} {a : Nat} (h : a < s.size) : ∃ h' : a < s.data.toList.length, s.data.toList[a] = s[a]'h :=
  ⟨by rw [size_list]; exact h, by simp [ByteArray.getElem_eq_getElem_data]⟩

set_option maxRecDepth 100000 in
set_option maxHeartbeats 1000000 in
theorem at_none (w : World) (s : ByteArray) (a : Nat) (ha : a < s.size) (hsz : s.size < 1152921504606846976) (r0 n : Nat) (hl : lead (s[a]'ha).toNat = (r0, n)) (hn : n = 0 ∨ s.size < a + n) (hn4 : n ≤ 4) :
    Calls Tryz.prog 88 #[.string s, .int .i64 (a : Int)] w fun e w' => e = .returned (.tuple #[.int .i64 0, .int .i64 0]) ∧ w' = w := by
  have hb0 := rsize_any w (s[a]'ha).toNat (s[a]'ha).toNat_lt
  rw [hl] at hb0
  clear hl
  by_cases hz : n = 0
  · subst hz
    clear hn
    go_enter Tryz.func88, Tryz.ntmps88
    go_wp2_with fail
    refine hb0.mono ?_
    rintro e w' ⟨rfl, rfl⟩
    go_wp2
    go_ret2
    exact ⟨rfl, rfl⟩
  · have hn0' : ((n : Int) == 0) = false := beq_eq_false_iff_ne.2 (by omega)
    have hn' : s.size < a + n := by omega
    clear hn
    go_enter Tryz.func88, Tryz.ntmps88
    go_wp2_with fail
    refine hb0.mono ?_
    rintro e w' ⟨rfl, rfl⟩
    go_wp2
    go_ret2
    exact ⟨rfl, rfl⟩

set_option maxRecDepth 100000 in
set_option maxHeartbeats 1000000 in
theorem at_walk (w : World) (s : ByteArray) (a : Nat) (ha : a < s.size) (hsz : s.size < 1152921504606846976) (r0 n : Nat) (hl : lead (s[a]'ha).toNat = (r0, n)) (hn0 : 1 ≤ n) (hn : a + n ≤ s.size) (hn4 : n ≤ 4) (hr0 : r0 < 128)
    (c : List UInt8) (hcl : c = (s.data.toList.drop (a + 1)).take (n - 1)) (a1 a2 : Int)
    (hbad : c.all cont = false → a1 = 0 ∧ a2 = 0)
    (hgood : c.all cont = true → n = size (val r0 c) → Ch (val r0 c) → a1 = val r0 c ∧ a2 = n)
    (hno : c.all cont = true → ¬ (n = size (val r0 c) ∧ Ch (val r0 c)) → a1 = 0 ∧ a2 = 0) :
    Calls Tryz.prog 88 #[.string s, .int .i64 (a : Int)] w fun e w' => e = .returned (.tuple #[.int .i64 a1, .int .i64 a2]) ∧ Below w.heap.size w w' := by
  have hb0 := rsize_any w (s[a]'ha).toNat (s[a]'ha).toNat_lt
  rw [hl] at hb0
  have hclen : c.length = n - 1 := by rw [hcl, List.length_take, List.length_drop, size_list]; omega
  have hn0' : ((n : Int) == 0) = false := beq_eq_false_iff_ne.2 (by omega)
  have HC : Hid (∀ j (hj : j < c.length) (h : a + (j + 1) < s.size), c[j] = s[a + (j + 1)]'h) := by
    intro j hj h
    obtain ⟨h1, h2⟩ := get_list h
    rw [← h2]
    subst hcl
    simp [List.getElem_take, List.getElem_drop, Nat.add_assoc, Nat.add_comm 1 j]
  have HB : Hid (c.all cont = false → a1 = 0 ∧ a2 = 0) := hbad
  have HG : Hid (c.all cont = true → n = size (val r0 c) → Ch (val r0 c) → a1 = val r0 c ∧ a2 = n) := hgood
  have HN : Hid (c.all cont = true → ¬ (n = size (val r0 c) ∧ Ch (val r0 c)) → a1 = 0 ∧ a2 = 0) := hno
  clear hl hbad hgood hno hcl
  go_enter Tryz.func88, Tryz.ntmps88
  go_wp2_with fail
  refine hb0.mono ?_
  rintro e w' ⟨rfl, rfl⟩
  go_wp2
  go_loop [7, 8] (fun v5 v30 => ∃ i r : Nat, i ≤ n - 1 ∧ v5 = .int .i64 (r : Int) ∧ v30 = .int .i64 ((i : Int) + 1) ∧ Hid (r = val r0 (c.take i)) ∧ Hid ((c.take i).all cont = true) ∧ Hid (r < 128 * 64 ^ i)) (fun _ v30 => n + 1 - (intOf v30).toNat)
  case atStart => exact ⟨0, r0, by omega, rfl, rfl, rfl, rfl, by show r0 < 128 * 64 ^ 0; simpa using hr0⟩
  case round =>
    obtain ⟨i, r, hi, rfl, rfl, hr, hall, hrb⟩ := hrel
    by_cases hlt : i < n - 1
    · have hin : a + (i + 1) < s.size := by omega
      have hci := HC.out i (by omega) hin
      generalize hx : (s[a + (i + 1)]'hin).toNat = x
      have hx256 : x < 256 := by rw [← hx]; exact UInt8.toNat_lt _
      have hrs : r < 524288 := by
        have h1 := hrb.out
        have h2 : (64:Nat) ^ i ≤ 64 ^ 2 := Nat.pow_le_pow_right (by omega) (by omega)
        omega
      have hlt1 : (i : Int) + 1 < (n : Int) := by omega
      have htake : c.take (i + 1) = c.take i ++ [c[i]'(by omega)] := by rw [List.take_add_one, List.getElem?_eq_getElem (by omega)]; rfl
      by_cases hct : 128 ≤ x ∧ x < 192
      · have hc1 : 128 ≤ x := hct.1
        have hc2 : x < 192 := hct.2
        clear HB HG HN
        go_wp2
        go_round
        case rel =>
          refine ⟨i + 1, r * 64 + x % 64, by omega, congrArg _ (by omega), by go_num, ?_, ?_, ?_⟩
          · show r * 64 + x % 64 = val r0 (c.take (i + 1))
            rw [htake, val_snoc, ← hr.out, hci, hx]
          · show (c.take (i + 1)).all cont = true
            rw [htake, List.all_append, hall.out]
            simp [cont, hci, hx, hct]
          · show r * 64 + x % 64 < 128 * 64 ^ (i + 1)
            have := hrb.out
            rw [Nat.pow_succ]
            omega
        case measure => simp [intOf]; omega
      · have hfin := HB.out (by
          rw [List.all_eq_false]
          exact ⟨c[i]'(by omega), List.getElem_mem _, by simp [cont, hci, hx, hct]⟩)
        obtain ⟨e1, e2⟩ := hfin
        clear HB HG HN hrb
        rcases Nat.lt_or_ge x 128 with hc1 | hc1
        · go_wp2
          go_ret2
          exact ⟨congrArg _ (v_two (by omega) (by omega)), Below.refl _ _⟩
        · have hc2 : 192 ≤ x := by omega
          go_wp2
          go_ret2
          exact ⟨congrArg _ (v_two (by omega) (by omega)), Below.refl _ _⟩
    · have hie : i = n - 1 := by omega
      have hct : c.take i = c := by rw [hie, ← hclen]; simp
      rw [hct] at hr hall
      have hch := rchar_any w' (r : Int)
      rw [charB_nat] at hch
      have hrv : r = val r0 c := hr
      have hall' : c.all cont = true := hall
      have HG2 := HG.out hall'
      have HN2 := HN.out hall'
      rw [← hrv] at HG2 HN2
      clear HG HN HB hr hall hrb hrv HC
      have hgt : (n : Int) ≤ (i : Int) + 1 := by omega
      by_cases h2 : Ch r
      · have hd : decide (Ch r) = true := by simpa using h2
        rw [hd] at hch
        have hby := rbytes_any w' r (by unfold Ch at h2; omega)
        have hsz : (⟨(enc r).toArray⟩ : ByteArray).size = size r := by
          rw [← enc_length]
          simp [ByteArray.size]
        generalize (⟨(enc r).toArray⟩ : ByteArray) = S at hby hsz
        by_cases h1 : n = size r
        · obtain ⟨e1, e2⟩ := HG2 h1 h2
          have hnn : ((S.size : Int) != (n : Int)) = false := by rw [hsz, h1]; simp
          clear HG2 HN2
          go_wp2_with fail
          refine hch.mono ?_
          rintro e w2 ⟨rfl, rfl⟩
          go_wp2_with fail
          refine hby.mono ?_
          rintro e w3 ⟨rfl, hbel⟩
          go_wp2
          go_ret2
          exact ⟨congrArg _ (v_two (by omega) (by omega)), hbel⟩
        · obtain ⟨e1, e2⟩ := HN2 (by simp [h1])
          have hnn : ((S.size : Int) != (n : Int)) = true := bne_iff_ne.2 (by omega)
          clear HG2 HN2
          go_wp2_with fail
          refine hch.mono ?_
          rintro e w2 ⟨rfl, rfl⟩
          go_wp2_with fail
          refine hby.mono ?_
          rintro e w3 ⟨rfl, hbel⟩
          go_wp2
          go_ret2
          exact ⟨congrArg _ (v_two (by omega) (by omega)), hbel⟩
      · obtain ⟨e1, e2⟩ := HN2 (by simp [h2])
        have hd : decide (Ch r) = false := by simpa using h2
        rw [hd] at hch
        clear HG2 HN2
        go_wp2_with fail
        refine hch.mono ?_
        rintro e w2 ⟨rfl, rfl⟩
        go_wp2
        go_ret2
        exact ⟨congrArg _ (v_two (by omega) (by omega)), Below.refl _ _⟩

theorem drop_get {s : ByteArray} {a : Nat} (h : a < s.size) : s.data.toList.drop a = (s[a]'h) :: s.data.toList.drop (a + 1) := by
  obtain ⟨h1, h2⟩ := get_list h
  rw [← h2, ← List.drop_eq_getElem_cons h1]

theorem at_any (w : World) (s : ByteArray) (a : Nat) (ha : a < s.size) (hsz : s.size < 1152921504606846976) :
    Calls Tryz.prog 88 #[.string s, .int .i64 (a : Int)] w fun e w' => e = .returned (.tuple #[.int .i64 (aans (s.data.toList.drop a)).1, .int .i64 (aans (s.data.toList.drop a)).2]) ∧ Below w.heap.size w w' := by
  rw [drop_get ha]
  generalize hb : s[a]'ha = b
  have hlead := lead_is b.toNat
  have htl : (s.data.toList.drop (a + 1)).length = s.size - (a + 1) := by rw [List.length_drop, size_list]
  by_cases hn : (lead b.toNat).2 = 0 ∨ s.size < a + (lead b.toNat).2
  · have hf : first (b :: s.data.toList.drop (a + 1)) = none := by
      simp only [first, List.length_cons, htl]
      rw [if_pos (by omega)]
    simp only [aans, hf]
    refine (at_none w s a ha hsz (lead b.toNat).1 (lead b.toNat).2 (by rw [hb]) hn (by omega)).mono ?_
    rintro e w' ⟨rfl, rfl⟩
    exact ⟨rfl, Below.refl _ _⟩
  · have hf : first (b :: s.data.toList.drop (a + 1)) = if ((s.data.toList.drop (a + 1)).take ((lead b.toNat).2 - 1)).all cont = true then
        (if (lead b.toNat).2 = size (val (lead b.toNat).1 ((s.data.toList.drop (a + 1)).take ((lead b.toNat).2 - 1))) ∧ Ch (val (lead b.toNat).1 ((s.data.toList.drop (a + 1)).take ((lead b.toNat).2 - 1))) then some (val (lead b.toNat).1 ((s.data.toList.drop (a + 1)).take ((lead b.toNat).2 - 1)), (lead b.toNat).2) else none)
      else none := by
      simp only [first, List.length_cons, htl]
      rw [if_neg (by omega)]
    refine at_walk w s a ha hsz (lead b.toNat).1 (lead b.toNat).2 (by rw [hb]) (by omega) (by omega) (by omega) (by omega) ((s.data.toList.drop (a + 1)).take ((lead b.toNat).2 - 1)) rfl _ _ ?_ ?_ ?_
    · intro h
      simp [aans, hf, h]
    · intro h1 h2 h3
      rw [if_pos h1, if_pos ⟨h2, h3⟩] at hf
      simp [aans, hf]
    · intro h1 h2
      rw [if_pos h1, if_neg h2] at hf
      simp [aans, hf]

end Go.Proofs.YtoabgmpcdnikeaaGreatDoor
