/- What the document's At and First answer. -/
import Derived.Test.YtmifejkddgcbmabGreatA02
import Derived.Lib.OthersKept
namespace Go.Proofs.YtmifejkddgcbmabGreat
open Go.RowKit
set_option linter.unusedVariables false
set_option linter.unusedSimpArgs false

/-- What At answers of what is there from the place on. -/
def aans (l : List UInt8) : Int × Int :=
  match first l with
  | none => (0, 0)
  | some (r, n) => ((r : Int), (n : Int))

theorem get_list {s : ByteArray} {a : Nat} (h : a < s.size) : ∃ h' : a < s.data.toList.length, s.data.toList[a] = s[a]'h :=
  ⟨by rw [size_list]; exact h, by simp [ByteArray.getElem_eq_getElem_data]⟩

set_option maxRecDepth 100000 in
set_option maxHeartbeats 1000000 in
theorem at_none (w : World) (s : ByteArray) (a : Nat) (ha : a < s.size) (hsz : s.size < 1152921504606846976) (r0 n : Nat) (hl : lead (s[a]'ha).toNat = (r0, n)) (hn : n = 0 ∨ s.size < a + n) (hn4 : n ≤ 4) :
    Calls Tryz.prog 103 #[.string s, .int .i64 (a : Int)] w fun e w' => e = .returned (.tuple #[.int .i64 0, .int .i64 0]) ∧ w' = w := by
  have hb0 := rsize_any w (s[a]'ha).toNat (s[a]'ha).toNat_lt
  rw [hl] at hb0
  clear hl
  by_cases hz : n = 0
  · subst hz
    clear hn
    go_enter Tryz.func103, Tryz.ntmps103
    go_wp2_with fail
    refine hb0.mono ?_
    rintro e w' ⟨rfl, rfl⟩
    go_wp2
    go_ret2
    exact ⟨rfl, rfl⟩
  · have hn0' : ((n : Int) == 0) = false := beq_eq_false_iff_ne.2 (by omega)
    have hn' : s.size < a + n := by omega
    clear hn
    go_enter Tryz.func103, Tryz.ntmps103
    go_wp2_with fail
    refine hb0.mono ?_
    rintro e w' ⟨rfl, rfl⟩
    go_wp2
    go_ret2
    exact ⟨rfl, rfl⟩

set_option maxRecDepth 100000 in
set_option maxHeartbeats 1000000 in
theorem at_walk (w : World) (s : ByteArray) (a : Nat) (ha : a < s.size) (hsz : s.size < 1152921504606846976) (r0 n : Nat) (hl : lead (s[a]'ha).toNat = (r0, n)) (hn0 : 1 ≤ n) (hn : a + n ≤ s.size) (hn4 : n ≤ 4) (hr0 : r0 < 128)
    (c : List UInt8) (hcl : c = (s.data.toList.drop (a + 1)).take (n - 1)) (a1 a2 : Int)
    (hbad : c.all cont = false → a1 = 0 ∧ a2 = 0)
    (hgood : c.all cont = true → n = size (val r0 c) → Ch (val r0 c) → a1 = val r0 c ∧ a2 = n)
    (hno : c.all cont = true → ¬ (n = size (val r0 c) ∧ Ch (val r0 c)) → a1 = 0 ∧ a2 = 0) :
    Calls Tryz.prog 103 #[.string s, .int .i64 (a : Int)] w fun e w' => e = .returned (.tuple #[.int .i64 a1, .int .i64 a2]) ∧ Below w.heap.size w w' := by
  have hb0 := rsize_any w (s[a]'ha).toNat (s[a]'ha).toNat_lt
  rw [hl] at hb0
  have hclen : c.length = n - 1 := by rw [hcl, List.length_take, List.length_drop, size_list]; omega
  have hn0' : ((n : Int) == 0) = false := beq_eq_false_iff_ne.2 (by omega)
  have HC : Hid (∀ j (hj : j < c.length) (h : a + (j + 1) < s.size), c[j] = s[a + (j + 1)]'h) := by
    intro j hj h
    obtain ⟨h1, h2⟩ := get_list h
    rw [← h2]
    subst hcl
    simp [List.getElem_take, List.getElem_drop, Nat.add_assoc, Nat.add_comm 1 j]
  have HB : Hid (c.all cont = false → a1 = 0 ∧ a2 = 0) := hbad
  have HG : Hid (c.all cont = true → n = size (val r0 c) → Ch (val r0 c) → a1 = val r0 c ∧ a2 = n) := hgood
  have HN : Hid (c.all cont = true → ¬ (n = size (val r0 c) ∧ Ch (val r0 c)) → a1 = 0 ∧ a2 = 0) := hno
  clear hl hbad hgood hno hcl
  go_enter Tryz.func103, Tryz.ntmps103
  go_wp2_with fail
  refine hb0.mono ?_
  rintro e w' ⟨rfl, rfl⟩
  go_wp2
  go_loop [7, 8] (fun v5 v30 => ∃ i r : Nat, i ≤ n - 1 ∧ v5 = .int .i64 (r : Int) ∧ v30 = .int .i64 ((i : Int) + 1) ∧ Hid (r = val r0 (c.take i)) ∧ Hid ((c.take i).all cont = true) ∧ Hid (r < 128 * 64 ^ i)) (fun _ v30 => n + 1 - (intOf v30).toNat)
  case atStart => exact ⟨0, r0, by omega, rfl, rfl, rfl, rfl, by show r0 < 128 * 64 ^ 0; simpa using hr0⟩
  case round =>
    obtain ⟨i, r, hi, rfl, rfl, hr, hall, hrb⟩ := hrel
    by_cases hlt : i < n - 1
    · have hin : a + (i + 1) < s.size := by omega
      have hci := HC.out i (by omega) hin
      generalize hx : (s[a + (i + 1)]'hin).toNat = x
      have hx256 : x < 256 := by rw [← hx]; exact UInt8.toNat_lt _
      have hrs : r < 524288 := by
        have h1 := hrb.out
        have h2 : (64:Nat) ^ i ≤ 64 ^ 2 := Nat.pow_le_pow_right (by omega) (by omega)
        omega
      have hlt1 : (i : Int) + 1 < (n : Int) := by omega
      have htake : c.take (i + 1) = c.take i ++ [c[i]'(by omega)] := by rw [List.take_add_one, List.getElem?_eq_getElem (by omega)]; rfl
      by_cases hct : 128 ≤ x ∧ x < 192
      · have hc1 : 128 ≤ x := hct.1
        have hc2 : x < 192 := hct.2
        clear HB HG HN
        go_wp2
        go_round
        case rel =>
          refine ⟨i + 1, r * 64 + x % 64, by omega, congrArg _ (by omega), by go_num, ?_, ?_, ?_⟩
          · show r * 64 + x % 64 = val r0 (c.take (i + 1))
            rw [htake, val_snoc, ← hr.out, hci, hx]
          · show (c.take (i + 1)).all cont = true
            rw [htake, List.all_append, hall.out]
            simp [cont, hci, hx, hct]
          · show r * 64 + x % 64 < 128 * 64 ^ (i + 1)
            have := hrb.out
            rw [Nat.pow_succ]
            omega
        case measure => simp [intOf]; omega
      · have hfin := HB.out (by
          rw [List.all_eq_false]
          exact ⟨c[i]'(by omega), List.getElem_mem _, by simp [cont, hci, hx, hct]⟩)
        obtain ⟨e1, e2⟩ := hfin
        clear HB HG HN hrb
        rcases Nat.lt_or_ge x 128 with hc1 | hc1
        · go_wp2
          go_ret2
          exact ⟨congrArg _ (v_two (by omega) (by omega)), Below.refl _ _⟩
        · have hc2 : 192 ≤ x := by omega
          go_wp2
          go_ret2
          exact ⟨congrArg _ (v_two (by omega) (by omega)), Below.refl _ _⟩
    · have hie : i = n - 1 := by omega
      have hct : c.take i = c := by rw [hie, ← hclen]; simp
      rw [hct] at hr hall
      have hch := rchar_any w' (r : Int)
      rw [charB_nat] at hch
      have hrv : r = val r0 c := hr
      have hall' : c.all cont = true := hall
      have HG2 := HG.out hall'
      have HN2 := HN.out hall'
      rw [← hrv] at HG2 HN2
      clear HG HN HB hr hall hrb hrv HC
      have hgt : (n : Int) ≤ (i : Int) + 1 := by omega
      by_cases h2 : Ch r
      · have hd : decide (Ch r) = true := by simpa using h2
        rw [hd] at hch
        have hby := rbytes_any w' r (by unfold Ch at h2; omega)
        have hsz : (⟨(enc r).toArray⟩ : ByteArray).size = size r := by
          rw [← enc_length]
          simp [ByteArray.size]
        generalize (⟨(enc r).toArray⟩ : ByteArray) = S at hby hsz
        by_cases h1 : n = size r
        · obtain ⟨e1, e2⟩ := HG2 h1 h2
          have hnn : ((S.size : Int) != (n : Int)) = false := by rw [hsz, h1]; simp
          clear HG2 HN2
          go_wp2_with fail
          refine hch.mono ?_
          rintro e w2 ⟨rfl, rfl⟩
          go_wp2_with fail
          refine hby.mono ?_
          rintro e w3 ⟨rfl, hbel⟩
          go_wp2
          go_ret2
          exact ⟨congrArg _ (v_two (by omega) (by omega)), hbel⟩
        · obtain ⟨e1, e2⟩ := HN2 (by simp [h1])
          have hnn : ((S.size : Int) != (n : Int)) = true := bne_iff_ne.2 (by omega)
          clear HG2 HN2
          go_wp2_with fail
          refine hch.mono ?_
          rintro e w2 ⟨rfl, rfl⟩
          go_wp2_with fail
          refine hby.mono ?_
          rintro e w3 ⟨rfl, hbel⟩
          go_wp2
          go_ret2
          exact ⟨congrArg _ (v_two (by omega) (by omega)), hbel⟩
      · obtain ⟨e1, e2⟩ := HN2 (by simp [h2])
        have hd : decide (Ch r) = false := by simpa using h2
        rw [hd] at hch
        clear HG2 HN2
        go_wp2_with fail
        refine hch.mono ?_
        rintro e w2 ⟨rfl, rfl⟩
        go_wp2
        go_ret2
        exact ⟨congrArg _ (v_two (by omega) (by omega)), Below.refl _ _⟩

theorem drop_get {s : ByteArray} {a : Nat} (h : a < s.size) : s.data.toList.drop a = (s[a]'h) :: s.data.toList.drop (a + 1) := by
  obtain ⟨h1, h2⟩ := get_list h
  rw [← h2, ← List.drop_eq_getElem_cons h1]

theorem at_any (w : World) (s : ByteArray) (a : Nat) (ha : a < s.size) (hsz : s.size < 1152921504606846976) :
    Calls Tryz.prog 103 #[.string s, .int .i64 (a : Int)] w fun e w' => e = .returned (.tuple #[.int .i64 (aans (s.data.toList.drop a)).1, .int .i64 (aans (s.data.toList.drop a)).2]) ∧ Below w.heap.size w w' := by
  rw [drop_get ha]
  generalize hb : s[a]'ha = b
  have hlead := lead_is b.toNat
  have htl : (s.data.toList.drop (a + 1)).length = s.size - (a + 1) := by rw [List.length_drop, size_list]
  by_cases hn : (lead b.toNat).2 = 0 ∨ s.size < a + (lead b.toNat).2
  · have hf : first (b :: s.data.toList.drop (a + 1)) = none := by
      simp only [first, List.length_cons, htl]
      rw [if_pos (by omega)]
    simp only [aans, hf]
    refine (at_none w s a ha hsz (lead b.toNat).1 (lead b.toNat).2 (by rw [hb]) hn (by omega)).mono ?_
    rintro e w' ⟨rfl, rfl⟩
    exact ⟨rfl, Below.refl _ _⟩
  · have hf : first (b :: s.data.toList.drop (a + 1)) = if ((s.data.toList.drop (a + 1)).take ((lead b.toNat).2 - 1)).all cont = true then
        (if (lead b.toNat).2 = size (val (lead b.toNat).1 ((s.data.toList.drop (a + 1)).take ((lead b.toNat).2 - 1))) ∧ Ch (val (lead b.toNat).1 ((s.data.toList.drop (a + 1)).take ((lead b.toNat).2 - 1))) then some (val (lead b.toNat).1 ((s.data.toList.drop (a + 1)).take ((lead b.toNat).2 - 1)), (lead b.toNat).2) else none)
      else none := by
      simp only [first, List.length_cons, htl]
      rw [if_neg (by omega)]
    refine at_walk w s a ha hsz (lead b.toNat).1 (lead b.toNat).2 (by rw [hb]) (by omega) (by omega) (by omega) (by omega) ((s.data.toList.drop (a + 1)).take ((lead b.toNat).2 - 1)) rfl _ _ ?_ ?_ ?_
    · intro h
      simp [aans, hf, h]
    · intro h1 h2 h3
      rw [if_pos h1, if_pos ⟨h2, h3⟩] at hf
      simp [aans, hf]
    · intro h1 h2
      rw [if_pos h1, if_neg h2] at hf
      simp [aans, hf]

end Go.Proofs.YtmifejkddgcbmabGreat

/- What Text answers, the program's and the document's. -/
namespace Go.Proofs.YtmifejkddgcbmabGreat
open Go.RowKit
set_option linter.unusedVariables false
set_option linter.unusedSimpArgs false

/-- What is wrong with a list of bytes, and where, however long it is. -/
def bans (l : List UInt8) : Int × Int := if (scan l).2 = [] then (0, 0) else (((bytes (scan l).1).length : Int), 7)
/-- What Text answers. -/
def tans (l : List UInt8) : Int × Int := if 16384 < l.length then (0, 2) else bans l

/-- From the beginning of a character on: the rest of the scan. -/
theorem scan_at {l : List UInt8} {a b : List Nat} (h : (scan l).1 = a ++ b) : l.drop (bytes a).length = bytes b ++ (scan l).2 := by
  have h1 := (scan_spec l).1
  rw [h, bytes_append, List.append_assoc] at h1
  have h2 : l.drop (bytes a).length = (bytes a ++ (bytes b ++ (scan l).2)).drop (bytes a).length := by rw [← h1]
  rw [h2]
  simp
theorem scan_le {l : List UInt8} {a b : List Nat} (h : (scan l).1 = a ++ b) : (bytes a).length + (bytes b).length + (scan l).2.length = l.length := by
  have h1 := (scan_spec l).1
  rw [h, bytes_append, List.append_assoc] at h1
  have h2 := congrArg List.length h1
  simp only [List.length_append] at h2
  omega

/-- Where a scan stands: either a character that can be begins, or none does, or the text ends. -/
theorem scan_step {l : List UInt8} {a b : List Nat} (h : (scan l).1 = a ++ b) (hp : (bytes a).length < l.length) :
    (∃ r b', b = r :: b' ∧ Ch r ∧ first (l.drop (bytes a).length) = some (r, (enc r).length) ∧ (scan l).1 = (a ++ [r]) ++ b' ∧ (bytes (a ++ [r])).length = (bytes a).length + (enc r).length ∧ (bytes a).length + (enc r).length ≤ l.length) ∨
    (b = [] ∧ first (l.drop (bytes a).length) = none ∧ (scan l).2 ≠ [] ∧ bans l = (((bytes a).length : Int), 7)) := by
  have h1 := scan_at h
  have h2 := scan_le h
  have h3 := scan_spec l
  cases b with
  | nil =>
    right
    rw [bytes_nil, List.nil_append] at h1
    have hne : (scan l).2 ≠ [] := by
      intro he
      rw [he, bytes_nil] at h2
      simp at h2
      omega
    refine ⟨rfl, by rw [h1]; exact h3.2.2, hne, ?_⟩
    rw [List.append_nil] at h
    rw [bans, if_neg hne, h]
  | cons r b' =>
    left
    have hr : Ch r := h3.2.1 r (by rw [h]; simp)
    rw [bytes_cons, List.append_assoc] at h1
    rw [bytes_cons, List.length_append] at h2
    refine ⟨r, b', rfl, hr, by rw [h1]; exact first_enc hr _, by rw [h]; simp, ?_, by omega⟩
    rw [bytes_append, List.length_append, bytes_cons, bytes_nil, List.append_nil]

theorem scan_end {l : List UInt8} {a b : List Nat} (h : (scan l).1 = a ++ b) (hp : ¬ (bytes a).length < l.length) : b = [] ∧ (scan l).2 = [] ∧ bans l = (0, 0) := by
  have h2 := scan_le h
  have hr : (scan l).2 = [] := List.length_eq_zero_iff.1 (by omega)
  refine ⟨?_, hr, by rw [bans, if_pos hr]⟩
  cases b with
  | nil => rfl
  | cons r b' =>
    rw [bytes_cons, List.length_append] at h2
    have := enc_pos r
    omega

theorem fans_of {l : List UInt8} {r n : Nat} (h : first l = some (r, n)) : fans l = ((r : Int), (n : Int), 0) := by
  cases l with
  | nil => simp [first] at h
  | cons b t => simp [fans, h]
theorem fans_no {l : List UInt8} (hl : 0 < l.length) (h : first l = none) : fans l = (0, 0, 7) := by
  cases l with
  | nil => simp at hl
  | cons b t => simp [fans, h]

set_option maxRecDepth 100000 in
set_option maxHeartbeats 1000000 in
theorem text_long (w : World) (s : ByteArray) (h : 16384 < s.size) :
    Calls Tryz.prog 54 #[.string s] w fun e w' => e = .returned (.tuple #[.int .i64 0, .int .i64 2]) ∧ w' = w := by
  go_enter Tryz.func54, Tryz.ntmps54
  go_wp2
  go_ret2
  exact ⟨rfl, rfl⟩

set_option maxRecDepth 100000 in
set_option maxHeartbeats 1000000 in
theorem text_walk (w : World) (s : ByteArray) (h : s.size ≤ 16384) (x y : Int) (hxy : bans s.data.toList = (x, y)) :
    Calls Tryz.prog 54 #[.string s] w fun e w' => e = .returned (.tuple #[.int .i64 x, .int .i64 y]) ∧ Below w.heap.size w w' := by
  have HX : Hid (bans s.data.toList = (x, y)) := hxy
  have hl := size_list s
  clear hxy
  go_enter Tryz.func54, Tryz.ntmps54
  go_wp2
  go_loopw [] (fun wr => ∃ (a b : List Nat), Hid ((scan s.data.toList).1 = a ++ b) ∧ wr.heap[w.heap.size]? = some (.stringIter s (bytes a).length) ∧ Hid (Below w.heap.size w wr)) (fun wr => s.size - wr.iterPos w.heap.size)
  case atStart =>
    refine ⟨[], (scan s.data.toList).1, rfl, ?_, ?_⟩
    · exact World.iter_heap w s 0
    · exact below_new w _
  case round =>
    obtain ⟨a, b, hab, hit, hbw⟩ := hrel
    have hszr : w.heap.size < wr.heap.size := (Array.getElem?_eq_some_iff.1 hit).1
    have hm0 : wr.iterPos w.heap.size = (bytes a).length := by simp only [World.iterPos, hit]
    by_cases hp : (bytes a).length < s.size
    · have hnx : ∀ ty, (Instr.next (.pointer (some ⟨w.heap.size, 0, none⟩)) true ty).run Tryz.prog wr = _ := fun ty => Lib.run_next_any_at wr w.heap.size s (bytes a).length ty hit hp
      have hit1 := Lib.iterAt_heap wr w.heap.size s (bytes a).length ((bytes a).length + (Utf8.decode s (bytes a).length).2) hit
      have hbw1 : Hid (Below w.heap.size w (wr.iterAt w.heap.size s ((bytes a).length + (Utf8.decode s (bytes a).length).2))) := Lib.below_iterAt hbw.out (Nat.le_refl _) s _
      have hsz1 := Lib.iterAt_size wr w.heap.size s ((bytes a).length + (Utf8.decode s (bytes a).length).2)
      have hfi := first_any (wr.iterAt w.heap.size s ((bytes a).length + (Utf8.decode s (bytes a).length).2)) (s.extract (bytes a).length s.size)
      have hex : (s.extract (bytes a).length s.size).data.toList = s.data.toList.drop (bytes a).length := by
        rw [Lib.extract_data, List.take_of_length_le]
        rw [List.length_drop, hl]
        exact Nat.le_refl _
      have hdl : (s.data.toList.drop (bytes a).length).length = s.size - (bytes a).length := by rw [List.length_drop, hl]
      rw [hex, hsz1] at hfi
      have hst := scan_step hab.out (by rw [hl]; exact hp)
      rcases hst with ⟨r, b', rfl, hr, hf, hsc, hlen, hle⟩ | ⟨rfl, hf, hne, hans⟩
      · have hdec : Utf8.decode s (bytes a).length = (r, (enc r).length) := by
          obtain ⟨_, _, t, ht⟩ := first_some hf
          exact decode_enc hr ht
        rw [fans_of hf] at hfi
        rw [hdec] at hnx hit1 hbw1 hfi
        rw [← hlen] at hnx hit1 hbw1 hfi
        have HSC : Hid ((scan s.data.toList).1 = (a ++ [r]) ++ b') := hsc
        have hpl : (bytes a).length < (bytes (a ++ [r])).length := by have := enc_pos r; omega
        generalize wr.iterAt w.heap.size s (bytes (a ++ [r])).length = W1 at *
        clear hab hf hsc hdec hex HX hbw hle hlen
        generalize hq : (bytes a).length = q at *
        clear hq
        go_wp2_with fail
        refine hfi.mono ?_
        rintro e W2 ⟨rfl, hb2⟩
        have hit2 : W2.heap[w.heap.size]? = some (.stringIter s (bytes (a ++ [r])).length) := by rw [hb2.block w.heap.size hszr]; exact hit1
        go_wp2
        go_roundw
        case rel => exact ⟨a ++ [r], b', HSC, hit2, hbw1.out.trans (hb2.mono (by omega))⟩
        case measure =>
          simp only [World.iterPos, hit2, hit]
          omega
      · rw [fans_no (by omega) hf] at hfi
        have hxy : x = ((bytes a).length : Int) ∧ y = 7 := by
          have := HX.out
          rw [hans] at this
          simp only [Prod.mk.injEq] at this
          omega
        obtain ⟨hx1, hy1⟩ := hxy
        clear hab hf hex hbw HX hans hne
        generalize wr.iterAt w.heap.size s ((bytes a).length + (Utf8.decode s (bytes a).length).2) = W1 at *
        generalize hq : (bytes a).length = q at *
        clear hq
        go_wp2_with fail
        refine hfi.mono ?_
        rintro e W2 ⟨rfl, hb2⟩
        go_wp2
        go_ret2
        exact ⟨congrArg _ (v_two hx1.symm hy1.symm), hbw1.out.trans (hb2.mono (by omega))⟩
    · have hnx : ∀ ty, (Instr.next (.pointer (some ⟨w.heap.size, 0, none⟩)) true ty).run Tryz.prog wr = _ := fun ty => Lib.run_next_end_at wr w.heap.size s (bytes a).length ty hit hp
      have he := (scan_end hab.out (by rw [hl]; exact hp)).2.2
      have hxy : x = 0 ∧ y = 0 := by
        have := HX.out
        rw [he] at this
        simp only [Prod.mk.injEq] at this
        omega
      obtain ⟨rfl, rfl⟩ := hxy
      clear hab HX he
      go_wp2
      go_ret2
      exact ⟨rfl, hbw.out⟩

theorem text_any (w : World) (s : ByteArray) :
    Calls Tryz.prog 54 #[.string s] w fun e w' => e = .returned (.tuple #[.int .i64 (tans s.data.toList).1, .int .i64 (tans s.data.toList).2]) ∧ Below w.heap.size w w' := by
  have hl := size_list s
  by_cases h : 16384 < s.size
  · rw [tans, if_pos (by omega)]
    refine (text_long w s h).mono ?_
    rintro e w' ⟨rfl, rfl⟩
    exact ⟨rfl, Below.refl _ _⟩
  · rw [tans, if_neg (by omega)]
    exact text_walk w s (by omega) _ _ rfl

end Go.Proofs.YtmifejkddgcbmabGreat

/- References in plain words: a number's digits, a name, what stands at a place, the whole text read. -/
namespace Go.Proofs.YtmifejkddgcbmabGreat
set_option linter.unusedVariables false
set_option linter.unusedSimpArgs false

/-- What a digit counts; 16: it is none. -/
def dig (b : Nat) : Nat := if 48 ≤ b ∧ b ≤ 57 then b - 48 else if 97 ≤ b ∧ b ≤ 102 then b - 87 else if 65 ≤ b ∧ b ≤ 70 then b - 55 else 16
theorem dig_is (b : Nat) : (48 ≤ b ∧ b ≤ 57 ∧ dig b = b - 48) ∨ (97 ≤ b ∧ b ≤ 102 ∧ dig b = b - 87) ∨ (65 ≤ b ∧ b ≤ 70 ∧ dig b = b - 55) ∨ (¬ (48 ≤ b ∧ b ≤ 57) ∧ ¬ (97 ≤ b ∧ b ≤ 102) ∧ ¬ (65 ≤ b ∧ b ≤ 70) ∧ dig b = 16) := by
  unfold dig
  split
  · omega
  · split
    · omega
    · split <;> omega

/-- A number's digits from the i-th on (r: what those ahead count), and the ; behind them: the number, how many bytes it has with 'off' ahead, what is wrong. -/
def num (base most off : Nat) : Nat → Nat → List UInt8 → Int × Int × Int
  | _, _, [] => (0, 0, 4)
  | i, r, b :: t => if b.toNat = 59 ∧ 0 < i then ((r : Int), ((off + i + 1 : Nat) : Int), 0) else if base ≤ dig b.toNat ∨ i = most then (0, 0, 20) else num base most off (i + 1) (r * base + dig b.toNat) t

def nms : List (List UInt8 × Nat) := [([38, 97, 109, 112, 59], 38), ([38, 108, 116, 59], 60), ([38, 103, 116, 59], 62), ([38, 113, 117, 111, 116, 59], 34), ([38, 97, 112, 111, 115, 59], 39)]
def namedF : List (List UInt8 × Nat) → List UInt8 → Int × Int × Int
  | [], _ => (0, 0, 20)
  | (x, r) :: t, l => if x.isPrefixOf l = true then ((r : Int), (x.length : Int), 0) else if l.isPrefixOf x = true then (0, 0, 4) else namedF t l

/-- The reference with which a list of bytes begins; whether its character can be is not asked. -/
def refP (l : List UInt8) : Int × Int × Int :=
  if ([38, 35, 120] : List UInt8).isPrefixOf l = true then num 16 6 3 0 0 (l.drop 3) else if ([38, 35] : List UInt8).isPrefixOf l = true then num 10 7 2 0 0 (l.drop 2) else namedF nms l

def chkC (p : Int × Int × Int) : Int × Int × Int := if p.2.2 = 0 ∧ charB p.1 = false then (0, 0, 7) else p

/-- What stands at the beginning: a character, itself or as a reference. -/
def nextP (l : List UInt8) : Int × Int × Int :=
  match l with
  | [] => (0, 0, 4)
  | b :: _ => if b.toNat = 38 then chkC (refP l) else fans l

/-- What comes of a text: what is read (acc) up to a place (pos), the rest. -/
def unF : Nat → List UInt8 → List UInt8 → Nat → List UInt8 × Int × Int
  | 0, _, acc, _ => (acc, 0, 0)
  | k + 1, l, acc, pos =>
    if l = [] then (acc, 0, 0)
    else if (nextP l).2.2 ≠ 0 then ([], (pos : Int), (nextP l).2.2)
    else if 16384 < acc.length + size (nextP l).1.toNat then ([], (pos : Int), 2)
    else unF k (l.drop (nextP l).2.1.toNat) (acc ++ enc (nextP l).1.toNat) (pos + (nextP l).2.1.toNat)
/-- What Unescape answers. -/
def uans (l : List UInt8) : List UInt8 × Int × Int := unF l.length l [] 0

theorem num_ok (base most off : Nat) (t : List UInt8) : ∀ i r : Nat, (num base most off i r t).2.2 = 0 → ∃ (R j : Nat), num base most off i r t = ((R : Int), ((off + j + 1 : Nat) : Int), 0) ∧ i ≤ j ∧ j - i + 1 ≤ t.length := by
  induction t with
  | nil => intro i r h; simp [num] at h
  | cons b t ih =>
    intro i r h
    rw [num] at h ⊢
    split
    · rename_i h1
      exact ⟨r, i, rfl, Nat.le_refl _, by simp⟩
    · rename_i h1
      rw [if_neg h1] at h
      split
      · rename_i h2
        rw [if_pos h2] at h
        simp at h
      · rename_i h2
        rw [if_neg h2] at h
        obtain ⟨R, j, e1, e2, e3⟩ := ih (i + 1) _ h
        exact ⟨R, j, e1, by omega, by simp; omega⟩

theorem isPre {x l : List UInt8} (h : x.isPrefixOf l = true) : x.length ≤ l.length := by
  obtain ⟨t, rfl⟩ := List.isPrefixOf_iff_prefix.1 h
  simp

theorem namedF_ok (l : List UInt8) : ∀ ns : List (List UInt8 × Nat), (∀ p ∈ ns, 1 ≤ p.1.length) → (namedF ns l).2.2 = 0 → ∃ R n : Nat, namedF ns l = ((R : Int), (n : Int), 0) ∧ 1 ≤ n ∧ n ≤ l.length := by
  intro ns
  induction ns with
  | nil => intro _ h; simp [namedF] at h
  | cons p ns ih =>
    obtain ⟨x, r⟩ := p
    intro hp h
    rw [namedF] at h ⊢
    split
    · rename_i h1
      exact ⟨r, x.length, rfl, hp (x, r) (by simp), isPre h1⟩
    · rename_i h1
      rw [if_neg h1] at h
      split
      · rename_i h2
        rw [if_pos h2] at h
        simp at h
      · rename_i h2
        rw [if_neg h2] at h
        exact ih (fun p hp' => hp p (by simp [hp'])) h

theorem refP_ok {l : List UInt8} (h : (refP l).2.2 = 0) : ∃ R n : Nat, refP l = ((R : Int), (n : Int), 0) ∧ 1 ≤ n ∧ n ≤ l.length := by
  unfold refP at h ⊢
  split
  · rename_i h1
    rw [if_pos h1] at h
    have hl := isPre h1
    simp at hl
    obtain ⟨R, j, e1, e2, e3⟩ := num_ok 16 6 3 _ 0 0 h
    rw [List.length_drop] at e3
    exact ⟨R, _, e1, by omega, by omega⟩
  · rename_i h1
    rw [if_neg h1] at h
    split
    · rename_i h2
      rw [if_pos h2] at h
      have hl := isPre h2
      simp at hl
      obtain ⟨R, j, e1, e2, e3⟩ := num_ok 10 7 2 _ 0 0 h
      rw [List.length_drop] at e3
      exact ⟨R, _, e1, by omega, by omega⟩
    · rename_i h2
      rw [if_neg h2] at h
      exact namedF_ok l nms (by decide) h

theorem chkC_ok {p : Int × Int × Int} (h : (chkC p).2.2 = 0) : chkC p = p ∧ p.2.2 = 0 ∧ charB p.1 = true := by
  unfold chkC at h ⊢
  split
  · rename_i h1
    rw [if_pos h1] at h
    simp at h
  · rename_i h1
    rw [if_neg h1] at h
    refine ⟨rfl, h, ?_⟩
    cases hc : charB p.1
    · exact absurd ⟨h, hc⟩ h1
    · rfl

theorem nextP_ok {l : List UInt8} (h : (nextP l).2.2 = 0) : ∃ R n : Nat, nextP l = ((R : Int), (n : Int), 0) ∧ Ch R ∧ 1 ≤ n ∧ n ≤ l.length := by
  cases l with
  | nil => simp [nextP] at h
  | cons b t =>
    by_cases hb : b.toNat = 38
    · have e : nextP (b :: t) = chkC (refP (b :: t)) := by simp [nextP, hb]
      rw [e] at h ⊢
      obtain ⟨e1, e2, e3⟩ := chkC_ok h
      obtain ⟨R, n, e4, e5, e6⟩ := refP_ok e2
      rw [e1, e4]
      rw [e4, charB_nat] at e3
      exact ⟨R, n, rfl, by simpa using e3, e5, e6⟩
    · have e : nextP (b :: t) = fans (b :: t) := by simp [nextP, hb]
      rw [e] at h ⊢
      cases hf : first (b :: t) with
      | none => simp [fans, hf] at h
      | some p =>
        obtain ⟨r, n⟩ := p
        obtain ⟨h1, h2, u, h3⟩ := first_some hf
        have h4 := congrArg List.length h3
        rw [List.length_append] at h4
        have h5 := enc_pos r
        exact ⟨r, n, fans_of hf, h1, by omega, by omega⟩

end Go.Proofs.YtmifejkddgcbmabGreat
