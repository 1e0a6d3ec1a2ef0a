/- What Text answers, the program's and the document's. -/
import Derived.Test.YtoabgmpcdnikeaaGreatDoorAt
import Derived.Lib.OthersKept
namespace Go.Proofs.YtoabgmpcdnikeaaGreatDoor
open Go.RowKit
set_option linter.unusedVariables false

/-- What is wrong with a list of bytes, and where, however long it is. -/
def bans (l : List UInt8) : Int × Int := if (scan l).2 = [] then (0, 0) else (((bytes (scan l).1).length : Int), 7)
/-- What Text answers. -/
def tans (l : List UInt8) : Int × Int := if 16384 < l.length then (0, 2) else bans l

/-- From the beginning of a character on: the rest of the scan. -/
theorem scan_at {l : List UInt8} {a b : List Nat} (h : (scan l).1 = a ++ b) : l.drop (bytes a).length = bytes b ++ (scan l).2 := by
  have h1 := (scan_spec l).1
  rw [h, bytes_append, List.append_assoc] at h1
  have h2 : l.drop (bytes a).length = (bytes a ++ (bytes b ++ (scan l).2)).drop (bytes a).length := by rw [← h1]
  rw [h2]
  simp
theorem scan_le {l : List UInt8} {a b : List Nat} (h : (scan l).1 = a ++ b) : (bytes a).length + (bytes b).length + (scan l).2.length = l.length := by
  have h1 := (scan_spec l).1
  rw [h, bytes_append, List.append_assoc] at h1
  have h2 := congrArg List.length h1
  simp only [List.length_append] at h2
  omega

/-- Where a scan stands: either a character that can be begins, or none does, or the text ends. -/
theorem scan_step {l : List UInt8} {a b : List Nat} (h : (scan l).1 = a ++ b) (hp : (bytes a).length < l.length) :
    (∃ r b', b = r :: b' ∧ Ch r ∧ first (l.drop (bytes a).length) = some (r, (enc r).length) ∧ (scan l).1 = (a ++ [r]) ++ b' ∧ (bytes (a ++ [r])).length = (bytes a).length + (enc r).length ∧ (bytes a).length + (enc r).length ≤ l.length) ∨
    (b = [] ∧ first (l.drop (bytes a).length) = none ∧ (scan l).2 ≠ [] ∧ bans l = (((bytes a).length : Int), 7)) := by
  have h1 := scan_at h
  have h2 := scan_le h
  have h3 := scan_spec l
  cases b with
  | nil =>
    right
    rw [bytes_nil, List.nil_append] at h1
    have hne : (scan l).2 ≠ [] := by
      intro he
      rw [he, bytes_nil] at h2
      simp at h2
      omega
    refine ⟨rfl, by rw [h1]; exact h3.2.2, hne, ?_⟩
    rw [List.append_nil] at h
    rw [bans, if_neg hne, h]
  | cons r b' =>
    left
    have hr : Ch r := h3.2.1 r (by rw [h]; simp)
    rw [bytes_cons, List.append_assoc] at h1
    rw [bytes_cons, List.length_append] at h2
    refine ⟨r, b', rfl, hr, by rw [h1]; exact first_enc hr _, by rw [h]; simp, ?_, by omega⟩
    rw [bytes_append, List.length_append, bytes_cons, bytes_nil, List.append_nil]

theorem scan_end {l : List UInt8} {a b : List Nat} (h : (scan l).1 = a ++ b) (hp : ¬ (bytes a).length < l.length) : b = [] ∧ (scan l).2 = [] ∧ bans l = (0, 0) := by
  have h2 := scan_le h
  have hr : (scan l).2 = [] := List.length_eq_zero_iff.1 (by omega)
  refine ⟨?_, hr, by rw [bans, if_pos hr]⟩
  cases b with
  | nil => rfl
  | cons r b' =>
    rw [bytes_cons, List.length_append] at h2
    have := enc_pos r
    omega

theorem fans_of {l : List UInt8} {r n : Nat} (h : first l = some (r, n)) : fans l = ((r : Int), (n : Int), 0) := by
  cases l with
  | nil => simp [first] at h
  | cons b t => simp [fans, h]
theorem fans_no {l : List UInt8} (hl : 0 < l.length) (h : first l = none) : fans l = (0, 0, 7) := by
  cases l with
  | nil => simp at hl
  | cons b t => simp [fans, h]

set_option maxRecDepth 100000 in
set_option maxHeartbeats 1000000 in
theorem text_long (w : World) (s : ByteArray) (h : 16384 < s.size) :
    Calls Tryz.prog 102 #[.string s] w fun e w' => e = .returned (.tuple #[.int .i64 0, .int .i64 2]) ∧ w' = w := by
  go_enter Tryz.func102, Tryz.ntmps102
  go_wp2
  go_ret2
  exact ⟨rfl, rfl⟩

set_option maxRecDepth 100000 in
set_option maxHeartbeats 1000000 in
theorem text_walk (w : World) (s : ByteArray) (h : s.size ≤ 16384) (x y : Int) (hxy : bans s.data.toList = (x, y)) :
    Calls Tryz.prog 102 #[.string s] w fun e w' => e = .returned (.tuple #[.int .i64 x, .int .i64 y]) ∧ Below w.heap.size w w' := by
  have HX : Hid (bans s.data.toList = (x, y)) := hxy
  have hl := size_list s
  clear hxy
  go_enter Tryz.func102, Tryz.ntmps102
  go_wp2
  go_loopw [] (fun wr => ∃ (a b : List Nat), Hid ((scan s.data.toList).1 = a ++ b) ∧ wr.heap[w.heap.size]? = some (.stringIter s (bytes a).length) ∧ Hid (Below w.heap.size w wr)) (fun wr => s.size - wr.iterPos w.heap.size)
  case atStart =>
    refine ⟨[], (scan s.data.toList).1, rfl, ?_, ?_⟩
    · exact World.iter_heap w s 0
    · exact below_new w _
  case round =>
    obtain ⟨a, b, hab, hit, hbw⟩ := hrel
    have hszr : w.heap.size < wr.heap.size := (Array.getElem?_eq_some_iff.1 hit).1
    have hm0 : wr.iterPos w.heap.size = (bytes a).length := by simp only [World.iterPos, hit]
    by_cases hp : (bytes a).length < s.size
    · have hnx : ∀ ty, (Instr.next (.pointer (some ⟨w.heap.size, 0, none⟩)) true ty).run Tryz.prog wr = _ := fun ty => Lib.run_next_any_at wr w.heap.size s (bytes a).length ty hit hp
      have hit1 := Lib.iterAt_heap wr w.heap.size s (bytes a).length ((bytes a).length + (Utf8.decode s (bytes a).length).2) hit
      have hbw1 : Hid (Below w.heap.size w (wr.iterAt w.heap.size s ((bytes a).length + (Utf8.decode s (bytes a).length).2))) := Lib.below_iterAt hbw.out (Nat.le_refl _) s _
      have hsz1 := Lib.iterAt_size wr w.heap.size s ((bytes a).length + (Utf8.decode s (bytes a).length).2)
      have hfi := first_any (wr.iterAt w.heap.size s ((bytes a).length + (Utf8.decode s (bytes a).length).2)) (s.extract (bytes a).length s.size)
      have hex : (s.extract (bytes a).length s.size).data.toList = s.data.toList.drop (bytes a).length := by
        rw [Lib.extract_data, List.take_of_length_le]
        rw [List.length_drop, hl]
        exact Nat.le_refl _
      have hdl : (s.data.toList.drop (bytes a).length).length = s.size - (bytes a).length := by rw [List.length_drop, hl]
      rw [hex, hsz1] at hfi
      have hst := scan_step hab.out (by rw [hl]; exact hp)
      rcases hst with ⟨r, b', rfl, hr, hf, hsc, hlen, hle⟩ | ⟨rfl, hf, hne, hans⟩
      · have hdec : Utf8.decode s (bytes a).length = (r, (enc r).length) := by
          obtain ⟨_, _, t, ht⟩ := first_some hf
          exact decode_enc hr ht
        rw [fans_of hf] at hfi
        rw [hdec] at hnx hit1 hbw1 hfi
        rw [← hlen] at hnx hit1 hbw1 hfi
        have HSC : Hid ((scan s.data.toList).1 = (a ++ [r]) ++ b') := hsc
        have hpl : (bytes a).length < (bytes (a ++ [r])).length := by have := enc_pos r; omega
        generalize wr.iterAt w.heap.size s (bytes (a ++ [r])).length = W1 at *
        clear hab hf hsc hdec hex HX hbw hle hlen
        generalize hq : (bytes a).length = q at *
        clear hq
        go_wp2_with fail
        refine hfi.mono ?_
        rintro e W2 ⟨rfl, hb2⟩
        have hit2 : W2.heap[w.heap.size]? = some (.stringIter s (bytes (a ++ [r])).length) := by rw [hb2.block w.heap.size hszr]; exact hit1
        go_wp2
        go_roundw
        case rel => exact ⟨a ++ [r], b', HSC, hit2, hbw1.out.trans (hb2.mono (by omega))⟩
        case measure =>
          simp only [World.iterPos, hit2, hit]
          omega
      · rw [fans_no (by omega) hf] at hfi
        have hxy : x = ((bytes a).length : Int) ∧ y = 7 := by
          have := HX.out
          rw [hans] at this
          simp only [Prod.mk.injEq] at this
          omega
        obtain ⟨hx1, hy1⟩ := hxy
        clear hab hf hex hbw HX hans hne
        generalize wr.iterAt w.heap.size s ((bytes a).length + (Utf8.decode s (bytes a).length).2) = W1 at *
        generalize hq : (bytes a).length = q at *
        clear hq
        go_wp2_with fail
        refine hfi.mono ?_
        rintro e W2 ⟨rfl, hb2⟩
        go_wp2
        go_ret2
        exact ⟨congrArg _ (v_two hx1.symm hy1.symm), hbw1.out.trans (hb2.mono (by omega))⟩
    · have hnx : ∀ ty, (Instr.next (.pointer (some ⟨w.heap.size, 0, none⟩)) true ty).run Tryz.prog wr = _ := fun ty => Lib.run_next_end_at wr w.heap.size s (bytes a).length ty hit hp
      have he := (scan_end hab.out (by rw [hl]; exact hp)).2.2
      have hxy : x = 0 ∧ y = 0 := by
        have := HX.out
        rw [he] at this
        simp only [Prod.mk.injEq] at this
        omega
      obtain ⟨rfl, rfl⟩ := hxy
      clear hab HX he
      go_wp2
      go_ret2
      exact ⟨rfl, hbw.out⟩

theorem text_any (w : World) (s : ByteArray) :
    Calls Tryz.prog 102 #[.string s] w fun e w' => e = .returned (.tuple #[.int .i64 (tans s.data.toList).1, .int .i64 (tans s.data.toList).2]) ∧ Below w.heap.size w w' := by
  have hl := size_list s
  by_cases h : 16384 < s.size
  · rw [tans, if_pos (by omega)]
    refine (text_long w s h).mono ?_
    rintro e w' ⟨rfl, rfl⟩
    exact ⟨rfl, Below.refl _ _⟩
  · rw [tans, if_neg (by omega)]
    exact text_walk w s (by omega) _ _ rfl

set_option maxRecDepth 100000 in
set_option maxHeartbeats 1000000 in
theorem bad_walk (w : World) (s : ByteArray) (h : s.size < 1152921504606846976) (x y : Int) (hxy : bans s.data.toList = (x, y)) :
    Calls Tryz.prog 112 #[.string s] w fun e w' => e = .returned (.tuple #[.int .i64 x, .int .i64 y]) ∧ Below w.heap.size w w' := by
  have HX : Hid (bans s.data.toList = (x, y)) := hxy
  have hl := size_list s
  clear hxy
  go_enter Tryz.func112, Tryz.ntmps112
  go_wp2
  go_loopw [4] (fun v wr => ∃ (a b : List Nat), Hid ((scan s.data.toList).1 = a ++ b) ∧ v = .int .i64 ((bytes a).length : Int) ∧ Hid (Below w.heap.size w wr)) (fun v _ => s.size - (intOf v).toNat)
  case atStart => exact ⟨[], (scan s.data.toList).1, rfl, rfl, Below.refl _ _⟩
  case round =>
    obtain ⟨a, b, hab, rfl, hbw⟩ := hrel
    have hws := hbw.out.size
    by_cases hp : (bytes a).length < s.size
    · have hat := at_any wr s (bytes a).length hp h
      have hst := scan_step hab.out (by rw [hl]; exact hp)
      rcases hst with ⟨r, b', rfl, hr, hf, hsc, hlen, hle⟩ | ⟨rfl, hf, hne, hans⟩
      · have haa : aans (s.data.toList.drop (bytes a).length) = ((r : Int), ((enc r).length : Int)) := by simp [aans, hf]
        rw [haa] at hat
        have hpl := enc_pos r
        have HSC : Hid ((scan s.data.toList).1 = (a ++ [r]) ++ b') := hsc
        have HLN : Hid ((bytes (a ++ [r])).length = (bytes a).length + (enc r).length) := hlen
        have hz : (((enc r).length : Int) == 0) = false := beq_eq_false_iff_ne.2 (by omega)
        rw [hl] at hle
        clear hab hf hsc haa HX hlen
        generalize (enc r).length = m at *
        generalize (bytes a).length = q at *
        go_wp2_with fail
        refine hat.mono ?_
        rintro e W2 ⟨rfl, hb2⟩
        go_wp2
        go_roundw
        case rel => exact ⟨a ++ [r], b', HSC, congrArg _ (by have := HLN.out; omega), hbw.out.trans (hb2.mono hws)⟩
        case measure => simp [intOf]; omega
      · have haa : aans (s.data.toList.drop (bytes a).length) = (0, 0) := by simp [aans, hf]
        rw [haa] at hat
        have hxy : x = ((bytes a).length : Int) ∧ y = 7 := by
          have := HX.out
          rw [hans] at this
          simp only [Prod.mk.injEq] at this
          omega
        obtain ⟨hx1, hy1⟩ := hxy
        clear hab hf HX hans hne haa
        generalize (bytes a).length = q at *
        go_wp2_with fail
        refine hat.mono ?_
        rintro e W2 ⟨rfl, hb2⟩
        go_wp2
        go_ret2
        exact ⟨congrArg _ (v_two hx1.symm hy1.symm), hbw.out.trans (hb2.mono hws)⟩
    · have he := (scan_end hab.out (by rw [hl]; exact hp)).2.2
      have hxy : x = 0 ∧ y = 0 := by
        have := HX.out
        rw [he] at this
        simp only [Prod.mk.injEq] at this
        omega
      obtain ⟨hx1, hy1⟩ := hxy
      clear hab HX he
      go_wp2
      go_ret2
      exact ⟨congrArg _ (v_two hx1.symm hy1.symm), hbw.out⟩

set_option maxRecDepth 100000 in
set_option maxHeartbeats 1000000 in
theorem rtext_long (w : World) (s : ByteArray) (h : 16384 < s.size) :
    Calls Tryz.prog 77 #[.string s] w fun e w' => e = .returned (.tuple #[.int .i64 0, .int .i64 2]) ∧ w' = w := by
  go_enter Tryz.func77, Tryz.ntmps77
  go_wp2
  go_ret2
  exact ⟨rfl, rfl⟩

set_option maxRecDepth 100000 in
set_option maxHeartbeats 1000000 in
theorem rtext_walk (w : World) (s : ByteArray) (h : s.size ≤ 16384) (x y : Int) (hxy : Calls Tryz.prog 112 #[.string s] w fun e w' => e = .returned (.tuple #[.int .i64 x, .int .i64 y]) ∧ Below w.heap.size w w') :
    Calls Tryz.prog 77 #[.string s] w fun e w' => e = .returned (.tuple #[.int .i64 x, .int .i64 y]) ∧ Below w.heap.size w w' := by
  go_enter Tryz.func77, Tryz.ntmps77
  go_wp2_with fail
  refine hxy.mono ?_
  rintro e w' ⟨rfl, hb⟩
  go_wp2
  go_ret2
  exact ⟨rfl, hb⟩

theorem rtext_any (w : World) (s : ByteArray) :
    Calls Tryz.prog 77 #[.string s] w fun e w' => e = .returned (.tuple #[.int .i64 (tans s.data.toList).1, .int .i64 (tans s.data.toList).2]) ∧ Below w.heap.size w w' := by
  have hl := size_list s
  by_cases h : 16384 < s.size
  · rw [tans, if_pos (by omega)]
    refine (rtext_long w s h).mono ?_
    rintro e w' ⟨rfl, rfl⟩
    exact ⟨rfl, Below.refl _ _⟩
  · rw [tans, if_neg (by omega)]
    exact rtext_walk w s (by omega) _ _ (bad_walk w s (by omega) _ _ rfl)

end Go.Proofs.YtoabgmpcdnikeaaGreatDoor
