/- The program's Unescape. -/
import Derived.Test.YtmifejkddgcbmabGreatA06
import Derived.Test.YtmifejkddgcbmabGreatA07
import Derived.Test.YtmifejkddgcbmabGreatA05
namespace Go.Proofs.YtmifejkddgcbmabGreat
open Go.RowKit
set_option linter.unusedVariables false
set_option linter.unusedSimpArgs false

theorem rune_cells {r : Nat} (h : Ch r) : Lib.runeCells (r : Int) = Lib.byteCells (enc r) := by rw [← Lib.byteCells_encodeRune, enc_rune h]

/-- One step of the reading. -/
theorem unF_step {k pos : Nat} {l acc : List UInt8} {R n : Nat} (hl : l ≠ []) (h : nextP l = ((R : Int), (n : Int), 0)) :
    unF (k + 1) l acc pos = if 16384 < acc.length + size R then ([], (pos : Int), 2) else unF k (l.drop n) (acc ++ enc R) (pos + n) := by
  rw [unF, if_neg hl, if_neg (by rw [h]; simp), h]
  simp only [Int.toNat_natCast]
theorem unF_bad {k pos : Nat} {l acc : List UInt8} (hl : l ≠ []) (h : (nextP l).2.2 ≠ 0) : unF (k + 1) l acc pos = ([], (pos : Int), (nextP l).2.2) := by
  rw [unF, if_neg hl, if_pos h]
theorem unF_end (k pos : Nat) (acc : List UInt8) : unF k [] acc pos = (acc, 0, 0) := by
  cases k with
  | zero => rfl
  | succ k => rw [unF, if_pos rfl]

set_option maxRecDepth 100000 in
set_option maxHeartbeats 2000000 in
theorem unescape_walk (w : World) (s : ByteArray) (hsz : s.size < 1152921504606846976) (X : ByteArray) (x y : Int) (hX : X = ⟨(uans s.data.toList).1.toArray⟩) (hx : (uans s.data.toList).2.1 = x) (hy : (uans s.data.toList).2.2 = y) :
    Calls Tryz.prog 116 #[.string s] w fun e w' => e = .returned (.tuple #[.string X, .int .i64 x, .int .i64 y]) ∧ Below w.heap.size w w' := by
  have hl := size_list s
  have HA : Hid (X = ⟨(uans s.data.toList).1.toArray⟩ ∧ (uans s.data.toList).2.1 = x ∧ (uans s.data.toList).2.2 = y) := ⟨hX, hx, hy⟩
  clear hX hx hy
  go_enter Tryz.func116, Tryz.ntmps116
  go_wp2
  go_loopw [5, 6] (fun v5 v6 wr => ∃ (k pos : Nat) (acc : List UInt8), v6 = .int .i64 (pos : Int) ∧ pos ≤ s.size ∧ acc.length ≤ 16384 ∧ wr.ownsRow w.heap.size 5 1 v5 acc.length (Lib.byteCells acc) ∧ Hid (Below w.heap.size w wr) ∧ Hid (unF k (s.data.toList.drop pos) acc pos = uans s.data.toList) ∧ Hid (s.size - pos ≤ k)) (fun _ v6 _ => s.size - (intOf v6).toNat)
  case atStart => exact ⟨s.data.toList.length, 0, [], rfl, by omega, by simp, ⟨rfl, Or.inl ⟨rfl, rfl⟩⟩, Below.refl _ _, rfl, by show _ ≤ _; omega⟩
  case round =>
    obtain ⟨k, pos, acc, rfl, hpos, hacc, hown, hbw, hun, hk⟩ := hrel
    have hws := hbw.out.size
    obtain ⟨ba, bcap, rfl⟩ := owns_slice hown
    by_cases hlt : pos < s.size
    · have hex : (s.extract pos s.size).data.toList = s.data.toList.drop pos := by
        rw [Lib.extract_data, List.take_of_length_le]
        rw [List.length_drop, hl]
        exact Nat.le_refl _
      have hexs : (s.extract pos s.size).size = s.size - pos := by rw [← size_list, hex, List.length_drop, hl]
      have hnx := next_any wr (s.extract pos s.size) (by omega) (by omega)
      rw [hex] at hnx
      have hne : s.data.toList.drop pos ≠ [] := by
        intro h
        have := congrArg List.length h
        rw [List.length_drop, hl] at this
        simp at this
        omega
      obtain ⟨k', rfl⟩ : ∃ k', k = k' + 1 := ⟨k - 1, by have := hk.out; omega⟩
      have HOW : Hid (wr.ownsRow w.heap.size 5 1 (.slice ba acc.length bcap) acc.length (Lib.byteCells acc)) := hown
      by_cases hz : (nextP (s.data.toList.drop pos)).2.2 = 0
      · obtain ⟨R, n, hp, hch, hn1, hn2⟩ := nextP_ok hz
        rw [List.length_drop, hl] at hn2
        have hu := hun.out
        rw [unF_step hne hp] at hu
        have hR : R ≤ 1114111 := by unfold Ch at hch; omega
        rw [hp] at hnx
        have hsz2 := fun W => size_any W R
        have hsp := size_pos R
        have HRC : Hid (Lib.runeCells (R : Int) = Lib.byteCells (enc R)) := rune_cells hch
        have HEL : Hid ((enc R).length = size R) := enc_length R
        generalize hzz : size R = sz at *
        by_cases hlong : 16384 < acc.length + sz
        · rw [if_pos hlong] at hu
          obtain ⟨a1, a2, a3⟩ := HA.out
          rw [← hu] at a1 a2 a3
          have a2' := a2.symm
          have a3' := a3.symm
          clear hown hun hu hne hp hz HA hk a2 a3 hch
          go_wp2_with fail
          refine hnx.mono ?_
          rintro e w2 ⟨rfl, hb2⟩
          go_wp2_with fail
          refine (hsz2 w2).mono ?_
          rintro e w3 ⟨rfl, rfl⟩
          go_wp2
          go_ret3
          first | exact ⟨congrArg _ (v_sii a1.symm a2'.symm a3'.symm), hbw.out.trans (hb2.mono hws)⟩ | exact ⟨rfl, hbw.out.trans (hb2.mono hws)⟩
        · rw [if_neg hlong] at hu
          have hacc2 : acc.length + sz ≤ 16384 := by omega
          have HU : Hid (unF k' (s.data.toList.drop (pos + n)) (acc ++ enc R) (pos + n) = uans s.data.toList) := by
            show _ = _
            rw [← hu, List.drop_drop]
          have HK : Hid (s.size - (pos + n) ≤ k') := by
            have := hk.out
            show _ ≤ _
            omega
          clear hown hun hu hne hp hz HA hk hlong hch
          go_wp2_with fail
          refine hnx.mono ?_
          rintro e w2 ⟨rfl, hb2⟩
          have hs2 := hb2.size
          have HO2 := owns_below HOW.out hb2
          have HB2 : Hid (Below w.heap.size w w2) := hbw.out.trans (hb2.mono hws)
          have hap := Tryz.utf8_AppendRune_plain w.heap.size _ acc.length (Lib.byteCells acc) (R : Int) (by omega) (by omega) w2 HO2 (by omega) (by omega)
          clear hb2
          go_wp2_with fail
          refine (hsz2 w2).mono ?_
          rintro e w3 ⟨rfl, rfl⟩
          go_wp2_with fail
          refine hap.mono ?_
          rintro e w4 ⟨v', rfl, hown4, o, hg4⟩
          rw [HRC.out, ← Lib.byteCells_append, Lib.byteCells_length, ← List.length_append] at hown4
          have HO4 : Hid (w4.ownsRow w.heap.size 5 1 v' (acc ++ enc R).length (Lib.byteCells (acc ++ enc R))) := hown4
          have HB4 : Hid (Below w.heap.size w w4) := (HB2.out.alloc (by omega) o).grown hg4 (by simp; omega) (fun j hj => (HO2.lt j hj).1)
          clear hown4 hg4 hap
          go_wp2
          go_roundw
          case rel => exact ⟨k', pos + n, acc ++ enc R, by go_num, by omega, by rw [List.length_append, HEL.out]; omega, HO4.out, HB4, HU, HK⟩
          case measure => simp [intOf]; omega
      · have hu := hun.out
        rw [unF_bad hne hz] at hu
        obtain ⟨a1, a2, a3⟩ := HA.out
        rw [← hu] at a1 a2 a3
        have a2' := a2.symm
        have a3' := a3.symm
        have hz1 : ((nextP (s.data.toList.drop pos)).2.2 == 0) = false := beq_eq_false_iff_ne.2 hz
        have hz2 : ((nextP (s.data.toList.drop pos)).2.2 != 0) = true := bne_iff_ne.2 hz
        generalize nextP (s.data.toList.drop pos) = p at *
        clear hown hun hu hne hz HA hk a2 a3
        go_wp2_with fail
        refine hnx.mono ?_
        rintro e w2 ⟨rfl, hb2⟩
        go_wp2
        go_ret3
        first | exact ⟨congrArg _ (v_sii a1.symm a2'.symm a3'.symm), hbw.out.trans (hb2.mono hws)⟩ | exact ⟨rfl, hbw.out.trans (hb2.mono hws)⟩
    · have hu := hun.out
      rw [List.drop_of_length_le (by omega), unF_end] at hu
      obtain ⟨a1, a2, a3⟩ := HA.out
      rw [← hu] at a1 a2 a3
      have hconv := conv_own hown
      have a2' := a2.symm
      have a3' := a3.symm
      rw [← a1] at hconv
      clear hown hun hu HA hk a2 a3 a1
      go_wp2
      go_ret3
      first | exact ⟨congrArg _ (v_sii rfl a2'.symm a3'.symm), hbw.out⟩ | exact ⟨rfl, hbw.out⟩

theorem unescape_any (w : World) (s : ByteArray) (hsz : s.size < 1152921504606846976) :
    Calls Tryz.prog 116 #[.string s] w fun e w' => e = .returned (.tuple #[.string ⟨(uans s.data.toList).1.toArray⟩, .int .i64 (uans s.data.toList).2.1, .int .i64 (uans s.data.toList).2.2]) ∧ Below w.heap.size w w' :=
  unescape_walk w s hsz _ _ _ rfl rfl rfl

end Go.Proofs.YtmifejkddgcbmabGreat

/- There and back, in plain words: what is escaped reads as it was, and holds nothing that markup would take for something else. -/
namespace Go.Proofs.YtmifejkddgcbmabGreat
set_option linter.unusedVariables false
set_option linter.unusedSimpArgs false

theorem escB_nil {c : Nat} {q : Bool} (h : c ≠ 38 ∧ c ≠ 60 ∧ c ≠ 62 ∧ c ≠ 13 ∧ (q = true → c ≠ 34 ∧ c ≠ 9 ∧ c ≠ 10)) : escB c q = [] := by
  obtain ⟨h1, h2, h3, h4, h5⟩ := h
  unfold escB
  rw [if_neg h1, if_neg h2, if_neg h3, if_neg h4, if_neg (fun h => (h5 h.1).1 h.2), if_neg (fun h => (h5 h.1).2.1 h.2), if_neg (fun h => (h5 h.1).2.2 h.2)]
theorem escB_is (c : Nat) (q : Bool) : (escB c q = [] ∧ c ≠ 38 ∧ c ≠ 60 ∧ c ≠ 62 ∧ c ≠ 13 ∧ (q = true → c ≠ 34 ∧ c ≠ 9 ∧ c ≠ 10)) ∨ (c = 38 ∧ escB c q = [38, 97, 109, 112, 59]) ∨ (c = 60 ∧ escB c q = [38, 108, 116, 59]) ∨ (c = 62 ∧ escB c q = [38, 103, 116, 59]) ∨
    (c = 13 ∧ escB c q = [38, 35, 49, 51, 59]) ∨ (q = true ∧ c = 34 ∧ escB c q = [38, 113, 117, 111, 116, 59]) ∨ (q = true ∧ c = 9 ∧ escB c q = [38, 35, 57, 59]) ∨ (q = true ∧ c = 10 ∧ escB c q = [38, 35, 49, 48, 59]) := by
  by_cases h1 : c = 38
  · subst h1; right; left; exact ⟨rfl, by simp [escB]⟩
  by_cases h2 : c = 60
  · subst h2; right; right; left; exact ⟨rfl, by simp [escB]⟩
  by_cases h3 : c = 62
  · subst h3; right; right; right; left; exact ⟨rfl, by simp [escB]⟩
  by_cases h4 : c = 13
  · subst h4; right; right; right; right; left; exact ⟨rfl, by simp [escB]⟩
  by_cases h5 : q = true ∧ c = 34
  · obtain ⟨rfl, rfl⟩ := h5; right; right; right; right; right; left; exact ⟨rfl, rfl, by simp [escB]⟩
  by_cases h6 : q = true ∧ c = 9
  · obtain ⟨rfl, rfl⟩ := h6; right; right; right; right; right; right; left; exact ⟨rfl, rfl, by simp [escB]⟩
  by_cases h7 : q = true ∧ c = 10
  · obtain ⟨rfl, rfl⟩ := h7; right; right; right; right; right; right; right; exact ⟨rfl, rfl, by simp [escB]⟩
  have h8 : c ≠ 38 ∧ c ≠ 60 ∧ c ≠ 62 ∧ c ≠ 13 ∧ (q = true → c ≠ 34 ∧ c ≠ 9 ∧ c ≠ 10) := ⟨h1, h2, h3, h4, fun hq => ⟨fun h => h5 ⟨hq, h⟩, fun h => h6 ⟨hq, h⟩, fun h => h7 ⟨hq, h⟩⟩⟩
  exact Or.inl ⟨escB_nil h8, h8⟩

theorem enc_low {r : Nat} (h : r < 128) : enc r = [r.toUInt8] := by simp [enc, h]
theorem enc_high {r : Nat} (h : 128 ≤ r) (hr : r ≤ 1114111) : ∀ b ∈ enc r, 128 ≤ b.toNat := by
  intro b hb
  unfold enc at hb
  rw [if_neg (by omega)] at hb
  split at hb
  · simp only [List.mem_cons, List.not_mem_nil, or_false] at hb
    rcases hb with rfl | rfl <;> rw [u8n (by omega)] <;> omega
  · split at hb
    · simp only [List.mem_cons, List.not_mem_nil, or_false] at hb
      rcases hb with rfl | rfl | rfl <;> rw [u8n (by omega)] <;> omega
    · simp only [List.mem_cons, List.not_mem_nil, or_false] at hb
      rcases hb with rfl | rfl | rfl | rfl <;> rw [u8n (by omega)] <;> omega

theorem esc1_high {q : Bool} {b : UInt8} (h : 128 ≤ b.toNat) : esc1 q b = [b] := by
  rw [esc1, if_pos (escB_nil (by omega))]

theorem flatMap_id {f : UInt8 → List UInt8} : ∀ l : List UInt8, (∀ b ∈ l, f b = [b]) → l.flatMap f = l := by
  intro l
  induction l with
  | nil => intro _; rfl
  | cons b t ih =>
    intro h
    rw [List.flatMap_cons, h b (by simp), ih (fun x hx => h x (by simp [hx]))]
    rfl

/-- A character as Escape writes it. -/
def piece (q : Bool) (r : Nat) : List UInt8 := if escB r q = [] then enc r else escB r q

theorem escL_enc (q : Bool) {r : Nat} (h : Ch r) : escL q (enc r) = piece q r := by
  have hr : r ≤ 1114111 := by unfold Ch at h; omega
  rcases Nat.lt_or_ge r 128 with h1 | h1
  · rw [enc_low h1, escL, List.flatMap_cons, List.flatMap_nil, List.append_nil, esc1, u8n (by omega), piece, enc_low h1]
  · rw [piece, if_pos (escB_nil (by omega))]
    exact flatMap_id _ (fun b hb => esc1_high (enc_high h1 hr b hb))
theorem escL_append (q : Bool) (a b : List UInt8) : escL q (a ++ b) = escL q a ++ escL q b := by simp [escL]
theorem escL_bytes (q : Bool) : ∀ rs : List Nat, (∀ r ∈ rs, Ch r) → escL q (bytes rs) = rs.flatMap (piece q) := by
  intro rs
  induction rs with
  | nil => intro _; rfl
  | cons r rs ih =>
    intro h
    rw [bytes_cons, escL_append, escL_enc q (h r (by simp)), ih (fun x hx => h x (by simp [hx])), List.flatMap_cons]

theorem enc_ne {r : Nat} : enc r ≠ [] := by
  intro h
  have := enc_pos r
  rw [h] at this
  simp at this

theorem next_piece (q : Bool) {r : Nat} (h : Ch r) (t : List UInt8) : nextP (piece q r ++ t) = ((r : Int), ((piece q r).length : Int), 0) := by
  have hr : r ≤ 1114111 := by unfold Ch at h; omega
  rcases escB_is r q with ⟨he, hn⟩ | ⟨rfl, he⟩ | ⟨rfl, he⟩ | ⟨rfl, he⟩ | ⟨rfl, he⟩ | ⟨hq, rfl, he⟩ | ⟨hq, rfl, he⟩ | ⟨hq, rfl, he⟩
  · rw [piece, if_pos he]
    have hf := fans_of (first_enc h t)
    obtain ⟨b, u, hbu⟩ : ∃ b u, enc r = b :: u := by
      cases hx : enc r with
      | nil => exact absurd hx enc_ne
      | cons b u => exact ⟨b, u, rfl⟩
    have hb : b.toNat ≠ 38 := by
      rcases Nat.lt_or_ge r 128 with h1 | h1
      · rw [enc_low h1] at hbu
        have : b = r.toUInt8 := ((List.cons.inj hbu).1).symm
        rw [this, u8n (by omega)]
        omega
      · have := enc_high h1 hr b (by rw [hbu]; simp)
        omega
    rw [hbu] at hf ⊢
    rw [List.cons_append] at hf ⊢
    rw [← hf, nextP, if_neg hb]
  all_goals rw [piece, he, if_neg (by simp)]
  all_goals simp [nextP, refP, chkC, namedF, nms, List.isPrefixOf, num, dig, charB]

theorem piece_pos (q : Bool) (r : Nat) : 1 ≤ (piece q r).length := by
  unfold piece
  split
  · exact enc_pos r
  · rename_i h
    cases hx : escB r q with
    | nil => exact absurd hx h
    | cons b u => simp

theorem un_pieces (q : Bool) : ∀ (rs : List Nat) (acc : List UInt8) (pos k : Nat), (∀ r ∈ rs, Ch r) → acc.length + (bytes rs).length ≤ 16384 → (rs.flatMap (piece q)).length ≤ k →
    unF k (rs.flatMap (piece q)) acc pos = (acc ++ bytes rs, 0, 0) := by
  intro rs
  induction rs with
  | nil =>
    intro acc pos k _ _ _
    rw [List.flatMap_nil, unF_end, bytes_nil, List.append_nil]
  | cons r rs ih =>
    intro acc pos k hc hlen hk
    have hp := piece_pos q r
    rw [List.flatMap_cons, List.length_append] at hk
    obtain ⟨k', rfl⟩ : ∃ k', k = k' + 1 := ⟨k - 1, by omega⟩
    rw [bytes_cons, List.length_append, enc_length] at hlen
    rw [List.flatMap_cons, unF_step (by intro h; have h1 := congrArg List.length h; rw [List.length_append, List.length_nil] at h1; omega) (next_piece q (hc r (by simp)) _), if_neg (by omega), List.drop_left]
    rw [ih (acc ++ enc r) _ k' (fun x hx => hc x (by simp [hx])) (by rw [List.length_append, enc_length]; omega) (by omega), bytes_cons, List.append_assoc]

/-- THERE AND BACK. -/
theorem back_eq (q : Bool) {l : List UInt8} (h : (tans l).2 = 0) : uans (escL q l) = (l, 0, 0) := by
  obtain ⟨h1, h2, h3⟩ := tans_ok h
  have h4 : escL q l = (scan l).1.flatMap (piece q) := by
    rw [← escL_bytes q _ h3, ← h2]
  rw [uans, h4, un_pieces q _ [] 0 _ h3 (by rw [← h2]; simpa using h1) (Nat.le_refl _), List.nil_append, ← h2]

/-- What is escaped holds none of these. -/
theorem esc_none (q : Bool) (l : List UInt8) : ∀ b ∈ escL q l, b.toNat ≠ 60 ∧ b.toNat ≠ 62 ∧ b.toNat ≠ 13 ∧ (q = true → b.toNat ≠ 34 ∧ b.toNat ≠ 9 ∧ b.toNat ≠ 10) := by
  intro b hb
  rw [escL, List.mem_flatMap] at hb
  obtain ⟨c, _, hb⟩ := hb
  rcases escB_is c.toNat q with ⟨he, hn⟩ | ⟨_, he⟩ | ⟨_, he⟩ | ⟨_, he⟩ | ⟨_, he⟩ | ⟨hq, _, he⟩ | ⟨hq, _, he⟩ | ⟨hq, _, he⟩
  · rw [esc1, if_pos he, List.mem_singleton] at hb
    subst hb
    exact ⟨hn.2.1, hn.2.2.1, hn.2.2.2.1, hn.2.2.2.2⟩
  all_goals rw [esc1, he, if_neg (by simp)] at hb
  all_goals simp only [List.mem_cons, List.not_mem_nil, or_false] at hb
  · rcases hb with rfl | rfl | rfl | rfl | rfl <;> exact ⟨by decide, by decide, by decide, fun _ => by decide⟩
  · rcases hb with rfl | rfl | rfl | rfl <;> exact ⟨by decide, by decide, by decide, fun _ => by decide⟩
  · rcases hb with rfl | rfl | rfl | rfl <;> exact ⟨by decide, by decide, by decide, fun _ => by decide⟩
  · rcases hb with rfl | rfl | rfl | rfl | rfl <;> exact ⟨by decide, by decide, by decide, fun _ => by decide⟩
  · rcases hb with rfl | rfl | rfl | rfl | rfl | rfl <;> exact ⟨by decide, by decide, by decide, fun _ => by decide⟩
  · rcases hb with rfl | rfl | rfl | rfl <;> exact ⟨by decide, by decide, by decide, fun _ => by decide⟩
  · rcases hb with rfl | rfl | rfl | rfl | rfl <;> exact ⟨by decide, by decide, by decide, fun _ => by decide⟩

end Go.Proofs.YtmifejkddgcbmabGreat

/- Trees in plain, as data by levels, and how they lie in memory; what a call leaves as it was. -/
namespace Go.Proofs.YtmifejkddgcbmabGreat
open Go.RowKit
set_option linter.unusedVariables false
set_option linter.unusedSimpArgs false

def IsCells (w : World) (b : Nat) (cs : Array Value) : Prop := ∃ T, w.heap[b]? = some (.cells cs T (0, 0))

theorem IsCells.lt {w : World} {b : Nat} {cs : Array Value} (h : IsCells w b cs) : b < w.heap.size := by
  obtain ⟨T, h⟩ := h
  exact (Array.getElem?_eq_some_iff.1 h).1
theorem IsCells.cell {w : World} {b : Nat} {cs : Array Value} (h : IsCells w b cs) (o : Nat) : w.cell? ⟨b, o, none⟩ = cs[o]? := by
  obtain ⟨T, h⟩ := h
  simp [World.cell?, h]
theorem IsCells.frozen {w : World} {b : Nat} {cs : Array Value} (h : IsCells w b cs) (o : Nat) : w.frozen? ⟨b, o, none⟩ = false := by
  obtain ⟨T, h⟩ := h
  simp [World.frozen?, h]
theorem IsCells.of_block {w w' : World} {b : Nat} {cs : Array Value} (h : IsCells w b cs) (hb : w'.heap[b]? = w.heap[b]?) : IsCells w' b cs := by
  obtain ⟨T, h⟩ := h
  exact ⟨T, hb.trans h⟩
theorem IsCells.alloc {w : World} {b : Nat} {cs : Array Value} (h : IsCells w b cs) (o : Obj) : IsCells (w.alloc o) b cs :=
  h.of_block (Below.heap_alloc _ _ _ h.lt)
theorem IsCells.other {w : World} {b : Nat} {cs : Array Value} (h : IsCells w b cs) {a : Addr} (hne : b ≠ a.block) (v : Value) : IsCells (w.setCell a v) b cs :=
  h.of_block (Below.heap_setCell _ _ _ _ hne)
theorem IsCells.set {w : World} {b : Nat} {cs : Array Value} (h : IsCells w b cs) (o : Nat) (v : Value) : IsCells (w.setCell ⟨b, o, none⟩ v) b (cs.setIfInBounds o v) := by
  obtain ⟨T, h⟩ := h
  refine ⟨T, ?_⟩
  simp [World.setCell, Array.getElem?_modify, h]
theorem isCells_new (w : World) (cs : Array Value) (T : TypeId) : IsCells (w.alloc (.cells cs T)) w.heap.size cs := ⟨T, heap_alloc_new w _⟩

/-- Blocks of which A does not hold are as they were. -/
structure Turn (A : Nat → Prop) (w w' : World) : Prop where
  os : w'.os = w.os
  tape : w'.tape = w.tape
  output : w'.output = w.output
  size : w.heap.size ≤ w'.heap.size
  block : ∀ k, k < w.heap.size → ¬ A k → w'.heap[k]? = w.heap[k]?

theorem Turn.refl (A : Nat → Prop) (w : World) : Turn A w w := ⟨rfl, rfl, rfl, Nat.le_refl _, fun _ _ _ => rfl⟩
theorem Turn.trans {A : Nat → Prop} {a b c : World} (h : Turn A a b) (k : Turn A b c) : Turn A a c :=
  ⟨k.os.trans h.os, k.tape.trans h.tape, k.output.trans h.output, Nat.le_trans h.size k.size, fun i hi ha => (k.block i (Nat.lt_of_lt_of_le hi h.size) ha).trans (h.block i hi ha)⟩
theorem Turn.mono {A B : Nat → Prop} {a b : World} (h : Turn A a b) (hAB : ∀ k, k < a.heap.size → A k → B k) : Turn B a b :=
  ⟨h.os, h.tape, h.output, h.size, fun i hi hb => h.block i hi (fun ha => hb (hAB i hi ha))⟩
theorem Turn.drew {A : Nat → Prop} {a w : World} (h : Turn A a w) : Turn A a w.drew := ⟨h.os, h.tape, h.output, h.size, h.block⟩
theorem Turn.drewN {A : Nat → Prop} {a w : World} (h : Turn A a w) (n : Nat) : Turn A a (w.drewN n) := ⟨h.os, h.tape, h.output, h.size, h.block⟩
theorem Turn.alloc {A : Nat → Prop} {a w : World} (h : Turn A a w) (o : Obj) : Turn A a (w.alloc o) :=
  h.trans ⟨rfl, rfl, rfl, by simp, fun k hk _ => Below.heap_alloc _ _ _ hk⟩
theorem Turn.setCell {A : Nat → Prop} {a w : World} (h : Turn A a w) {p : Addr} (hp : A p.block) (u : Value) : Turn A a (w.setCell p u) :=
  h.trans ⟨rfl, rfl, rfl, by simp [World.setCell], fun _ _ ha => Below.heap_setCell _ _ _ _ (fun e => ha (by rw [e]; exact hp))⟩
/-- A store into a block that was not there at the start. -/
theorem Turn.setNew {A : Nat → Prop} {a w : World} (h : Turn A a w) {p : Addr} (hp : a.heap.size ≤ p.block) (u : Value) : Turn A a (w.setCell p u) :=
  ⟨h.os, h.tape, h.output, Nat.le_trans h.size (by simp [World.setCell]), fun k hk ha => (Below.heap_setCell _ _ _ _ (by omega)).trans (h.block k hk ha)⟩
theorem Turn.below {A : Nat → Prop} {B : Nat} {w w' : World} (h : Turn A w w') (hB : B ≤ w.heap.size) (hA : ∀ k, A k → B ≤ k) : Below B w w' :=
  ⟨h.os, h.tape, h.output, h.size, fun k hk => h.block k (by omega) (fun ha => by have := hA k ha; omega)⟩
/-- What came behind left alone all that was there. -/
theorem Turn.then {A : Nat → Prop} {a b c : World} (h : Turn A a b) {B : Nat} (k : Below B b c) (hB : a.heap.size ≤ B) : Turn A a c :=
  ⟨k.os.trans h.os, k.tape.trans h.tape, k.output.trans h.output, Nat.le_trans h.size k.size, fun i hi ha => (k.block i (by omega)).trans (h.block i hi ha)⟩

/-- A node, over whatever its children are. -/
structure Nd (α : Type) where
  kind : Int
  name : ByteArray
  attrs : List (ByteArray × ByteArray)
  text : ByteArray
  kids : List α

/-- Trees of at most so many levels. -/
def T : Nat → Type
  | 0 => Empty
  | n + 1 => Nd (T n)

/-- A list of attributes lies in memory, in blocks from lo on, below hi. -/
def AttrsAt (w : World) (lo hi : Nat) (a : Option Addr) (l : List (ByteArray × ByteArray)) : Prop :=
  ∀ i p, l[i]? = some p → ∃ b o, a = some ⟨b, o, none⟩ ∧ lo ≤ b ∧ b < hi ∧ w.cell? ⟨b, o + i * 2, none⟩ = some (.string p.1) ∧ w.cell? ⟨b, o + i * 2 + 1, none⟩ = some (.string p.2)

/-- A tree's own word: the cells of a struct. -/
def tv (k : Int) (nm : ByteArray) (a : Option Addr) (al ac : Nat) (tx : ByteArray) (ka : Option Addr) (kl kc : Nat) : Array Value :=
  #[.int .i64 k, .string nm, .slice a al ac, .string tx, .slice ka kl kc]

def maxA : Nat := 4398046511104
def maxK : Nat := 1599289640401

/-- A tree lies in memory, in blocks from lo on, below hi. -/
def TreeAt (w : World) (lo hi : Nat) : (n : Nat) → Array Value → T n → Prop
  | 0, _, t => False
  | n + 1, v, t => ∃ (a : Option Addr) (ac : Nat) (ka : Option Addr) (kc : Nat), v = tv t.kind t.name a t.attrs.length ac t.text ka t.kids.length kc ∧
      t.attrs.length ≤ maxA ∧ t.kids.length ≤ maxK ∧ t.attrs.length ≤ ac ∧ t.kids.length ≤ kc ∧ AttrsAt w lo hi a t.attrs ∧
      ∀ i k, t.kids[i]? = some k → ∃ (b o : Nat) (u : Array Value), ka = some ⟨b, o, none⟩ ∧ lo ≤ b ∧ b < hi ∧ u.size = 5 ∧ (∀ j, j < 5 → w.cell? ⟨b, o + i * 5 + j, none⟩ = u[j]?) ∧ TreeAt w lo hi n u k

theorem AttrsAt.of_cells {w w' : World} {lo hi : Nat} {a : Option Addr} {l : List (ByteArray × ByteArray)} (h : AttrsAt w lo hi a l) (hc : ∀ b o, lo ≤ b → b < hi → w'.cell? ⟨b, o, none⟩ = w.cell? ⟨b, o, none⟩) : AttrsAt w' lo hi a l := by
  intro i p hp
  obtain ⟨b, o, h1, h2, h3, h4, h5⟩ := h i p hp
  exact ⟨b, o, h1, h2, h3, (hc _ _ h2 h3).trans h4, (hc _ _ h2 h3).trans h5⟩

theorem TreeAt.of_cells {w w' : World} {lo hi : Nat} (hc : ∀ b o, lo ≤ b → b < hi → w'.cell? ⟨b, o, none⟩ = w.cell? ⟨b, o, none⟩) : ∀ {n : Nat} {v : Array Value} {t : T n}, TreeAt w lo hi n v t → TreeAt w' lo hi n v t
  | 0, _, _, h => h.elim
  | n + 1, v, t, h => by
    obtain ⟨a, ac, ka, kc, h1, h2, h3, h4, h5, h6, h7⟩ := h
    refine ⟨a, ac, ka, kc, h1, h2, h3, h4, h5, h6.of_cells hc, fun i k hk => ?_⟩
    obtain ⟨b, o, u, g1, g2, g3, g4, g5, g6⟩ := h7 i k hk
    exact ⟨b, o, u, g1, g2, g3, g4, fun j hj => (hc _ _ g2 g3).trans (g5 j hj), TreeAt.of_cells hc g6⟩

theorem AttrsAt.mono {w : World} {lo hi lo' hi' : Nat} {a : Option Addr} {l : List (ByteArray × ByteArray)} (h : AttrsAt w lo hi a l) (h1 : lo' ≤ lo) (h2 : hi ≤ hi') : AttrsAt w lo' hi' a l := by
  intro i p hp
  obtain ⟨b, o, g1, g2, g3, g4, g5⟩ := h i p hp
  exact ⟨b, o, g1, by omega, by omega, g4, g5⟩

theorem TreeAt.mono {w : World} {lo hi lo' hi' : Nat} (h1 : lo' ≤ lo) (h2 : hi ≤ hi') : ∀ {n : Nat} {v : Array Value} {t : T n}, TreeAt w lo hi n v t → TreeAt w lo' hi' n v t
  | 0, _, _, h => h.elim
  | n + 1, v, t, h => by
    obtain ⟨a, ac, ka, kc, g1, g2, g3, g4, g5, g6, g7⟩ := h
    refine ⟨a, ac, ka, kc, g1, g2, g3, g4, g5, g6.mono h1 h2, fun i k hk => ?_⟩
    obtain ⟨b, o, u, e1, e2, e3, e4, e5, e6⟩ := g7 i k hk
    exact ⟨b, o, u, e1, by omega, by omega, e4, e5, TreeAt.mono h1 h2 e6⟩

theorem TreeAt.below {w w' : World} {lo hi B n : Nat} {v : Array Value} {t : T n} (h : TreeAt w lo hi n v t) (hb : Below B w w') (hB : hi ≤ B) : TreeAt w' lo hi n v t :=
  h.of_cells (fun b o _ hb' => hb.cell (p := ⟨b, o, none⟩) (show b < B by omega))
theorem TreeAt.turn {w w' : World} {lo hi n : Nat} {v : Array Value} {t : T n} {A : Nat → Prop} (h : TreeAt w lo hi n v t) (ht : Turn A w w') (hs : hi ≤ w.heap.size) (hA : ∀ k, lo ≤ k → k < hi → ¬ A k) : TreeAt w' lo hi n v t :=
  h.of_cells (fun b o hb1 hb2 => World.cell?_of_block (w := w) (a := ⟨b, o, none⟩) (ht.block b (by omega) (hA b hb1 hb2)))

/-- What is wrong with attributes, the name ahead known. -/
def leB (a b : ByteArray) : Bool := Op.bytesLess a.toList b.toList || a.toList == b.toList
def attrsGo : Option ByteArray → List (ByteArray × ByteArray) → Int
  | _, [] => 0
  | prev, p :: r => if nameL p.1.data.toList = false ∨ (∃ q, prev = some q ∧ leB p.1 q = true) then 6 else if (tans p.2.data.toList).2 = 0 then attrsGo (some p.1) r else (tans p.2.data.toList).2
def attrsE (l : List (ByteArray × ByteArray)) : Int := if 32 < l.length then 2 else attrsGo none l
/-- What is wrong with a node itself. -/
def ownE {α : Type} (t : Nd α) : Int :=
  if t.kind = 1 then (if nameL t.name.data.toList then attrsE t.attrs else 6) else if t.kind = 2 then (tans t.text.data.toList).2 else 1
def kidsT {α : Type} (t : Nd α) : List α := if t.kind = 1 then t.kids else []

/-- Node behind node: how many stand ahead, what is wrong. -/
def chkL {α : Type} (f : α → Int → Int × Int) : List α → Int → Int × Int
  | [], a => (a, 0)
  | k :: r, a => if (f k a).2 = 0 then chkL f r (f k a).1 else f k a
def chk : (n : Nat) → T n → Int → Int → Int × Int
  | 0, t, _, a => (a, 0)
  | n + 1, t, d, a => if 64 < d ∨ 4096 ≤ a then (a, 2) else if ownE t = 0 then chkL (fun k x => chk n k (d + 1) x) (kidsT t) (a + 1) else (a, ownE t)

end Go.Proofs.YtmifejkddgcbmabGreat

/- A statement whose order is open, whose operations only read, and whose calls make memory but turn none: one walk serves every order. -/
namespace Go.Proofs.YtmifejkddgcbmabGreat
open Go.RowKit
set_option linter.unusedVariables false
set_option linter.unusedSimpArgs false

/-- A world in which all that was there is as it was. -/
structure Bel (W : World) where
  w : World
  h : Below W.heap.size W w

theorem Bel.cell {W : World} (u : Bel W) (b o : Nat) (h : b < W.heap.size) : u.w.cell? ⟨b, o, none⟩ = W.cell? ⟨b, o, none⟩ := u.h.cell (p := ⟨b, o, none⟩) h
theorem Bel.fz {W : World} (u : Bel W) (b o : Nat) (h : b < W.heap.size) : u.w.frozen? ⟨b, o, none⟩ = W.frozen? ⟨b, o, none⟩ := u.h.frozen (p := ⟨b, o, none⟩) h

theorem wp_region_bel {P : Program} {id : Nat} {Q : Exit → Act → World → Prop} {a : Act} {w : World} {l : List Oper} (hm : P.follows .mixedOrders = true) (hB : Region.lexB .any l.toArray = true)
    (h : Nonempty (Bel w) → wpQuiet P l.toArray (fun w' => ∃ u : Bel w, w' = u.w) (fun a' => ∀ w', (∃ u : Bel w, w' = u.w) → Q .normal a' w') l a) : (Code.region id l.toArray true).wp P Q a w :=
  wp_region_quiet (C := fun w' => ∃ u : Bel w, w' = u.w) hm hB ⟨⟨w.drew, (Below.refl _ _).drew⟩, rfl⟩ (by simpa using h ⟨⟨w, Below.refl _ _⟩⟩)

/-- A callee that makes memory. -/
theorem Calls.bel_of {P : Program} {f : FuncId} {args : Array Value} {W : World} {u : Bel W} {v : Value}
    (h : Calls P f args u.w fun e w' => e = .returned v ∧ Below u.w.heap.size u.w w') : Calls P f args u.w fun e w'' => e = .returned v ∧ ∃ u' : Bel W, w'' = u'.w :=
  h.mono fun _ w' ⟨he, hm⟩ => ⟨he, ⟨w', u.h.trans (hm.mono u.h.size)⟩, rfl⟩
/-- One that makes none. -/
theorem Calls.bel_of_same {P : Program} {f : FuncId} {args : Array Value} {W : World} {u : Bel W} {v : Value}
    (h : Calls P f args u.w fun e w' => e = .returned v ∧ w' = u.w) : Calls P f args u.w fun e w'' => e = .returned v ∧ ∃ u' : Bel W, w'' = u'.w :=
  h.mono fun _ w' ⟨he, hm⟩ => ⟨he, u, hm⟩

theorem bcell {W w1 : World} {B : Nat} (hb : Below B W w1) : (∀ b o, b < B → w1.cell? ⟨b, o, none⟩ = W.cell? ⟨b, o, none⟩) ∧ (∀ b o, b < B → w1.frozen? ⟨b, o, none⟩ = W.frozen? ⟨b, o, none⟩) :=
  ⟨fun b o h => hb.cell (p := ⟨b, o, none⟩) h, fun b o h => hb.frozen (p := ⟨b, o, none⟩) h⟩

end Go.Proofs.YtmifejkddgcbmabGreat
