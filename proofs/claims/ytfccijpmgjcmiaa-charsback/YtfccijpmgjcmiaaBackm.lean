/- There and back, in plain words: what is escaped reads as it was, and holds nothing that markup would take for something else. -/
import Derived.Test.YtfccijpmgjcmiaaLives
namespace Go.Proofs.Ytfccijpmgjcmiaa
set_option linter.unusedVariables false

theorem escB_nil {c : Nat} {q : Bool} (h : c ≠ 38 ∧ c ≠ 60 ∧ c ≠ 62 ∧ c ≠ 13 ∧ (q = true → c ≠ 34 ∧ c ≠ 9 ∧ c ≠ 10)) : escB c q = [] := by
  obtain ⟨h1, h2, h3, h4, h5⟩ := h
  unfold escB
  rw [if_neg h1, if_neg h2, if_neg h3, if_neg h4, if_neg (fun h => (h5 h.1).1 h.2), if_neg (fun h => (h5 h.1).2.1 h.2), if_neg (fun h => (h5 h.1).2.2 h.2)]
theorem escB_is (c : Nat) (q : Bool) : (escB c q = [] ∧ c ≠ 38 ∧ c ≠ 60 ∧ c ≠ 62 ∧ c ≠ 13 ∧ (q = true → c ≠ 34 ∧ c ≠ 9 ∧ c ≠ 10)) ∨ (c = 38 ∧ escB c q = [38, 97, 109, 112, 59]) ∨ (c = 60 ∧ escB c q = [38, 108, 116, 59]) ∨ (c = 62 ∧ escB c q = [38, 103, 116, 59]) ∨
    (c = 13 ∧ escB c q = [38, 35, 49, 51, 59]) ∨ (q = true ∧ c = 34 ∧ escB c q = [38, 113, 117, 111, 116, 59]) ∨ (q = true ∧ c = 9 ∧ escB c q = [38, 35, 57, 59]) ∨ (q = true ∧ c = 10 ∧ escB c q = [38, 35, 49, 48, 59]) := by
  by_cases h1 : c = 38
  · subst h1; right; left; exact ⟨rfl, by simp [escB]⟩
  by_cases h2 : c = 60
  · subst h2; right; right; left; exact ⟨rfl, by simp [escB]⟩
  by_cases h3 : c = 62
  · subst h3; right; right; right; left; exact ⟨rfl, by simp [escB]⟩
  by_cases h4 : c = 13
  · subst h4; right; right; right; right; left; exact ⟨rfl, by simp [escB]⟩
  by_cases h5 : q = true ∧ c = 34
  · obtain ⟨rfl, rfl⟩ := h5; right; right; right; right; right; left; exact ⟨rfl, rfl, by simp [escB]⟩
  by_cases h6 : q = true ∧ c = 9
  · obtain ⟨rfl, rfl⟩ := h6; right; right; right; right; right; right; left; exact ⟨rfl, rfl, by simp [escB]⟩
  by_cases h7 : q = true ∧ c = 10
  · obtain ⟨rfl, rfl⟩ := h7; right; right; right; right; right; right; right; exact ⟨rfl, rfl, by simp [escB]⟩
  have h8 : c ≠ 38 ∧ c ≠ 60 ∧ c ≠ 62 ∧ c ≠ 13 ∧ (q = true → c ≠ 34 ∧ c ≠ 9 ∧ c ≠ 10) := ⟨h1, h2, h3, h4, fun hq => ⟨fun h => h5 ⟨hq, h⟩, fun h => h6 ⟨hq, h⟩, fun h => h7 ⟨hq, h⟩⟩⟩
  exact Or.inl ⟨escB_nil h8, h8⟩

theorem enc_low {r : Nat} (h : r < 128) : enc r = [r.toUInt8] := by simp [enc, h]
theorem enc_high {r : Nat} (h : 128 ≤ r) (hr : r ≤ 1114111) : ∀ b ∈ enc r, 128 ≤ b.toNat := by
  intro b hb
  unfold enc at hb
  rw [if_neg (by omega)] at hb
  split at hb
  · simp only [List.mem_cons, List.not_mem_nil, or_false] at hb
    rcases hb with rfl | rfl <;> rw [u8n (by omega)] <;> omega
  · split at hb
    · simp only [List.mem_cons, List.not_mem_nil, or_false] at hb
      rcases hb with rfl | rfl | rfl <;> rw [u8n (by omega)] <;> omega
    · simp only [List.mem_cons, List.not_mem_nil, or_false] at hb
      rcases hb with rfl | rfl | rfl | rfl <;> rw [u8n (by omega)] <;> omega

theorem esc1_high {q : Bool} {b : UInt8} (h : 128 ≤ b.toNat) : esc1 q b = [b] := by
  rw [esc1, if_pos (escB_nil (by omega))]

theorem flatMap_id {f : UInt8 → List UInt8} : ∀ l : List UInt8, (∀ b ∈ l, f b = [b]) → l.flatMap f = l := by
  intro l
  induction l with
  | nil => intro _; rfl
  | cons b t ih =>
    intro h
    rw [List.flatMap_cons, h b (by simp), ih (fun x hx => h x (by simp [hx]))]
    rfl

/-- A character as Escape writes it. -/
def piece (q : Bool) (r : Nat) : List UInt8 := if escB r q = [] then enc r else escB r q

theorem escL_enc (q : Bool) {r : Nat} (h : Ch r) : escL q (enc r) = piece q r := by
  have hr : r ≤ 1114111 := by unfold Ch at h; omega
  rcases Nat.lt_or_ge r 128 with h1 | h1
  · rw [enc_low h1, escL, List.flatMap_cons, List.flatMap_nil, List.append_nil, esc1, u8n (by omega), piece, enc_low h1]
  · rw [piece, if_pos (escB_nil (by omega))]
    exact flatMap_id _ (fun b hb => esc1_high (enc_high h1 hr b hb))
theorem escL_append (q : Bool) (a b : List UInt8) : escL q (a ++ b) = escL q a ++ escL q b := by simp [escL]
theorem escL_bytes (q : Bool) : ∀ rs : List Nat, (∀ r ∈ rs, Ch r) → escL q (bytes rs) = rs.flatMap (piece q) := by
  intro rs
  induction rs with
  | nil => intro _; rfl
  | cons r rs ih =>
    intro h
    rw [bytes_cons, escL_append, escL_enc q (h r (by simp)), ih (fun x hx => h x (by simp [hx])), List.flatMap_cons]

theorem enc_ne {r : Nat} : enc r ≠ [] := by
  intro h
  have := enc_pos r
  rw [h] at this
  simp at this

theorem next_piece (q : Bool) {r : Nat} (h : Ch r) (t : List UInt8) : nextP (piece q r ++ t) = ((r : Int), ((piece q r).length : Int), 0) := by
  have hr : r ≤ 1114111 := by unfold Ch at h; omega
  rcases escB_is r q with ⟨he, hn⟩ | ⟨rfl, he⟩ | ⟨rfl, he⟩ | ⟨rfl, he⟩ | ⟨rfl, he⟩ | ⟨hq, rfl, he⟩ | ⟨hq, rfl, he⟩ | ⟨hq, rfl, he⟩
  · rw [piece, if_pos he]
    have hf := fans_of (first_enc h t)
    obtain ⟨b, u, hbu⟩ : ∃ b u, enc r = b :: u := by
      cases hx : enc r with
      | nil => exact absurd hx enc_ne
      | cons b u => exact ⟨b, u, rfl⟩
    have hb : b.toNat ≠ 38 := by
      rcases Nat.lt_or_ge r 128 with h1 | h1
      · rw [enc_low h1] at hbu
        have : b = r.toUInt8 := ((List.cons.inj hbu).1).symm
        rw [this, u8n (by omega)]
        omega
      · have := enc_high h1 hr b (by rw [hbu]; simp)
        omega
    rw [hbu] at hf ⊢
    rw [List.cons_append] at hf ⊢
    rw [← hf, nextP, if_neg hb]
  all_goals rw [piece, he, if_neg (by simp)]
  all_goals simp [nextP, refP, chk, namedF, nms, List.isPrefixOf, num, dig, charB]

theorem piece_pos (q : Bool) (r : Nat) : 1 ≤ (piece q r).length := by
  unfold piece
  split
  · exact enc_pos r
  · rename_i h
    cases hx : escB r q with
    | nil => exact absurd hx h
    | cons b u => simp

theorem un_pieces (q : Bool) : ∀ (rs : List Nat) (acc : List UInt8) (pos k : Nat), (∀ r ∈ rs, Ch r) → acc.length + (bytes rs).length ≤ 16384 → (rs.flatMap (piece q)).length ≤ k →
    unF k (rs.flatMap (piece q)) acc pos = (acc ++ bytes rs, 0, 0) := by
  intro rs
  induction rs with
  | nil =>
    intro acc pos k _ _ _
    rw [List.flatMap_nil, unF_end, bytes_nil, List.append_nil]
  | cons r rs ih =>
    intro acc pos k hc hlen hk
    have hp := piece_pos q r
    rw [List.flatMap_cons, List.length_append] at hk
    obtain ⟨k', rfl⟩ : ∃ k', k = k' + 1 := ⟨k - 1, by omega⟩
    rw [bytes_cons, List.length_append, enc_length] at hlen
    rw [List.flatMap_cons, unF_step (by intro h; have h1 := congrArg List.length h; rw [List.length_append, List.length_nil] at h1; omega) (next_piece q (hc r (by simp)) _), if_neg (by omega), List.drop_left]
    rw [ih (acc ++ enc r) _ k' (fun x hx => hc x (by simp [hx])) (by rw [List.length_append, enc_length]; omega) (by omega), bytes_cons, List.append_assoc]

/-- THERE AND BACK. -/
theorem back_eq (q : Bool) {l : List UInt8} (h : (tans l).2 = 0) : uans (escL q l) = (l, 0, 0) := by
  obtain ⟨h1, h2, h3⟩ := tans_ok h
  have h4 : escL q l = (scan l).1.flatMap (piece q) := by
    rw [← escL_bytes q _ h3, ← h2]
  rw [uans, h4, un_pieces q _ [] 0 _ h3 (by rw [← h2]; simpa using h1) (Nat.le_refl _), List.nil_append, ← h2]

/-- What is escaped holds none of these. -/
theorem esc_none (q : Bool) (l : List UInt8) : ∀ b ∈ escL q l, b.toNat ≠ 60 ∧ b.toNat ≠ 62 ∧ b.toNat ≠ 13 ∧ (q = true → b.toNat ≠ 34 ∧ b.toNat ≠ 9 ∧ b.toNat ≠ 10) := by
  intro b hb
  rw [escL, List.mem_flatMap] at hb
  obtain ⟨c, _, hb⟩ := hb
  rcases escB_is c.toNat q with ⟨he, hn⟩ | ⟨_, he⟩ | ⟨_, he⟩ | ⟨_, he⟩ | ⟨_, he⟩ | ⟨hq, _, he⟩ | ⟨hq, _, he⟩ | ⟨hq, _, he⟩
  · rw [esc1, if_pos he, List.mem_singleton] at hb
    subst hb
    exact ⟨hn.2.1, hn.2.2.1, hn.2.2.2.1, hn.2.2.2.2⟩
  all_goals rw [esc1, he, if_neg (by simp)] at hb
  all_goals simp only [List.mem_cons, List.not_mem_nil, or_false] at hb
  · rcases hb with rfl | rfl | rfl | rfl | rfl <;> exact ⟨by decide, by decide, by decide, fun _ => by decide⟩
  · rcases hb with rfl | rfl | rfl | rfl <;> exact ⟨by decide, by decide, by decide, fun _ => by decide⟩
  · rcases hb with rfl | rfl | rfl | rfl <;> exact ⟨by decide, by decide, by decide, fun _ => by decide⟩
  · rcases hb with rfl | rfl | rfl | rfl | rfl <;> exact ⟨by decide, by decide, by decide, fun _ => by decide⟩
  · rcases hb with rfl | rfl | rfl | rfl | rfl | rfl <;> exact ⟨by decide, by decide, by decide, fun _ => by decide⟩
  · rcases hb with rfl | rfl | rfl | rfl <;> exact ⟨by decide, by decide, by decide, fun _ => by decide⟩
  · rcases hb with rfl | rfl | rfl | rfl | rfl <;> exact ⟨by decide, by decide, by decide, fun _ => by decide⟩

end Go.Proofs.Ytfccijpmgjcmiaa
