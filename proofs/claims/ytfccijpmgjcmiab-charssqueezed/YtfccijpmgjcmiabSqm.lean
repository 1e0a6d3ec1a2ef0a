/- Squeezed texts, in plain words: single blanks within alone; squeezed again they are the same. -/
import Derived.Test.YtfccijpmgjcmiabLives
import Derived.Test.YtfccijpmgjcmiabSqueeze
namespace Go.Proofs.Ytfccijpmgjcmiab
set_option linter.unusedVariables false

theorem blankB_iff {c : Nat} : blankB c = true ↔ c = 9 ∨ c = 10 ∨ c = 13 ∨ c = 32 := by simp [blankB]
theorem blankB_not {c : Nat} : blankB c = false ↔ c ≠ 9 ∧ c ≠ 10 ∧ c ≠ 13 ∧ c ≠ 32 := by
  rw [Bool.eq_false_iff, Ne, blankB_iff]
  omega

/-- No blanks but single ones within. -/
def Sqd (X : List UInt8) : Prop := ∀ i (hi : i < X.length), ((X[i]).toNat ≠ 9 ∧ (X[i]).toNat ≠ 10 ∧ (X[i]).toNat ≠ 13) ∧ ((X[i]).toNat = 32 → 0 < i ∧ ∃ h : i + 1 < X.length, (X[i + 1]).toNat ≠ 32)

theorem sqd_nil : Sqd [] := fun i hi => by simp at hi
theorem sqd_one {X : List UInt8} (h : Sqd X) {b : UInt8} (hb : blankB b.toNat = false) : Sqd (X ++ [b]) := by
  rw [blankB_not] at hb
  intro i hi
  rw [List.length_append, List.length_singleton] at hi
  rcases Nat.lt_or_ge i X.length with h1 | h1
  · have e : (X ++ [b])[i] = X[i] := List.getElem_append_left h1
    rw [e]
    obtain ⟨g1, g2⟩ := h i h1
    refine ⟨g1, fun h32 => ?_⟩
    obtain ⟨k1, k2, k3⟩ := g2 h32
    refine ⟨k1, by rw [List.length_append]; omega, ?_⟩
    rw [List.getElem_append_left k2]
    exact k3
  · have hi2 : i = X.length := by omega
    subst hi2
    rw [show (X ++ [b])[X.length] = b by simp]
    exact ⟨⟨hb.1, hb.2.1, hb.2.2.1⟩, fun h32 => absurd h32 hb.2.2.2⟩
theorem sqd_two {X : List UInt8} (h : Sqd X) (hne : X ≠ []) {b : UInt8} (hb : blankB b.toNat = false) : Sqd (X ++ [32, b]) := by
  rw [blankB_not] at hb
  have hl : 0 < X.length := List.length_pos_iff.2 hne
  intro i hi
  have hi' : i < X.length + 2 := by simpa using hi
  rcases Nat.lt_or_ge i X.length with h1 | h1
  · have e : (X ++ [32, b])[i] = X[i] := List.getElem_append_left h1
    rw [e]
    obtain ⟨g1, g2⟩ := h i h1
    refine ⟨g1, fun h32 => ?_⟩
    obtain ⟨k1, k2, k3⟩ := g2 h32
    refine ⟨k1, by rw [List.length_append]; omega, ?_⟩
    rw [List.getElem_append_left k2]
    exact k3
  · by_cases hi2 : i = X.length
    · subst hi2
      rw [show (X ++ [32, b])[X.length] = 32 by simp]
      refine ⟨by decide, fun _ => ⟨hl, by simp, ?_⟩⟩
      rw [show (X ++ [32, b])[X.length + 1]'(by simp) = b by simp]
      exact hb.2.2.2
    · have hi3 : i = X.length + 1 := by omega
      subst hi3
      rw [show (X ++ [32, b])[X.length + 1]'(by simp) = b by simp]
      exact ⟨⟨hb.1, hb.2.1, hb.2.2.1⟩, fun h32 => absurd h32 hb.2.2.2⟩

/-- What the squeezing keeps. -/
theorem sq_inv (l : List UInt8) : ∀ (st : List UInt8 × Bool) (n : Nat) (B : Bool), Sqd st.1 → (st.2 = true → st.1 ≠ []) → st.1.length + (if st.2 = true then 1 else 0) ≤ n → (st.1 = [] ↔ B = true) →
    Sqd (l.foldl sqStep st).1 ∧ (l.foldl sqStep st).1.length ≤ n + l.length ∧ ((l.foldl sqStep st).1 = [] ↔ (B && blankL l) = true) := by
  induction l with
  | nil =>
    intro st n B h1 h2 h3 h4
    refine ⟨h1, ?_, by simpa [blankL] using h4⟩
    simp only [List.foldl_nil, List.length_nil]
    split at h3 <;> omega
  | cons b t ih =>
    intro st n B h1 h2 h3 h4
    rw [List.foldl_cons]
    cases hb : blankB b.toNat
    · have hs : sqStep st b = (st.1 ++ (if st.2 = true then [32, b] else [b]), false) := by simp [sqStep, hb]
      rw [hs]
      have g1 : Sqd (st.1 ++ (if st.2 = true then [32, b] else [b])) := by
        split
        · rename_i hg
          exact sqd_two h1 (h2 hg) hb
        · exact sqd_one h1 hb
      have g3 : (st.1 ++ (if st.2 = true then [32, b] else [b])).length ≤ n + 1 := by
        rw [List.length_append]
        cases hg : st.2 <;> simp [hg] at h3 ⊢ <;> omega
      have g4 : (st.1 ++ (if st.2 = true then [32, b] else [b])) ≠ [] := by
        split <;> simp
      obtain ⟨k1, k2, k3⟩ := ih (st.1 ++ (if st.2 = true then [32, b] else [b]), false) (n + 1) false g1 (by simp) (by simpa using g3) (by simpa using g4)
      refine ⟨k1, by rw [List.length_cons]; omega, ?_⟩
      rw [k3]
      simp [blankL, hb]
    · have hs : sqStep st b = (st.1, decide (0 < st.1.length)) := by simp [sqStep, hb]
      rw [hs]
      obtain ⟨k1, k2, k3⟩ := ih (st.1, decide (0 < st.1.length)) (n + 1) B h1 (fun h he => by simp only at h he; rw [he] at h; simp at h) (by simp only; split <;> (split at h3 <;> omega)) h4
      refine ⟨k1, by rw [List.length_cons]; omega, ?_⟩
      rw [k3]
      simp [blankL, hb]

theorem sq_good (l : List UInt8) : Sqd (sq l).1 ∧ (sq l).1.length ≤ l.length ∧ ((sq l).1 = [] ↔ blankL l = true) := by
  obtain ⟨k1, k2, k3⟩ := sq_inv l ([], false) 0 true sqd_nil (by simp) (by simp) (by simp)
  refine ⟨k1, by simpa [sq] using k2, by simpa [sq] using k3⟩

/-- Squeezed again it is the same. -/
theorem sq_fix : ∀ (n : Nat) (t out : List UInt8), t.length ≤ n → Sqd (out ++ t) → t.foldl sqStep (out, false) = (out ++ t, false) := by
  intro n
  induction n with
  | zero =>
    intro t out hn _
    have : t = [] := List.length_eq_zero_iff.1 (by omega)
    subst this
    simp
  | succ n ih =>
    intro t out hn h
    cases t with
    | nil => simp
    | cons c t =>
      rw [List.length_cons] at hn
      have hc := h out.length (by simp)
      rw [show (out ++ c :: t)[out.length]'(by simp) = c by simp] at hc
      by_cases h32 : c.toNat = 32
      · obtain ⟨k1, k2, k3⟩ := hc.2 h32
        cases t with
        | nil => simp at k2
        | cons d t =>
          rw [show (out ++ c :: d :: t)[out.length + 1]'k2 = d by simp] at k3
          have hd := h (out.length + 1) k2
          rw [show (out ++ c :: d :: t)[out.length + 1]'k2 = d by simp] at hd
          have hdb : blankB d.toNat = false := blankB_not.2 ⟨hd.1.1, hd.1.2.1, hd.1.2.2, k3⟩
          have hcb : blankB c.toNat = true := blankB_iff.2 (by omega)
          have hce : c = 32 := u8eq h32
          rw [List.length_cons] at hn
          rw [List.foldl_cons, List.foldl_cons]
          have s1 : sqStep (out, false) c = (out, true) := by simp [sqStep, hcb, k1]
          have s2 : sqStep (out, true) d = (out ++ [32, d], false) := by simp [sqStep, hdb]
          rw [s1, s2, ih t (out ++ [32, d]) (by omega) (by rw [List.append_assoc, ← hce]; exact h), List.append_assoc, ← hce]
          rfl
      · have hcb : blankB c.toNat = false := blankB_not.2 ⟨hc.1.1, hc.1.2.1, hc.1.2.2, h32⟩
        have s1 : sqStep (out, false) c = (out ++ [c], false) := by simp [sqStep, hcb]
        rw [List.foldl_cons, s1, ih t (out ++ [c]) (by omega) (by rw [List.append_assoc]; exact h), List.append_assoc]
        rfl

theorem sq_same {X : List UInt8} (h : Sqd X) : sq X = (X, false) := by
  have := sq_fix X.length X [] (Nat.le_refl _) (by simpa using h)
  simpa [sq] using this
theorem sq_more {X : List UInt8} (h : Sqd X) : (sq ([32] ++ X ++ [10])).1 = X := by
  have h1 := sq_same h
  unfold sq at h1 ⊢
  rw [List.foldl_append, List.foldl_append]
  have s1 : List.foldl sqStep ([], false) [32] = ([], false) := by decide
  rw [s1, h1]
  simp [sqStep, blankB]

/-! ### The squeezed text is a text -/

theorem fold_non (bs : List UInt8) : ∀ out : List UInt8, (∀ b ∈ bs, blankB b.toNat = false) → bs.foldl sqStep (out, false) = (out ++ bs, false) := by
  induction bs with
  | nil => intro out _; simp
  | cons b t ih =>
    intro out h
    have s1 : sqStep (out, false) b = (out ++ [b], false) := by simp [sqStep, h b (by simp)]
    rw [List.foldl_cons, s1, ih _ (fun x hx => h x (by simp [hx])), List.append_assoc]
    rfl

theorem enc_low {r : Nat} (h : r < 128) : enc r = [r.toUInt8] := by simp [enc, h]
theorem enc_high {r : Nat} (h : 128 ≤ r) (hr : r ≤ 1114111) : ∀ b ∈ enc r, 128 ≤ b.toNat := by
  intro b hb
  unfold enc at hb
  rw [if_neg (by omega)] at hb
  split at hb
  · simp only [List.mem_cons, List.not_mem_nil, or_false] at hb
    rcases hb with rfl | rfl <;> rw [u8n (by omega)] <;> omega
  · split at hb
    · simp only [List.mem_cons, List.not_mem_nil, or_false] at hb
      rcases hb with rfl | rfl | rfl <;> rw [u8n (by omega)] <;> omega
    · simp only [List.mem_cons, List.not_mem_nil, or_false] at hb
      rcases hb with rfl | rfl | rfl | rfl <;> rw [u8n (by omega)] <;> omega

theorem fold_enc {r : Nat} (h : Ch r) (cs : List Nat) (g : Bool) (hc : ∀ r ∈ cs, Ch r) :
    ∃ cs' g', (enc r).foldl sqStep (bytes cs, g) = (bytes cs', g') ∧ ∀ r ∈ cs', Ch r := by
  have hr : r ≤ 1114111 := by unfold Ch at h; omega
  cases hb : blankB r
  · have hnb : ∀ b ∈ enc r, blankB b.toNat = false := by
      intro b hbm
      rcases Nat.lt_or_ge r 128 with h1 | h1
      · rw [enc_low h1, List.mem_singleton] at hbm
        rw [hbm, u8n (by omega)]
        exact hb
      · have := enc_high h1 hr b hbm
        rw [blankB_not]
        omega
    cases hx : enc r with
    | nil =>
      have := enc_pos r
      rw [hx] at this
      simp at this
    | cons b t =>
      rw [hx] at hnb
      rw [List.foldl_cons]
      have s1 : sqStep (bytes cs, g) b = (bytes cs ++ (if g = true then [32, b] else [b]), false) := by simp [sqStep, hnb b (by simp)]
      rw [s1, fold_non t _ (fun x hx => hnb x (by simp [hx]))]
      cases g
      · refine ⟨cs ++ [r], false, ?_, ?_⟩
        · rw [bytes_append, bytes_cons, bytes_nil, List.append_nil, hx]
          simp
        · intro x hx2
          rcases List.mem_append.1 hx2 with h1 | h1
          · exact hc x h1
          · rw [List.mem_singleton] at h1; rw [h1]; exact h
      · refine ⟨cs ++ [32, r], false, ?_, ?_⟩
        · rw [bytes_append, bytes_cons, bytes_cons, bytes_nil, List.append_nil, hx]
          simp [enc_low (show 32 < 128 by omega)]
        · intro x hx2
          rcases List.mem_append.1 hx2 with h1 | h1
          · exact hc x h1
          · simp only [List.mem_cons, List.not_mem_nil, or_false] at h1
            rcases h1 with rfl | rfl
            · decide
            · exact h
  · have hlt : r < 128 := by rw [blankB_iff] at hb; omega
    refine ⟨cs, decide (0 < (bytes cs).length), ?_, hc⟩
    rw [enc_low hlt, List.foldl_cons, List.foldl_nil, sqStep, u8n (by omega), hb, if_pos rfl]

theorem fold_bytes : ∀ (rs cs : List Nat) (g : Bool), (∀ r ∈ rs, Ch r) → (∀ r ∈ cs, Ch r) → ∃ cs' g', (bytes rs).foldl sqStep (bytes cs, g) = (bytes cs', g') ∧ ∀ r ∈ cs', Ch r := by
  intro rs
  induction rs with
  | nil => intro cs g _ hc; exact ⟨cs, g, rfl, hc⟩
  | cons r rs ih =>
    intro cs g hr hc
    obtain ⟨c1, g1, e1, k1⟩ := fold_enc (hr r (by simp)) cs g hc
    obtain ⟨c2, g2, e2, k2⟩ := ih c1 g1 (fun x hx => hr x (by simp [hx])) k1
    exact ⟨c2, g2, by rw [bytes_cons, List.foldl_append, e1, e2], k2⟩

theorem tans_of {l : List UInt8} {rs : List Nat} (hl : l = bytes rs) (hc : ∀ r ∈ rs, Ch r) (h : l.length ≤ 16384) : tans l = (0, 0) := by
  rw [tans, if_neg (by omega), bans, hl, scan_bytes hc]
  rfl

theorem sq_text {l : List UInt8} (h : (tans l).2 = 0) : ∃ cs, (sq l).1 = bytes cs ∧ ∀ r ∈ cs, Ch r := by
  obtain ⟨h1, h2, h3⟩ := tans_ok h
  obtain ⟨cs, g, e, k⟩ := fold_bytes (scan l).1 [] false h3 (by simp)
  refine ⟨cs, ?_, k⟩
  unfold sq
  rw [h2]
  rw [bytes_nil] at e
  rw [e]

theorem sans_ok {l : List UInt8} (h : (tans l).2 = 0) : sans (sq l).1 = ((sq l).1, 0) ∧ ((sq l).1.length + 2 ≤ 16384 → sans ([32] ++ (sq l).1 ++ [10]) = ((sq l).1, 0)) := by
  obtain ⟨cs, e, k⟩ := sq_text h
  obtain ⟨g1, g2, g3⟩ := sq_good l
  have hl := (tans_ok h).1
  constructor
  · have ht := tans_of e k (by omega)
    rw [sans, if_pos (by rw [ht]), sq_same g1]
  · intro hlen
    have ht : tans ([32] ++ (sq l).1 ++ [10]) = (0, 0) := by
      refine tans_of (rs := 32 :: cs ++ [10]) ?_ ?_ ?_
      · have e32 : bytes [32] = [32] := by decide
        have e10 : bytes [10] = [10] := by decide
        rw [e, show (32 :: cs ++ [10] : List Nat) = [32] ++ cs ++ [10] from rfl, bytes_append, bytes_append, e32, e10]
      · intro r hr
        simp only [List.cons_append, List.mem_cons, List.mem_append, List.not_mem_nil, or_false] at hr
        rcases hr with rfl | hr | rfl
        · decide
        · exact k r hr
        · decide
      · simp only [List.length_append, List.length_cons, List.length_nil]
        omega
    rw [sans, if_pos (by rw [ht]), sq_more g1]

end Go.Proofs.Ytfccijpmgjcmiab
