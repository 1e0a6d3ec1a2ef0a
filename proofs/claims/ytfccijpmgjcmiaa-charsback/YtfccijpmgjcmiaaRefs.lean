/- References in plain words: a number's digits, a name, what stands at a place, the whole text read. -/
import Derived.Test.YtfccijpmgjcmiaaText
namespace Go.Proofs.Ytfccijpmgjcmiaa
set_option linter.unusedVariables false

/-- What a digit counts; 16: it is none. -/
def dig (b : Nat) : Nat := if 48 ≤ b ∧ b ≤ 57 then b - 48 else if 97 ≤ b ∧ b ≤ 102 then b - 87 else if 65 ≤ b ∧ b ≤ 70 then b - 55 else 16
theorem dig_is (b : Nat) : (48 ≤ b ∧ b ≤ 57 ∧ dig b = b - 48) ∨ (97 ≤ b ∧ b ≤ 102 ∧ dig b = b - 87) ∨ (65 ≤ b ∧ b ≤ 70 ∧ dig b = b - 55) ∨ (¬ (48 ≤ b ∧ b ≤ 57) ∧ ¬ (97 ≤ b ∧ b ≤ 102) ∧ ¬ (65 ≤ b ∧ b ≤ 70) ∧ dig b = 16) := by
  unfold dig
  split
  · omega
  · split
    · omega
    · split <;> omega

/-- A number's digits from the i-th on (r: what those ahead count), and the ; behind them: the number, how many bytes it has with 'off' ahead, what is wrong. -/
def num (base most off : Nat) : Nat → Nat → List UInt8 → Int × Int × Int
  | _, _, [] => (0, 0, 4)
  | i, r, b :: t => if b.toNat = 59 ∧ 0 < i then ((r : Int), ((off + i + 1 : Nat) : Int), 0) else if base ≤ dig b.toNat ∨ i = most then (0, 0, 20) else num base most off (i + 1) (r * base + dig b.toNat) t

def nms : List (List UInt8 × Nat) := [([38, 97, 109, 112, 59], 38), ([38, 108, 116, 59], 60), ([38, 103, 116, 59], 62), ([38, 113, 117, 111, 116, 59], 34), ([38, 97, 112, 111, 115, 59], 39)]
def namedF : List (List UInt8 × Nat) → List UInt8 → Int × Int × Int
  | [], _ => (0, 0, 20)
  | (x, r) :: t, l => if x.isPrefixOf l = true then ((r : Int), (x.length : Int), 0) else if l.isPrefixOf x = true then (0, 0, 4) else namedF t l

/-- The reference with which a list of bytes begins; whether its character can be is not asked. -/
def refP (l : List UInt8) : Int × Int × Int :=
  if ([38, 35, 120] : List UInt8).isPrefixOf l = true then num 16 6 3 0 0 (l.drop 3) else if ([38, 35] : List UInt8).isPrefixOf l = true then num 10 7 2 0 0 (l.drop 2) else namedF nms l

def chk (p : Int × Int × Int) : Int × Int × Int := if p.2.2 = 0 ∧ charB p.1 = false then (0, 0, 7) else p

/-- What stands at the beginning: a character, itself or as a reference. -/
def nextP (l : List UInt8) : Int × Int × Int :=
  match l with
  | [] => (0, 0, 4)
  | b :: _ => if b.toNat = 38 then chk (refP l) else fans l

/-- What comes of a text: what is read (acc) up to a place (pos), the rest. -/
def unF : Nat → List UInt8 → List UInt8 → Nat → List UInt8 × Int × Int
  | 0, _, acc, _ => (acc, 0, 0)
  | k + 1, l, acc, pos =>
    if l = [] then (acc, 0, 0)
    else if (nextP l).2.2 ≠ 0 then ([], (pos : Int), (nextP l).2.2)
    else if 16384 < acc.length + size (nextP l).1.toNat then ([], (pos : Int), 2)
    else unF k (l.drop (nextP l).2.1.toNat) (acc ++ enc (nextP l).1.toNat) (pos + (nextP l).2.1.toNat)
/-- What Unescape answers. -/
def uans (l : List UInt8) : List UInt8 × Int × Int := unF l.length l [] 0

theorem num_ok (base most off : Nat) (t : List UInt8) : ∀ i r : Nat, (num base most off i r t).2.2 = 0 → ∃ (R j : Nat), num base most off i r t = ((R : Int), ((off + j + 1 : Nat) : Int), 0) ∧ i ≤ j ∧ j - i + 1 ≤ t.length := by
  induction t with
  | nil => intro i r h; simp [num] at h
  | cons b t ih =>
    intro i r h
    rw [num] at h ⊢
    split
    · rename_i h1
      exact ⟨r, i, rfl, Nat.le_refl _, by simp⟩
    · rename_i h1
      rw [if_neg h1] at h
      split
      · rename_i h2
        rw [if_pos h2] at h
        simp at h
      · rename_i h2
        rw [if_neg h2] at h
        obtain ⟨R, j, e1, e2, e3⟩ := ih (i + 1) _ h
        exact ⟨R, j, e1, by omega, by simp; omega⟩

theorem isPre {x l : List UInt8} (h : x.isPrefixOf l = true) : x.length ≤ l.length := by
  obtain ⟨t, rfl⟩ := List.isPrefixOf_iff_prefix.1 h
  simp

theorem namedF_ok (l : List UInt8) : ∀ ns : List (List UInt8 × Nat), (∀ p ∈ ns, 1 ≤ p.1.length) → (namedF ns l).2.2 = 0 → ∃ R n : Nat, namedF ns l = ((R : Int), (n : Int), 0) ∧ 1 ≤ n ∧ n ≤ l.length := by
  intro ns
  induction ns with
  | nil => intro _ h; simp [namedF] at h
  | cons p ns ih =>
    obtain ⟨x, r⟩ := p
    intro hp h
    rw [namedF] at h ⊢
    split
    · rename_i h1
      exact ⟨r, x.length, rfl, hp (x, r) (by simp), isPre h1⟩
    · rename_i h1
      rw [if_neg h1] at h
      split
      · rename_i h2
        rw [if_pos h2] at h
        simp at h
      · rename_i h2
        rw [if_neg h2] at h
        exact ih (fun p hp' => hp p (by simp [hp'])) h

theorem refP_ok {l : List UInt8} (h : (refP l).2.2 = 0) : ∃ R n : Nat, refP l = ((R : Int), (n : Int), 0) ∧ 1 ≤ n ∧ n ≤ l.length := by
  unfold refP at h ⊢
  split
  · rename_i h1
    rw [if_pos h1] at h
    have hl := isPre h1
    simp at hl
    obtain ⟨R, j, e1, e2, e3⟩ := num_ok 16 6 3 _ 0 0 h
    rw [List.length_drop] at e3
    exact ⟨R, _, e1, by omega, by omega⟩
  · rename_i h1
    rw [if_neg h1] at h
    split
    · rename_i h2
      rw [if_pos h2] at h
      have hl := isPre h2
      simp at hl
      obtain ⟨R, j, e1, e2, e3⟩ := num_ok 10 7 2 _ 0 0 h
      rw [List.length_drop] at e3
      exact ⟨R, _, e1, by omega, by omega⟩
    · rename_i h2
      rw [if_neg h2] at h
      exact namedF_ok l nms (by decide) h

theorem chk_ok {p : Int × Int × Int} (h : (chk p).2.2 = 0) : chk p = p ∧ p.2.2 = 0 ∧ charB p.1 = true := by
  unfold chk at h ⊢
  split
  · rename_i h1
    rw [if_pos h1] at h
    simp at h
  · rename_i h1
    rw [if_neg h1] at h
    refine ⟨rfl, h, ?_⟩
    cases hc : charB p.1
    · exact absurd ⟨h, hc⟩ h1
    · rfl

theorem nextP_ok {l : List UInt8} (h : (nextP l).2.2 = 0) : ∃ R n : Nat, nextP l = ((R : Int), (n : Int), 0) ∧ Ch R ∧ 1 ≤ n ∧ n ≤ l.length := by
  cases l with
  | nil => simp [nextP] at h
  | cons b t =>
    by_cases hb : b.toNat = 38
    · have e : nextP (b :: t) = chk (refP (b :: t)) := by simp [nextP, hb]
      rw [e] at h ⊢
      obtain ⟨e1, e2, e3⟩ := chk_ok h
      obtain ⟨R, n, e4, e5, e6⟩ := refP_ok e2
      rw [e1, e4]
      rw [e4, charB_nat] at e3
      exact ⟨R, n, rfl, by simpa using e3, e5, e6⟩
    · have e : nextP (b :: t) = fans (b :: t) := by simp [nextP, hb]
      rw [e] at h ⊢
      cases hf : first (b :: t) with
      | none => simp [fans, hf] at h
      | some p =>
        obtain ⟨r, n⟩ := p
        obtain ⟨h1, h2, u, h3⟩ := first_some hf
        have h4 := congrArg List.length h3
        rw [List.length_append] at h4
        have h5 := enc_pos r
        exact ⟨r, n, fans_of hf, h1, by omega, by omega⟩

end Go.Proofs.Ytfccijpmgjcmiaa
