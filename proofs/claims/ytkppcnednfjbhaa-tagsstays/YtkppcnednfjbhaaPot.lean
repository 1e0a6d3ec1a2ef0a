/- How often labels are written: the count of what is too much in each window pays for the spreads. Plain numbers alone. -/
import Derived.Test.YtkppcnednfjbhaaNum
namespace Go.Proofs.Ytkppcnednfjbhaa

def sumTo (f : Nat → Nat) : Nat → Nat
  | 0 => 0
  | n + 1 => sumTo f n + f n

theorem sumTo_le {f g : Nat → Nat} : ∀ {n : Nat}, (∀ i, i < n → f i ≤ g i) → sumTo f n ≤ sumTo g n
  | 0, _ => Nat.le_refl _
  | n + 1, h => Nat.add_le_add (sumTo_le (fun i hi => h i (by omega))) (h n (by omega))

theorem sumTo_congr {f g : Nat → Nat} {n : Nat} (h : ∀ i, i < n → f i = g i) : sumTo f n = sumTo g n :=
  Nat.le_antisymm (sumTo_le (fun i hi => Nat.le_of_eq (h i hi))) (sumTo_le (fun i hi => Nat.le_of_eq (h i hi).symm))

/-- One place more at most. -/
theorem sumTo_one {f g : Nat → Nat} {a d : Nat} : ∀ {n : Nat}, (∀ i, i < n → f i ≤ g i + if i = a then d else 0) → sumTo f n ≤ sumTo g n + (if a < n then d else 0)
  | 0, _ => by simp [sumTo]
  | n + 1, h => by
    have ih := sumTo_one (n := n) (fun i hi => h i (by omega))
    have hn := h n (by omega)
    simp only [sumTo]
    by_cases e : n = a
    · rw [if_pos e] at hn
      rw [if_neg (by omega)] at ih
      rw [if_pos (by omega)]
      omega
    · rw [if_neg e] at hn
      by_cases e2 : a < n
      · rw [if_pos e2] at ih
        rw [if_pos (by omega)]
        omega
      · rw [if_neg e2] at ih
        rw [if_neg (by omega)]
        omega

/-- What one place loses the sum loses. -/
theorem sumTo_drop {f g : Nat → Nat} {a d : Nat} : ∀ {n : Nat}, (∀ i, i < n → f i ≤ g i) → (a < n → f a + d ≤ g a) → a < n → sumTo f n + d ≤ sumTo g n
  | 0, _, _, h => by omega
  | n + 1, h, hd, ha => by
    simp only [sumTo]
    by_cases e : a = n
    · subst e
      have h1 := hd ha
      have h2 := sumTo_le (n := a) (fun i hi => h i (by omega))
      omega
    · have h1 := sumTo_drop (n := n) (fun i hi => h i (by omega)) (fun _ => hd ha) (by omega)
      have h2 := h n (by omega)
      omega

theorem sumTo_ge_run {f : Nat → Nat} {a k : Nat} : ∀ {n : Nat}, (∀ i, a ≤ i → i < a + k → 1 ≤ f i) → a + k ≤ n → k ≤ sumTo f n
  | 0, _, hn => by omega
  | n + 1, h, hn => by
    simp only [sumTo]
    by_cases e : a + k ≤ n
    · have := sumTo_ge_run (n := n) h e
      omega
    · cases k with
      | zero => omega
      | succ k =>
        have h1 := sumTo_ge_run (n := n) (a := a) (k := k) (fun i h1 h2 => h i h1 (by omega)) (by omega)
        have h2 := h n (by omega) (by omega)
        omega

/-- The labels of a chain's places 1 to n in the window v of size s; the place c + 1 is left out. -/
def cOut (L : Nat → Nat) (n c s v : Nat) : Nat := sumTo (fun i => if i = c then 0 else if L (i + 1) / s = v then 1 else 0) n
def cAll (L : Nat → Nat) (n s v : Nat) : Nat := sumTo (fun i => if L (i + 1) / s = v then 1 else 0) n

def bk (j : Nat) : Nat := 2 ^ (j + 1) / 8 + 1
def wins (j : Nat) : Nat := 2 ^ (52 - 4 * j)
/-- What is too much in the windows of one size. -/
def over (cnt : Nat → Nat → Nat) (j : Nat) : Nat := sumTo (fun v => cnt (szK j) v - bk j) (wins j)
def pot (cnt : Nat → Nat → Nat) : Nat := sumTo (over cnt) 13

theorem wins_mul {j : Nat} (h : j ≤ 13) : szK j * wins j = 4611686018427387904 := by
  unfold szK wins
  rw [← Nat.pow_add, show 10 + j * 4 + (52 - 4 * j) = 62 from by omega]
theorem win_lt {x j : Nat} (h : j ≤ 13) (hx : x < 4611686018427387904) : x / szK j < wins j := by
  rw [Nat.div_lt_iff_lt_mul (szK_pos j), Nat.mul_comm, wins_mul h]
  exact hx
theorem bsK_top {x k : Nat} (h : k ≤ 13) (hx : x < 4611686018427387904) : bsK x k + szK k ≤ 4611686018427387904 := by
  rw [bsK_eq, ← wins_mul h]
  have h1 := win_lt h hx
  have h2 : szK k * (x / szK k) + szK k = szK k * (x / szK k + 1) := by rw [Nat.mul_add, Nat.mul_one]
  rw [h2]
  exact Nat.mul_le_mul_left _ h1

/-- A label more, whatever it is: at most one more in each size. -/
theorem pot_one {c c' : Nat → Nat → Nat} (h : ∀ j, j ≤ 12 → ∃ a, ∀ v, c' (szK j) v ≤ c (szK j) v + if v = a then 1 else 0) : pot c' ≤ pot c + 13 := by
  unfold pot
  have : ∀ n, n ≤ 13 → sumTo (over c') n ≤ sumTo (over c) n + n := by
    intro n
    induction n with
    | zero => intro _; exact Nat.le_refl _
    | succ n ih =>
      intro hn
      have h1 := ih (by omega)
      obtain ⟨a, ha⟩ := h n (by omega)
      have h2 : over c' n ≤ over c n + (if a < wins n then 1 else 0) := by
        unfold over
        refine sumTo_one (fun v _ => ?_)
        have h3 := ha v
        split at h3 <;> split <;> omega
      simp only [sumTo]
      split at h2 <;> omega
  exact this 13 (Nat.le_refl _)

/-- .. and one size loses what it had too much in one window. -/
theorem pot_drop {c c' : Nat → Nat → Nat} {K a d : Nat} (hK : K < 13) (h : ∀ j, j ≤ 12 → ∃ a, ∀ v, c' (szK j) v - bk j ≤ (c (szK j) v - bk j) + if v = a then 1 else 0)
    (hd : ∀ v, c' (szK K) v - bk K ≤ c (szK K) v - bk K) (ha : a < wins K) (hda : c' (szK K) a - bk K + d ≤ c (szK K) a - bk K) : pot c' + d ≤ pot c + 13 := by
  unfold pot
  have : ∀ n, n ≤ 13 → sumTo (over c') n + (if K < n then d else 0) ≤ sumTo (over c) n + n := by
    intro n
    induction n with
    | zero => intro _; simp [sumTo]
    | succ n ih =>
      intro hn
      have h1 := ih (by omega)
      simp only [sumTo]
      by_cases e : n = K
      · subst e
        have h2 : over c' n + d ≤ over c n := by
          unfold over
          exact sumTo_drop (fun v _ => hd v) (fun _ => hda) ha
        rw [if_neg (by omega)] at h1
        rw [if_pos (by omega)]
        omega
      · obtain ⟨a', ha'⟩ := h n (by omega)
        have h2 : over c' n ≤ over c n + (if a' < wins n then 1 else 0) := by
          unfold over
          exact sumTo_one (fun v _ => ha' v)
        have h3 : (if K < n + 1 then d else 0) = (if K < n then d else 0) := by
          by_cases e2 : K < n
          · rw [if_pos e2, if_pos (by omega)]
          · rw [if_neg e2, if_neg (by omega)]
        rw [h3]
        split at h2 <;> omega
  have h4 := this 13 (Nat.le_refl _)
  rw [if_pos hK] at h4
  exact h4

/-- Labels a step apart: how many can lie in one window. -/
theorem apart_count (base step s v : Nat) (hs : 0 < s) : ∀ n, sumTo (fun k => if (base + (k + 1) * step) / s = v then 1 else 0) n = 0 ∨
    ((sumTo (fun k => if (base + (k + 1) * step) / s = v then 1 else 0) n - 1) * step < s ∧ s * v + (sumTo (fun k => if (base + (k + 1) * step) / s = v then 1 else 0) n - 1) * step ≤ base + n * step)
  | 0 => .inl rfl
  | n + 1 => by
    have ih := apart_count base step s v hs n
    simp only [sumTo]
    generalize sumTo (fun k => if (base + (k + 1) * step) / s = v then 1 else 0) n = N at *
    have e1 : (n + 1) * step = n * step + step := by rw [Nat.add_mul, Nat.one_mul]
    by_cases hh : (base + (n + 1) * step) / s = v
    · rw [if_pos hh]
      right
      have h1 := Nat.div_add_mod (base + (n + 1) * step) s
      have h2 := Nat.mod_lt (base + (n + 1) * step) hs
      rw [hh] at h1
      rw [Nat.add_sub_cancel]
      rcases ih with ih | ⟨_, ih⟩
      · subst ih
        rw [Nat.zero_mul]
        exact ⟨hs, by omega⟩
      · cases N with
        | zero => rw [Nat.zero_mul]; exact ⟨hs, by omega⟩
        | succ M =>
          rw [Nat.add_sub_cancel] at ih
          have e2 : (M + 1) * step = M * step + step := by rw [Nat.add_mul, Nat.one_mul]
          rw [e2]
          exact ⟨by omega, by omega⟩
    · rw [if_neg hh, Nat.add_zero]
      rcases ih with ih | ⟨ih1, ih2⟩
      · exact .inl ih
      · exact .inr ⟨ih1, by omega⟩

theorem step_ge {K cnt : Nat} (h : cnt ≤ 2 ^ K) : 2 ^ (9 + 3 * K) ≤ szK K / (cnt + 1) := by
  rw [Nat.le_div_iff_mul_le (by omega)]
  have h1 : cnt + 1 ≤ 2 ^ (K + 1) := by
    have : 0 < 2 ^ K := Nat.pow_pos (by decide)
    rw [Nat.pow_succ]
    omega
  have h2 : 2 ^ (9 + 3 * K) * 2 ^ (K + 1) = szK K := by
    unfold szK
    rw [← Nat.pow_add, show 9 + 3 * K + (K + 1) = 10 + K * 4 from by omega]
  rw [← h2]
  exact Nat.mul_le_mul_left _ h1

theorem few (j K N step : Nat) (hj : j < K) (hK : K ≤ 13) (hs : 2 ^ (9 + 3 * K) ≤ step) (h : (N - 1) * step < szK j) : N ≤ bk j := by
  have h1 : 2 ^ (12 + 3 * j) ≤ step := Nat.le_trans (Nat.pow_le_pow_right (by decide) (by omega)) hs
  have h2 : (N - 1) * 2 ^ (12 + 3 * j) < szK j := Nat.lt_of_le_of_lt (Nat.mul_le_mul_left _ h1) h
  clear h h1 hs
  have hj' : j ≤ 12 := by omega
  clear hj hK
  unfold szK at h2
  unfold bk
  have : j = 0 ∨ j = 1 ∨ j = 2 ∨ j = 3 ∨ j = 4 ∨ j = 5 ∨ j = 6 ∨ j = 7 ∨ j = 8 ∨ j = 9 ∨ j = 10 ∨ j = 11 ∨ j = 12 := by omega
  rcases this with rfl | rfl | rfl | rfl | rfl | rfl | rfl | rfl | rfl | rfl | rfl | rfl | rfl <;> simp only [Nat.reduceMul, Nat.reduceAdd, Nat.reducePow, Nat.reduceDiv] at h2 ⊢ <;> omega

theorem pays (K : Nat) (hK : K < 13) : 2 ^ (K + 1) + 32 * 13 ≤ 496 + 32 * (2 ^ K - bk K) := by
  have : K = 0 ∨ K = 1 ∨ K = 2 ∨ K = 3 ∨ K = 4 ∨ K = 5 ∨ K = 6 ∨ K = 7 ∨ K = 8 ∨ K = 9 ∨ K = 10 ∨ K = 11 ∨ K = 12 := by omega
  rcases this with rfl | rfl | rfl | rfl | rfl | rfl | rfl | rfl | rfl | rfl | rfl | rfl | rfl <;> decide

end Go.Proofs.Ytkppcnednfjbhaa
