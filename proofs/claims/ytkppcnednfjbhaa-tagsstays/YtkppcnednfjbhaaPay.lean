/- A spread keeps the labels rising, and what was too much in a window pays for it. Plain numbers alone. -/
import Derived.Test.YtkppcnednfjbhaaPot
namespace Go.Proofs.Ytkppcnednfjbhaa

theorem sumTo_zero {G : Nat → Nat} : ∀ {n : Nat}, (∀ i, i < n → G i = 0) → sumTo G n = 0
  | 0, _ => rfl
  | n + 1, h => by
    simp only [sumTo]
    rw [sumTo_zero (fun i hi => h i (by omega)), h n (by omega)]

theorem sumTo_shift {F : Nat → Nat} {lo : Nat} (h : ∀ i, i < lo → F i = 0) : ∀ m, sumTo F (lo + m) = sumTo (fun k => F (lo + k)) m
  | 0 => sumTo_zero h
  | m + 1 => by
    rw [← Nat.add_assoc]
    simp only [sumTo]
    rw [sumTo_shift h m]

theorem sumTo_tail {F : Nat → Nat} {m : Nat} : ∀ {k : Nat}, (∀ i, m ≤ i → i < m + k → F i = 0) → sumTo F (m + k) = sumTo F m
  | 0, _ => rfl
  | k + 1, h => by
    rw [← Nat.add_assoc]
    simp only [sumTo]
    rw [sumTo_tail (fun i h1 h2 => h i h1 (by omega)), h (m + k) (by omega) (by omega), Nat.add_zero]

theorem sumTo_window {F : Nat → Nat} {lo cnt n : Nat} (hn : lo + cnt ≤ n) (h : ∀ i, i < n → i < lo ∨ lo + cnt ≤ i → F i = 0) : sumTo F n = sumTo (fun k => F (lo + k)) cnt := by
  obtain ⟨k, rfl⟩ : ∃ k, n = lo + cnt + k := ⟨n - (lo + cnt), by omega⟩
  rw [sumTo_tail (fun i h1 h2 => h i h2 (.inr h1)), sumTo_shift (fun i hi => h i (by omega) (.inl hi))]

theorem szK_split {j K : Nat} (h : j ≤ K) : szK K = szK j * 16 ^ (K - j) := by
  unfold szK
  rw [show (16 : Nat) = 2 ^ 4 from rfl, ← Nat.pow_mul, ← Nat.pow_add]
  congr 1
  omega
theorem div_up {j K x : Nat} (h : j ≤ K) : x / szK K = x / szK j / 16 ^ (K - j) := by
  rw [szK_split h, Nat.div_div_eq_div_mul]
theorem in_win {x y k : Nat} : x / szK k = y / szK k ↔ bsK y k ≤ x ∧ x < bsK y k + szK k := by
  have hp := szK_pos k
  rw [bsK_eq]
  constructor
  · intro h
    have h1 := Nat.div_add_mod x (szK k)
    have h2 := Nat.mod_lt x hp
    rw [h] at h1
    omega
  · rintro ⟨h1, h2⟩
    have h3 : szK k * (y / szK k) + szK k = szK k * (y / szK k + 1) := by rw [Nat.mul_add, Nat.mul_one]
    rw [h3] at h2
    apply Nat.le_antisymm
    · have : x / szK k < y / szK k + 1 := by rw [Nat.div_lt_iff_lt_mul hp, Nat.mul_comm]; exact h2
      omega
    · rw [Nat.le_div_iff_mul_le hp, Nat.mul_comm]; exact h1

theorem ext_in {L1 : Nat → Nat} {n c K f l : Nat}
    (hr : ∀ a b, a < b → b ≤ n → a ≠ c + 1 → b ≠ c + 1 → L1 a < L1 b)
    (hE : Ext L1 n c (bsK (L1 c) K) (szK K) f l) {d : Nat} (h1 : f ≤ d) (h2 : d ≤ l) (h3 : d ≠ c + 1) : bsK (L1 c) K ≤ L1 d ∧ L1 d < bsK (L1 c) K + szK K := by
  have hb := bsK_le (L1 c) K
  have hb2 := bsK_lt (L1 c) K
  have := hE.fq
  have := hE.ql
  have := hE.ll
  by_cases e : d ≤ c
  · refine ⟨hE.lo d h1 e, ?_⟩
    by_cases e2 : d = c
    · rw [e2]; exact hb2
    · have := hr d c (by omega) (by omega) (by omega) (by omega)
      omega
  · have := hr c d (by omega) (by omega) (by omega) h3
    exact ⟨by omega, hE.hi d (by omega) h2⟩

theorem ext_below {L1 : Nat → Nat} {n c K f l : Nat}
    (hr : ∀ a b, a < b → b ≤ n → a ≠ c + 1 → b ≠ c + 1 → L1 a < L1 b)
    (hE : Ext L1 n c (bsK (L1 c) K) (szK K) f l) {d : Nat} (h0 : 1 ≤ d) (h1 : d < f) : L1 d < bsK (L1 c) K := by
  have := hE.fq
  have := hE.ql
  have := hE.ll
  rcases hE.out with e | e
  · omega
  · by_cases e2 : d = f - 1
    · rw [e2]; exact e
    · have := hr d (f - 1) (by omega) (by omega) (by omega) (by omega)
      omega

theorem ext_above {L1 : Nat → Nat} {n c K f l : Nat}
    (hr : ∀ a b, a < b → b ≤ n → a ≠ c + 1 → b ≠ c + 1 → L1 a < L1 b)
    (hE : Ext L1 n c (bsK (L1 c) K) (szK K) f l) {d : Nat} (h1 : l < d) (h2 : d ≤ n) : bsK (L1 c) K + szK K ≤ L1 d := by
  have := hE.fq
  have := hE.ql
  rcases hE.past with e | e
  · omega
  · by_cases e2 : d = l + 1
    · rw [e2]; exact e
    · have := hr (l + 1) d (by omega) (by omega) (by omega) (by omega)
      omega


theorem spread_math {L1 L2 : Nat → Nat} {n c K f l : Nat} (hL0 : L1 0 = 0)
    (hr : ∀ a b, a < b → b ≤ n → a ≠ c + 1 → b ≠ c + 1 → L1 a < L1 b) (hl : ∀ a, a ≤ n → L1 a < 4611686018427387904) (hK : K ≤ 13)
    (hE : Ext L1 n c (bsK (L1 c) K) (szK K) f l) (hfit : l - f + 1 ≤ 2 ^ K)
    (hp : K = 0 ∨ ∃ K' f' l', K = K' + 1 ∧ Ext L1 n c (bsK (L1 c) K') (szK K') f' l' ∧ 2 ^ K' < l' - f' + 1)
    (hL2 : ∀ d, L2 d = if f ≤ d ∧ d ≤ l then bsK (L1 c) K + (d - (f - 1)) * (szK K / (l - f + 1 + 1)) else L1 d) :
    (∀ a b, a < b → b ≤ n → L2 a < L2 b) ∧ (∀ a, a ≤ n → L2 a < 4611686018427387904) ∧ 32 * pot (cAll L2 n) + (l - f + 1) ≤ 32 * pot (cOut L1 n c) + 496 := by
  have hf1 := hE.f1
  have hfq := hE.fq
  have hql := hE.ql
  have hll := hE.ll
  have hst := step_ge hfit
  have hst0 : 0 < 2 ^ (9 + 3 * K) := Nat.pow_pos (by decide)
  have htop := bsK_top hK (hl c (by omega))
  have hmul := Nat.div_mul_le_self (szK K) (l - f + 1 + 1)
  generalize hstep : szK K / (l - f + 1 + 1) = step at *
  have hin : ∀ d, f ≤ d → d ≤ l → bsK (L1 c) K < L2 d ∧ L2 d < bsK (L1 c) K + szK K := by
    intro d h1 h2
    rw [hL2, if_pos ⟨h1, h2⟩]
    have h3 : 1 * step ≤ (d - (f - 1)) * step := Nat.mul_le_mul_right _ (by omega)
    have h4 : (d - (f - 1)) * step ≤ (l - f + 1) * step := Nat.mul_le_mul_right _ (by omega)
    have h5 : step * (l - f + 1 + 1) = (l - f + 1) * step + step := by rw [Nat.mul_add, Nat.mul_one, Nat.mul_comm]
    omega
  have hout : ∀ d, ¬ (f ≤ d ∧ d ≤ l) → L2 d = L1 d := fun d h => by rw [hL2, if_neg h]
  refine ⟨?_, ?_, ?_⟩
  · intro a b hab hbn
    by_cases ha : f ≤ a ∧ a ≤ l
    · by_cases hb : f ≤ b ∧ b ≤ l
      · rw [hL2, hL2, if_pos ha, if_pos hb]
        have h3 : (a - (f - 1) + 1) * step ≤ (b - (f - 1)) * step := Nat.mul_le_mul_right _ (by omega)
        rw [Nat.add_mul, Nat.one_mul] at h3
        omega
      · rw [hout b hb]
        have h1 := (hin a ha.1 ha.2).2
        have h2 := ext_above hr hE (d := b) (by omega) hbn
        omega
    · by_cases hb : f ≤ b ∧ b ≤ l
      · rw [hout a ha]
        have h1 := (hin b hb.1 hb.2).1
        by_cases e : a = 0
        · subst e; rw [hL0]; omega
        · have h2 := ext_below hr hE (d := a) (by omega) (by omega)
          omega
      · rw [hout a ha, hout b hb]
        exact hr a b hab hbn (by omega) (by omega)
  · intro a ha
    by_cases h : f ≤ a ∧ a ≤ l
    · have := (hin a h.1 h.2).2
      omega
    · rw [hout a h]; exact hl a ha
  · have hV : ∀ d, f ≤ d → d ≤ l → L2 d / szK K = L1 c / szK K := fun d h1 h2 => in_win.2 ⟨Nat.le_of_lt (hin d h1 h2).1, (hin d h1 h2).2⟩
    have hV1 : ∀ d, f ≤ d → d ≤ l → d ≠ c + 1 → L1 d / szK K = L1 c / szK K := fun d h1 h2 h3 => in_win.2 (ext_in hr hE h1 h2 h3)
    -- windows that no label of the spread can lie in
    have hsame : ∀ s v, (∀ x, x / szK K = L1 c / szK K → x / s ≠ v) → cAll L2 n s v = cOut L1 n c s v := by
      intro s v hv
      refine sumTo_congr (fun i _ => ?_)
      by_cases h : f ≤ i + 1 ∧ i + 1 ≤ l
      · rw [if_neg (hv _ (hV _ h.1 h.2))]
        by_cases e : i = c
        · rw [if_pos e]
        · rw [if_neg e, if_neg (hv _ (hV1 _ h.1 h.2 (by omega)))]
      · rw [hout _ h, if_neg (show ¬ i = c by omega)]
    -- great windows
    have hgreat : ∀ j, K ≤ j → ∀ v, cAll L2 n (szK j) v ≤ cOut L1 n c (szK j) v + if v = L1 c / szK j then 1 else 0 := by
      intro j hj v
      by_cases e : v = L1 c / szK j
      · rw [if_pos e]
        have hone : cAll L2 n (szK j) v ≤ cOut L1 n c (szK j) v + (if c < n then 1 else 0) := by
          refine sumTo_one (fun i _ => ?_)
          by_cases ei : i = c
          · rw [if_pos ei, if_pos ei]; split <;> omega
          · rw [if_neg ei, if_neg ei]
            by_cases h : f ≤ i + 1 ∧ i + 1 ≤ l
            · have h1 : L1 (i + 1) / szK j = v := by rw [e, div_up hj, div_up (x := L1 c) hj, hV1 _ h.1 h.2 (by omega)]
              rw [if_pos h1]; split <;> omega
            · rw [hout _ h]; exact Nat.le_refl _
        split at hone <;> omega
      · rw [if_neg e, Nat.add_zero]
        refine Nat.le_of_eq (hsame _ _ (fun x hx hxv => e ?_))
        rw [← hxv, div_up hj, hx, div_up (x := L1 c) hj]
    -- small windows
    have hsmall : ∀ j, j < K → ∀ v, cAll L2 n (szK j) v - bk j ≤ cOut L1 n c (szK j) v - bk j ∧ (v / 16 ^ (K - j) = L1 c / szK K → cAll L2 n (szK j) v - bk j = 0) := by
      intro j hj v
      by_cases e : v / 16 ^ (K - j) = L1 c / szK K
      · have h0 : cAll L2 n (szK j) v ≤ bk j := by
          have hw : cAll L2 n (szK j) v = sumTo (fun k => if (bsK (L1 c) K + (k + 1) * step) / szK j = v then 1 else 0) (l - f + 1) := by
            unfold cAll
            rw [sumTo_window (lo := f - 1) (cnt := l - f + 1) (by omega)]
            · refine sumTo_congr (fun k hk => ?_)
              have e2 : L2 (f - 1 + k + 1) = bsK (L1 c) K + (k + 1) * step := by
                rw [hL2, if_pos ⟨by omega, by omega⟩, show f - 1 + k + 1 - (f - 1) = k + 1 from by omega]
              rw [e2]
            · intro i hin' hi
              refine if_neg (fun hv => ?_)
              have h1 : ¬ (f ≤ i + 1 ∧ i + 1 ≤ l) := by omega
              rw [hout _ h1] at hv
              have h2 : L1 (i + 1) / szK K = L1 c / szK K := by rw [div_up (Nat.le_of_lt hj), hv, e]
              have h3 := in_win.1 h2
              rcases hi with hi | hi
              · have := ext_below hr hE (d := i + 1) (by omega) (by omega)
                omega
              · have := ext_above hr hE (d := i + 1) (by omega) (by omega)
                omega
          rw [hw]
          rcases apart_count (bsK (L1 c) K) step (szK j) v (szK_pos j) (l - f + 1) with h1 | ⟨h1, _⟩
          · rw [h1]; exact Nat.zero_le _
          · exact few j K _ step hj hK hst h1
        exact ⟨by omega, fun _ => by omega⟩
      · refine ⟨Nat.le_of_eq ?_, fun h => absurd h e⟩
        rw [hsame _ _ (fun x hx hxv => e ?_)]
        rw [← hxv, ← div_up (Nat.le_of_lt hj), hx]
    have hall : ∀ j, j ≤ 12 → ∃ a, ∀ v, cAll L2 n (szK j) v - bk j ≤ (cOut L1 n c (szK j) v - bk j) + if v = a then 1 else 0 := by
      intro j _
      refine ⟨L1 c / szK j, fun v => ?_⟩
      by_cases e : j < K
      · have := (hsmall j e v).1
        omega
      · have h1 := hgreat j (by omega) v
        by_cases e2 : v = L1 c / szK j
        · rw [if_pos e2] at h1 ⊢
          omega
        · rw [if_neg e2] at h1 ⊢
          omega
    rcases hp with e | ⟨K', f', l', e, hE', hlt⟩
    · subst e
      have hone : pot (cAll L2 n) ≤ pot (cOut L1 n c) + 13 := pot_one (fun j _ => ⟨L1 c / szK j, fun v => hgreat j (Nat.zero_le _) v⟩)
      simp at hfit
      omega
    · subst e
      have hv0 : L1 c / szK K' / 16 ^ (K' + 1 - K') = L1 c / szK (K' + 1) := (div_up (by omega)).symm
      have hzero := (hsmall K' (by omega) (L1 c / szK K')).2 hv0
      have hcount : 2 ^ K' ≤ cOut L1 n c (szK K') (L1 c / szK K') := by
        have h1 := hE'.f1
        have h2 := hE'.fq
        have h3 := hE'.ql
        have h4 := hE'.ll
        have hd : ∀ i, f' - 1 ≤ i → i < f' - 1 + (l' - f' + 1) → i ≠ c → (if i = c then 0 else if L1 (i + 1) / szK K' = L1 c / szK K' then 1 else 0) = 1 := by
          intro i ha hb hc
          rw [if_neg hc, if_pos (in_win.2 (ext_in hr hE' (by omega) (by omega) (by omega)))]
        have hsum : l' - f' + 1 ≤ cOut L1 n c (szK K') (L1 c / szK K') + 1 := by
          have h5 : sumTo (fun i => if f' - 1 ≤ i ∧ i < f' - 1 + (l' - f' + 1) then 1 else 0) n ≤ cOut L1 n c (szK K') (L1 c / szK K') + (if c < n then 1 else 0) := by
            refine sumTo_one (fun i _ => ?_)
            by_cases hc : i = c
            · rw [if_pos hc, if_pos hc]; split <;> omega
            · by_cases h6 : f' - 1 ≤ i ∧ i < f' - 1 + (l' - f' + 1)
              · rw [if_pos h6, hd i h6.1 h6.2 hc]; exact Nat.le_add_right _ _
              · rw [if_neg h6]; exact Nat.zero_le _
          have h7 := sumTo_ge_run (f := fun i => if f' - 1 ≤ i ∧ i < f' - 1 + (l' - f' + 1) then 1 else 0) (a := f' - 1) (k := l' - f' + 1) (n := n) (fun i h1 h2 => by rw [if_pos ⟨h1, h2⟩]; exact Nat.le_refl _) (by omega)
          split at h5 <;> omega
        omega
      have hdrop := pot_drop (c := cOut L1 n c) (c' := cAll L2 n) (K := K') (a := L1 c / szK K') (d := 2 ^ K' - bk K') (by omega) hall (fun v => (hsmall K' (by omega) v).1)
        (win_lt (by omega) (hl c (by omega))) (by omega)
      have hpay := pays K' (by omega)
      omega

end Go.Proofs.Ytkppcnednfjbhaa
