/- Windows of labels: their sizes and beginnings; which places of a chain lie in one. Plain numbers alone. -/
namespace Go.Proofs.Ytkppcnednfjbhaa

def szK (k : Nat) : Nat := 2 ^ (10 + k * 4)
def bsK (x k : Nat) : Nat := x - x % szK k

theorem szK_pos (k : Nat) : 0 < szK k := Nat.pow_pos (by decide)
theorem szK_succ (k : Nat) : szK (k + 1) = 16 * szK k := by
  unfold szK
  rw [show 10 + (k + 1) * 4 = (10 + k * 4) + 4 from by omega, Nat.pow_add]
  omega
theorem bsK_le (x k : Nat) : bsK x k ≤ x := Nat.sub_le _ _
theorem bsK_eq (x k : Nat) : bsK x k = szK k * (x / szK k) := by
  unfold bsK
  have := Nat.div_add_mod x (szK k)
  omega
theorem bsK_lt (x k : Nat) : x < bsK x k + szK k := by
  unfold bsK
  have := Nat.mod_lt x (szK_pos k)
  have := Nat.mod_le x (szK k)
  omega
theorem bsK_mono (x k : Nat) : bsK x (k + 1) ≤ bsK x k ∧ bsK x k + szK k ≤ bsK x (k + 1) + szK (k + 1) := by
  have hp := szK_pos k
  rw [bsK_eq, bsK_eq, szK_succ]
  have e : x / (16 * szK k) = x / szK k / 16 := by rw [Nat.mul_comm, Nat.div_div_eq_div_mul]
  rw [e]
  generalize x / szK k = y
  generalize szK k = s at *
  have h1 := Nat.div_add_mod y 16
  have h2 := Nat.mod_lt y (show 0 < 16 by decide)
  constructor
  · rw [Nat.mul_comm 16 s, Nat.mul_assoc]
    exact Nat.mul_le_mul_left _ (by omega)
  · rw [Nat.mul_comm 16 s, Nat.mul_assoc, ← Nat.mul_add]
    calc s * y + s = s * (y + 1) := by rw [Nat.mul_add, Nat.mul_one]
      _ ≤ s * (16 * (y / 16) + 16) := Nat.mul_le_mul_left _ (by omega)
theorem szK_le {k : Nat} (h : k ≤ 13) : 1024 ≤ szK k ∧ szK k ≤ 4611686018427387904 := by
  unfold szK
  constructor
  · exact Nat.pow_le_pow_right (n := 2) (by decide) (show 10 ≤ 10 + k * 4 by omega)
  · exact Nat.pow_le_pow_right (n := 2) (by decide) (show 10 + k * 4 ≤ 62 by omega)

/-- The places f to l of a chain (labels L, q + 1 the one without a label) are just those that lie in the window of size sz at bs. -/
structure Ext (L : Nat → Nat) (len q bs sz f l : Nat) : Prop where
  f1 : 1 ≤ f
  fq : f ≤ q + 1
  ql : q + 1 ≤ l
  ll : l ≤ len
  lo : ∀ c, f ≤ c → c ≤ q → bs ≤ L c
  out : f = 1 ∨ L (f - 1) < bs
  hi : ∀ c, q + 2 ≤ c → c ≤ l → L c < bs + sz
  past : l = len ∨ bs + sz ≤ L (l + 1)

end Go.Proofs.Ytkppcnednfjbhaa
