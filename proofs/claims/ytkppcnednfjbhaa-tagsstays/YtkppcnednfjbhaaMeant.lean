/- Which tag an act means. -/
import Derived.Test.YtkppcnednfjbhaaRefReads
namespace Go.Proofs.Ytkppcnednfjbhaa
open Go.RowKit Go.Maps

def meantN (T : List Nat) (how : Int) (tag : Nat) : Nat :=
  if how = 0 ∨ T.length = 0 then tag else
  if tag % (T.length + 1) = 0 then 0 else
  if how = 2 then tg T (T.length + 1 - tag % (T.length + 1)) else tg T (tag % (T.length + 1))

set_option maxRecDepth 100000 in
set_option maxHeartbeats 1000000 in
theorem meant_any (w : World) (db : Nat) (sl : Option (Nat × Nat)) (T : List Nat) (g : Nat) (kind how : Int) (tag oth : Nat) (h : RefAt w db sl T g) (hlen : T.length ≤ 8192) (ht : tag < 18446744073709551616) :
    Calls Try.prog 19 #[.pointer (some ⟨db, 0, none⟩), .agg #[.int .i64 kind, .int .i64 how, .int .u64 (tag : Int), .int .u64 (oth : Int)]] w fun e w' => e = .returned (.int .u64 (meantN T how tag : Int)) ∧ w' = w.alloc (.cells #[.int .i64 kind, .int .i64 how, .int .u64 (tag : Int), .int .u64 (oth : Int)] 38) := by
  obtain ⟨a, cap, hv, _, hc⟩ := h.slice
  have hds := h.head.lt
  have HC : Hid (∀ (i t : Nat), T[i]? = some t → ∃ rb, a = some ⟨rb, 0, none⟩ ∧ w.cell? ⟨rb, i, none⟩ = some (.int .u64 (t : Int))) := hc
  clear hc
  by_cases h0 : how = 0
  · have hb : (how == 0) = true := beq_iff_eq.2 h0
    have e : meantN T how tag = tag := by unfold meantN; rw [if_pos (.inl h0)]
    rw [e]
    clear h0 e h
    go_enter Try.func19, Try.ntmps19
    go_wp2
    go_ret
    exact ⟨rfl, rfl⟩
  · have hb : (how == 0) = false := beq_eq_false_iff_ne.2 h0
    by_cases hn : T.length = 0
    · have hb2 : (((T.length : Nat) : Int) == 0) = true := beq_iff_eq.2 (by omega)
      have e : meantN T how tag = tag := by unfold meantN; rw [if_pos (.inr hn)]
      rw [e]
      clear h0 e h hn
      go_enter Try.func19, Try.ntmps19
      go_wp2
      go_ret
      exact ⟨rfl, rfl⟩
    · have hb2 : (((T.length : Nat) : Int) == 0) = false := beq_eq_false_iff_ne.2 (by omega)
      have e : meantN T how tag = if tag % (T.length + 1) = 0 then 0 else if how = 2 then tg T (T.length + 1 - tag % (T.length + 1)) else tg T (tag % (T.length + 1)) := by
        unfold meantN; rw [if_neg (by rintro (h1 | h1); exact h0 h1; exact hn h1)]
      rw [e]
      have hm1 : ((tag : Int) % (((T.length : Nat) : Int) + 1)) = ((tag % (T.length + 1) : Nat) : Int) := by simp
      have hm2 : tag % (T.length + 1) < T.length + 1 := Nat.mod_lt _ (by omega)
      generalize tag % (T.length + 1) = k at *
      clear e h0
      by_cases hk : k = 0
      · rw [if_pos hk]
        have hb3 : ((k : Int) == 0) = true := beq_iff_eq.2 (by omega)
        have HK : Hid (k = 0) := hk
        clear hk h
        go_enter Try.func19, Try.ntmps19
        go_wp2
        go_ret
        exact ⟨rfl, rfl⟩
      · rw [if_neg hk]
        have hb3 : ((k : Int) == 0) = false := beq_eq_false_iff_ne.2 (by omega)
        by_cases h2 : how = 2
        · rw [if_pos h2]
          have hb4 : (how == 2) = true := beq_iff_eq.2 h2
          obtain ⟨x, hx⟩ : ∃ x, T[T.length - k]? = some x := ⟨_, List.getElem?_eq_getElem (by omega)⟩
          obtain ⟨rb, ha, hcell⟩ := HC.out _ _ hx
          subst ha
          rw [show T.length + 1 - k = T.length - k + 1 from by omega, tg_get hx]
          have hi : Hid (rb < w.heap.size) := World.block_lt_of_cell? w _ hcell
          have hrb := hi.out
          obtain ⟨i, hi'⟩ : ∃ i, i = T.length - k := ⟨_, rfl⟩
          rw [← hi'] at hcell
          have hii : ((T.length : Nat) : Int) + 1 - (k : Int) - 1 = (i : Int) := by omega
          have hi1 : (i : Int) < ((T.length : Nat) : Int) := by omega
          have hk1 : (k : Int) ≤ ((T.length : Nat) : Int) := by omega
          have hk2 : 1 ≤ (k : Int) := by omega
          clear h2 hx h HC hi hi' hk
          go_enter Try.func19, Try.ntmps19
          go_wp2
          go_ret
          exact ⟨rfl, rfl⟩
        · rw [if_neg h2]
          have hb4 : (how == 2) = false := beq_eq_false_iff_ne.2 h2
          obtain ⟨j, rfl⟩ : ∃ j, k = j + 1 := ⟨k - 1, by omega⟩
          obtain ⟨x, hx⟩ : ∃ x, T[j]? = some x := ⟨_, List.getElem?_eq_getElem (by omega)⟩
          obtain ⟨rb, ha, hcell⟩ := HC.out _ _ hx
          subst ha
          rw [tg_get hx]
          have hrb := World.block_lt_of_cell? w _ hcell
          have hj1 : (j : Int) < ((T.length : Nat) : Int) := by omega
          have hjj : ((j + 1 : Nat) : Int) - 1 = (j : Int) := by omega
          clear h2 hx h HC hk
          go_enter Try.func19, Try.ntmps19
          go_wp2
          go_ret
          exact ⟨rfl, rfl⟩

end Go.Proofs.Ytkppcnednfjbhaa
