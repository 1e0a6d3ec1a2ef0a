/- Both sides answer the same of each function. -/
import Derived.Test.YtoabgmpcdnikeaaGreatDoorXt
import Derived.Test.YtoabgmpcdnikeaaGreatDoorVt
namespace Go.Proofs.YtoabgmpcdnikeaaGreatDoor
open Go.RowKit
set_option linter.unusedVariables false

theorem can_tx2 {k n : Int} {b no : Bool} {t : ByteArray} {L : List ByteArray} (h0 : -9223372036854775808 ≤ n) (h1 : n ≤ 9223372036854775807) (h : canV k (Tx t) (L.map Tx) = true) : (tans (Tx (txV k b n no t L))).2 = 0 := by
  unfold txV
  split
  · cases b
    · exact congrArg Prod.snd (plain_can (l := [102, 97, 108, 115, 101]) (by decide) (by decide))
    · exact congrArg Prod.snd (plain_can (l := [116, 114, 117, 101]) (by decide) (by decide))
  · split
    · split
      · exact congrArg Prod.snd (plain_can (l := [78, 97, 78]) (by decide) (by decide))
      · have := itoa_can n h0 h1
        show (tans (Lib.itoa n)).2 = 0
        rw [this]
    · rename_i k1 k2
      unfold canV at h
      rw [if_neg (by omega)] at h
      split
      · rename_i k3
        rw [if_pos k3] at h
        simpa using h
      · rename_i k3
        rw [if_neg k3] at h
        cases L with
        | nil => exact congrArg Prod.snd (plain_can (l := []) (by decide) (by simp))
        | cons s r =>
          split at h
          · simp only [List.map_cons, List.all_cons, Bool.and_eq_true, decide_eq_true_eq] at h
            exact h.2.1
          · cases h
/-- What a function answers, on both sides: whatever memory the arguments lie in. -/
def Both (name : ByteArray) (ps la : Int) (nm tx : ByteArray) (ta : Option Addr) (tl tc : Nat) (A : List Vl) (k : Int) (b : Bool) (n : Int) (no : Bool) (t : ByteArray) : Prop :=
  (∀ u x xc, AsAt u x A → Gl u → (∀ u', Below u.heap.size u u' → ∃ m, u'.cell? ⟨1, 0, none⟩ = some (.int .i64 m)) → Calls Tryz.prog 48 #[.string name, .agg #[.int .i64 ps, .int .i64 la, .string nm, .string tx, .slice ta tl tc], .slice x A.length xc] u fun e w' => e = .returned (mkV k b n no t) ∧ Below u.heap.size u w') ∧
  (∀ u x xc, AsAt u x A → Calls Tryz.prog 22 #[.string name, .agg #[.int .i64 ps, .int .i64 la, .string nm, .string tx, .slice ta tl tc], .slice x A.length xc] u fun e w' => e = .returned (mkV k b n no t) ∧ Below u.heap.size u w')

theorem both0 (name : ByteArray) (h : Fn0 name) (ps la : Int) (nm tx : ByteArray) (ta : Option Addr) (tl tc : Nat) : ∃ k b n no t, Both name ps la nm tx ta tl tc [] k b n no t := by
  rcases h with rfl | rfl | rfl | rfl | rfl
  · exact ⟨_, _, _, _, _, fun u x xc _ G _ => called_true u G, fun u x xc _ => dcalled_true u⟩
  · exact ⟨_, _, _, _, _, fun u x xc _ G _ => called_false u G, fun u x xc _ => dcalled_false u⟩
  · exact ⟨_, _, _, _, _, fun u x xc _ G _ => called_position u G, fun u x xc _ => dcalled_position u⟩
  · exact ⟨_, _, _, _, _, fun u x xc _ G _ => called_last u G, fun u x xc _ => dcalled_last u⟩
  · exact ⟨_, _, _, _, _, fun u x xc _ G _ => called_name u G, fun u x xc _ => dcalled_name u⟩
theorem at0 {u : World} {x : Option Addr} {v : Vl} {r : List Vl} (h : AsAt u x (v :: r)) : ∃ xa xc b o, AOk u x 0 v xa xc b o := h 0 v rfl
theorem at1 {u : World} {x : Option Addr} {v v2 : Vl} {r : List Vl} (h : AsAt u x (v :: v2 :: r)) : ∃ xa xc b o, AOk u x 1 v2 xa xc b o := h 1 v2 rfl
/-- Whether a value can be, and is in range. -/
structure Fine (v : Vl) : Prop where
  can : v.can = true
  n0 : -9223372036854775808 ≤ v.n
  n1 : v.n ≤ 9223372036854775807
theorem Fine.tx {v : Vl} (h : Fine v) : (tans (Tx (txV v.k v.b v.n v.no v.t v.L))).2 = 0 := can_tx2 h.n0 h.n1 h.can
theorem Fine.small {v : Vl} (h : Fine v) : (txV v.k v.b v.n v.no v.t v.L).size < 4294967281 := by
  have := (tans_ok h.tx).1
  have e : (txV v.k v.b v.n v.no v.t v.L).size = (Tx (txV v.k v.b v.n v.no v.t v.L)).length := by simp
  omega
theorem both1 (name : ByteArray) (h : Fn1 name) (ps la : Int) (nm tx : ByteArray) (ta : Option Addr) (tl tc : Nat) (v : Vl) (hv : Fine v) : ∃ k b n no t, Both name ps la nm tx ta tl tc [v] k b n no t := by
  obtain ⟨vk, vb, vn, vo, vt, vL⟩ := v
  rcases h with rfl | rfl | rfl | rfl | rfl | rfl
  · exact ⟨_, _, _, _, _, fun u x xc hA G _ => by obtain ⟨xa, c, b, o, h0⟩ := at0 hA; exact called_not u G h0, fun u x xc hA => by obtain ⟨xa, c, b, o, h0⟩ := at0 hA; exact dcalled_not u h0⟩
  · exact ⟨_, _, _, _, _, fun u x xc hA G _ => by obtain ⟨xa, c, b, o, h0⟩ := at0 hA; exact called_string u G h0, fun u x xc hA => by obtain ⟨xa, c, b, o, h0⟩ := at0 hA; exact dcalled_string u h0⟩
  · exact ⟨_, _, _, _, _, fun u x xc hA G _ => by obtain ⟨xa, c, b, o, h0⟩ := at0 hA; exact called_number u G h0, fun u x xc hA => by obtain ⟨xa, c, b, o, h0⟩ := at0 hA; exact dcalled_number u h0⟩
  · exact ⟨_, _, _, _, _, fun u x xc hA G _ => by obtain ⟨xa, c, b, o, h0⟩ := at0 hA; exact called_count u G h0, fun u x xc hA => by obtain ⟨xa, c, b, o, h0⟩ := at0 hA; exact dcalled_count u h0 h0.ok.len⟩
  · exact ⟨_, _, _, _, _, fun u x xc hA G _ => by obtain ⟨xa, c, b, o, h0⟩ := at0 hA; exact called_sum u G h0 (can_len hv.can), fun u x xc hA => by obtain ⟨xa, c, b, o, h0⟩ := at0 hA; exact dcalled_sum u h0⟩
  · exact ⟨_, _, _, _, _, fun u x xc hA G _ => by obtain ⟨xa, c, b, o, h0⟩ := at0 hA; exact called_length u G h0, fun u x xc hA => by obtain ⟨xa, c, b, o, h0⟩ := at0 hA; exact dcalled_length u h0 hv.tx⟩
theorem both2 (name : ByteArray) (h : Fn2 name) (ps la : Int) (nm tx : ByteArray) (ta : Option Addr) (tl tc : Nat) (v v2 : Vl) (hv : Fine v) (hv2 : Fine v2) : ∃ k b n no t, Both name ps la nm tx ta tl tc [v, v2] k b n no t := by
  obtain ⟨vk, vb, vn, vo, vt, vL⟩ := v
  obtain ⟨yk, yb, yn, yo, yt, yL⟩ := v2
  rcases h with rfl | rfl
  · exact ⟨_, _, _, _, _, fun u x xc hA G hm => by obtain ⟨xa, c, b, o, h0⟩ := at0 hA; obtain ⟨ya, d, b2, o2, h1⟩ := at1 hA; exact called_contains u G h0 h1 hv.small hm, fun u x xc hA => by obtain ⟨xa, c, b, o, h0⟩ := at0 hA; obtain ⟨ya, d, b2, o2, h1⟩ := at1 hA; exact dcalled_contains u h0 h1⟩
  · exact ⟨_, _, _, _, _, fun u x xc hA G _ => by obtain ⟨xa, c, b, o, h0⟩ := at0 hA; obtain ⟨ya, d, b2, o2, h1⟩ := at1 hA; exact called_starts u G h0 h1, fun u x xc hA => by obtain ⟨xa, c, b, o, h0⟩ := at0 hA; obtain ⟨ya, d, b2, o2, h1⟩ := at1 hA; exact dcalled_starts u h0 h1⟩
/-- How many arguments a function has, on both sides. -/
def NArgs (name : ByteArray) (N : Option Nat) : Prop :=
  (∀ u, Calls Tryz.prog 47 #[.string name] u fun e w' => e = .returned (.tuple #[.int .i64 ((N.getD 0 : Nat) : Int), .bool N.isSome]) ∧ w' = u) ∧ (∀ u, Calls Tryz.prog 21 #[.string name] u fun e w' => e = .returned (.int .i64 (match N with | some k => (k : Int) | none => -1)) ∧ w' = u)
theorem nargs (name : ByteArray) : ∃ N, NArgs name N ∧ (N = none ∨ (N = some 0 ∧ Fn0 name) ∨ (N = some 1 ∧ Fn1 name) ∨ (N = some 2 ∧ Fn2 name)) := by
  rcases Classical.em (Fn0 name) with h0 | h0
  · exact ⟨some 0, ⟨fun u => args0 u name h0, fun u => dtakes0 u name h0⟩, .inr (.inl ⟨rfl, h0⟩)⟩
  rcases Classical.em (Fn1 name) with h1 | h1
  · exact ⟨some 1, ⟨fun u => args1 u name h1, fun u => dtakes1 u name h1⟩, .inr (.inr (.inl ⟨rfl, h1⟩))⟩
  rcases Classical.em (Fn2 name) with h2 | h2
  · exact ⟨some 2, ⟨fun u => args2 u name h2, fun u => dtakes2 u name h2⟩, .inr (.inr (.inr ⟨rfl, h2⟩))⟩
  exact ⟨none, ⟨fun u => argsno u name h0 h1 h2, fun u => dtakesno u name h0 h1 h2⟩, .inl rfl⟩
/-- All of them fine, as many as the function has. -/
theorem both_all (name : ByteArray) (N : Nat) (hN : (some N = some 0 ∧ Fn0 name) ∨ (some N = some 1 ∧ Fn1 name) ∨ (some N = some 2 ∧ Fn2 name)) (ps la : Int) (nm tx : ByteArray) (ta : Option Addr) (tl tc : Nat) (A : List Vl) (hl : A.length = N) (hA : ∀ v ∈ A, Fine v) : ∃ k b n no t, Both name ps la nm tx ta tl tc A k b n no t := by
  rcases hN with ⟨e, h⟩ | ⟨e, h⟩ | ⟨e, h⟩
  · injection e with e
    subst e
    obtain rfl := List.length_eq_zero_iff.1 hl
    exact both0 name h ps la nm tx ta tl tc
  · injection e with e
    subst e
    match A, hl with
    | [v], _ => exact both1 name h ps la nm tx ta tl tc v (hA v (by simp))
  · injection e with e
    subst e
    match A, hl with
    | [v, v2], _ => exact both2 name h ps la nm tx ta tl tc v v2 (hA v (by simp)) (hA v2 (by simp))

end Go.Proofs.YtoabgmpcdnikeaaGreatDoor
