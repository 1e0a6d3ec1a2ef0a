/- The document's own list in memory (the order itself, as a slice of tags), and what its calls that only read answer. -/
import Derived.Test.YtkppcnednfjbhaaFacts
namespace Go.Proofs.Ytkppcnednfjbhaa
open Go.RowKit Go.Maps

def rowVals (L : List Nat) : List Value := L.map fun t : Nat => .int .u64 (t : Int)
def slv (L : List Nat) : Option (Nat × Nat) → Value
  | none => .slice none 0 0
  | some (rb, cap) => .slice (some ⟨rb, 0, none⟩) L.length cap

def RowAt (w : World) (L : List Nat) : Option (Nat × Nat) → Prop
  | none => L = []
  | some (rb, cap) => ∃ cur, w.heap[rb]? = some (.cells cur 26 (0, 0)) ∧ L.length ≤ cap ∧ cap ≤ maxLen ∧ cur.size = cap ∧ cur.toList.take L.length = rowVals L

structure RefAt (w : World) (db : Nat) (sl : Option (Nat × Nat)) (L : List Nat) (g : Nat) : Prop where
  head : IsCells w db #[slv L sl, .int .u64 (g : Int)]
  row : RowAt w L sl
  ne : ∀ rb cap, sl = some (rb, cap) → rb ≠ db

theorem RowAt.cell {w : World} {L : List Nat} {rb cap : Nat} (h : RowAt w L (some (rb, cap))) {i : Nat} {t : Nat} (hi : L[i]? = some t) : w.cell? ⟨rb, i, none⟩ = some (.int .u64 (t : Int)) := by
  obtain ⟨cur, hb, h1, h2, h3, h4⟩ := h
  have hlt := (List.getElem?_eq_some_iff.1 hi).1
  have h5 := congrArg (fun l => l[i]?) h4
  simp only [rowVals, List.getElem?_map, hi, Option.map_some, List.getElem?_take_of_lt hlt] at h5
  simp [World.cell?, hb]
  simpa using h5

theorem RowAt.of_block {w w' : World} {L : List Nat} {sl : Option (Nat × Nat)} (h : RowAt w L sl) (hb : ∀ rb cap, sl = some (rb, cap) → w'.heap[rb]? = w.heap[rb]?) : RowAt w' L sl := by
  cases sl with
  | none => exact h
  | some p =>
    obtain ⟨rb, cap⟩ := p
    obtain ⟨cur, h1, r⟩ := h
    exact ⟨cur, (hb rb cap rfl).trans h1, r⟩

def ROwn (db : Nat) (sl : Option (Nat × Nat)) (k : Nat) : Prop := k = db ∨ ∃ cap, sl = some (k, cap)

theorem RefAt.own_lt {w : World} {db : Nat} {sl : Option (Nat × Nat)} {L : List Nat} {g k : Nat} (h : RefAt w db sl L g) (hk : ROwn db sl k) : k < w.heap.size := by
  rcases hk with rfl | ⟨cap, rfl⟩
  · exact h.head.lt
  · obtain ⟨cur, hb, _⟩ := h.row
    exact (Array.getElem?_eq_some_iff.1 hb).1

theorem RefAt.of_turn {w w' : World} {db : Nat} {sl : Option (Nat × Nat)} {L : List Nat} {g : Nat} {A : Nat → Prop} (h : RefAt w db sl L g) (ht : Turn A w w') (hA : ∀ k, ROwn db sl k → ¬ A k) : RefAt w' db sl L g :=
  ⟨h.head.of_block (ht.block _ (h.own_lt (.inl rfl)) (hA _ (.inl rfl))), h.row.of_block (fun _ cap e => ht.block _ (h.own_lt (.inr ⟨cap, e⟩)) (hA _ (.inr ⟨cap, e⟩))), h.ne⟩

theorem RefAt.drewN {w : World} {db : Nat} {sl : Option (Nat × Nat)} {L : List Nat} {g : Nat} (h : RefAt w db sl L g) (n : Nat) : RefAt (w.drewN n) db sl L g :=
  h.of_turn (A := fun _ => False) ((Turn.refl _ w).drewN n) (fun _ _ hf => hf)

/-- The slice is nil, or it has its cells. -/
theorem RefAt.slice {w : World} {db : Nat} {sl : Option (Nat × Nat)} {L : List Nat} {g : Nat} (h : RefAt w db sl L g) :
    ∃ a cap, w.cell? ⟨db, 0, none⟩ = some (.slice a L.length cap) ∧ w.cell? ⟨db, 1, none⟩ = some (.int .u64 (g : Int)) ∧ ∀ (i t : Nat), L[i]? = some t → ∃ rb, a = some ⟨rb, 0, none⟩ ∧ w.cell? ⟨rb, i, none⟩ = some (.int .u64 (t : Int)) := by
  cases sl with
  | none =>
    have hL : L = [] := h.row
    subst hL
    exact ⟨none, 0, by rw [h.head.cell]; rfl, by rw [h.head.cell]; rfl, fun i t hi => by simp at hi⟩
  | some p =>
    obtain ⟨rb, cap⟩ := p
    exact ⟨_, cap, by rw [h.head.cell]; rfl, by rw [h.head.cell]; rfl, fun i t hi => ⟨rb, rfl, h.row.cell hi⟩⟩

/-- Where a tag stands, as the document's list tells it. -/
def atI (L : List Nat) (t : Nat) : Int := match pos L t with | none => -1 | some c => c

set_option maxHeartbeats 400000 in
theorem rat_zero (w : World) (db : Nat) : Calls Try.prog 28 #[.pointer (some ⟨db, 0, none⟩), .int .u64 0] w fun e w' => e = .returned (.int .i64 0) ∧ w' = w := by
  go_enter Try.func28, Try.ntmps28
  go_wp2
  go_ret
  exact ⟨rfl, rfl⟩

set_option maxRecDepth 100000 in
set_option maxHeartbeats 400000 in
theorem rat_tag (w : World) (db : Nat) (L : List Nat) (t : Nat) (a : Option Addr) (cap : Nat) (hl : w.cell? ⟨db, 0, none⟩ = some (.slice a L.length cap)) (hc : ∀ (i t : Nat), L[i]? = some t → ∃ rb, a = some ⟨rb, 0, none⟩ ∧ w.cell? ⟨rb, i, none⟩ = some (.int .u64 (t : Int))) (ht : 0 < t) (hlen : L.length ≤ 8192) :
    Calls Try.prog 28 #[.pointer (some ⟨db, 0, none⟩), .int .u64 (t : Int)] w fun e w' => e = .returned (.int .i64 (atI L t)) ∧ w' = w := by
  have HC : Hid (∀ (i t : Nat), L[i]? = some t → ∃ rb, a = some ⟨rb, 0, none⟩ ∧ w.cell? ⟨rb, i, none⟩ = some (.int .u64 (t : Int))) := hc
  have hz : ((t : Int) == 0) = false := beq_eq_false_iff_ne.2 (by omega)
  clear hc
  go_enter Try.func28, Try.ntmps28
  go_wp2
  go_loop [5] (fun i => ∃ k : Nat, k ≤ L.length ∧ i = .int .i64 (k : Int) ∧ Hid (∀ j x, j < k → L[j]? = some x → x ≠ t)) (fun i => L.length - (intOf i).toNat)
  case atStart => exact ⟨0, Nat.zero_le _, rfl, fun j x hj => by omega⟩
  case round =>
    obtain ⟨k, hk, rfl, hno⟩ := hrel
    by_cases hlt : k < L.length
    · obtain ⟨x, hx⟩ : ∃ x, L[k]? = some x := ⟨_, List.getElem?_eq_getElem hlt⟩
      obtain ⟨rb, ha, hcell⟩ := HC.out k x hx
      subst ha
      by_cases he : x = t
      · have hans : Hid (atI L t = (k : Int) + 1) := by
          have : pos L t = some (k + 1) := by
            unfold pos
            rw [if_neg (by omega)]
            have : L.findIdx? (fun y => y == t) = some k := by
              rw [List.findIdx?_eq_some_iff_getElem]
              refine ⟨hlt, ?_, fun j hj => ?_⟩
              · have := (List.getElem?_eq_some_iff.1 hx).2
                simp [this, he]
              · have := hno.out j L[j] hj (List.getElem?_eq_getElem (by omega))
                simpa using this
            rw [this]; rfl
          unfold atI
          rw [this]
          show ((k + 1 : Nat) : Int) = _
          omega
        have hb : ((x : Int) == (t : Int)) = true := beq_iff_eq.2 (by omega)
        have HE : Hid (x = t) := he
        clear he hx
        go_wp2
        go_ret
        exact ⟨by rw [hans.out]; rfl, rfl⟩
      · have hb : ((x : Int) == (t : Int)) = false := beq_eq_false_iff_ne.2 (by omega)
        have HX : Hid (L[k]? = some x) := hx
        have HE : Hid (x ≠ t) := he
        clear hx he
        go_wp2
        go_round
        case rel =>
          refine ⟨k + 1, by omega, by go_num, fun j y hj hy => ?_⟩
          by_cases e : j = k
          · subst e
            rw [HX.out] at hy
            cases hy
            exact HE.out
          · exact hno.out j y (by omega) hy
        case measure => simp [intOf]; omega
    · have hans : Hid (atI L t = -1) := by
        have : pos L t = none := by
          refine pos_none_of (by omega) (fun hm => ?_)
          obtain ⟨j, hj⟩ := List.getElem?_of_mem hm
          have hjl := (List.getElem?_eq_some_iff.1 hj).1
          exact hno.out j t (by omega) hj rfl
        unfold atI
        rw [this]
        rfl
      go_wp2
      go_ret
      exact ⟨by rw [hans.out]; rfl, rfl⟩

theorem rat_any (w : World) (db : Nat) (sl : Option (Nat × Nat)) (L : List Nat) (g t : Nat) (h : RefAt w db sl L g) (hlen : L.length ≤ 8192) :
    Calls Try.prog 28 #[.pointer (some ⟨db, 0, none⟩), .int .u64 (t : Int)] w fun e w' => e = .returned (.int .i64 (atI L t)) ∧ w' = w := by
  obtain ⟨a, cap, h1, _, h3⟩ := h.slice
  by_cases e : t = 0
  · subst e
    exact rat_zero w db
  · exact rat_tag w db L t a cap h1 h3 (by omega) hlen

end Go.Proofs.Ytkppcnednfjbhaa
