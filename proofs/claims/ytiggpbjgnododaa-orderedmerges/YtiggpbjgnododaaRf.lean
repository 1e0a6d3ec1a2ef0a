/- The document's list of items in memory; its Rank, Has, Put, Drop. -/
import Derived.Test.YtiggpbjgnododaaTm
namespace Go.Proofs.Ytiggpbjgnododaa.T
open Go.RowKit Go.Shelf
set_option linter.unusedVariables false

def kf (x : Int × Int) : Int := x.1

/-- The document's list. -/
structure RAt (w : World) (B rb : Nat) (L : List (Int × Int)) (a : Option Addr) (cap : Nat) : Prop where
  head : IsCells w rb #[.slice a L.length cap]
  row : w.ownsRow B 28 2 (.slice a L.length cap) L.length (cellsOf L)
  ne : ∀ k, (Value.slice a L.length cap).ownBlock = some k → k ≠ rb
  len : L.length ≤ 8192

theorem RAt.of_blocks {w w' : World} {B rb : Nat} {L : List (Int × Int)} {a : Option Addr} {cap : Nat} (h : RAt w B rb L a cap) (h1 : w'.heap[rb]? = w.heap[rb]?)
    (h2 : ∀ k, (Value.slice a L.length cap).ownBlock = some k → w'.heap[k]? = w.heap[k]?) : RAt w' B rb L a cap :=
  ⟨h.head.of_block h1, own_of_block h.row h2, h.ne, h.len⟩

theorem RAt.below {w w' : World} {B rb : Nat} {L : List (Int × Int)} {a : Option Addr} {cap : Nat} (h : RAt w B rb L a cap) (hb : Below w.heap.size w w') : RAt w' B rb L a cap :=
  h.of_blocks (hb.block _ h.head.lt) (fun k hk => hb.block k (own_block_lt h.row k hk).2)

theorem items_of {w : World} {B : Nat} {L : List (Int × Int)} {a : Option Addr} {n cap : Nat} (hn : L.length = n) (h : w.ownsRow B 28 2 (.slice a n cap) n (cellsOf L)) : Items w a L := by
  intro i y hy
  obtain ⟨_, _, hc⟩ := row_cell h
  obtain ⟨h1, h2⟩ := cellsOf_at L i y hy
  obtain ⟨g', e1, _, h3, h4⟩ := hc _ _ h1
  obtain ⟨g'', e2, _, h5, h6⟩ := hc _ _ h2
  rw [e1] at e2
  cases e2
  exact ⟨g', e1, h3, h4, h6⟩

theorem capm_of {w : World} {B : Nat} {xs : List Value} {a : Option Addr} {n cap : Nat} (h : w.ownsRow B 28 2 (.slice a n cap) n xs) : n ≤ cap ∧ cap ≤ maxLen := by
  rcases h.2 with ⟨e, _⟩ | ⟨g, cap', cur, e, _, _, h1, h2, _⟩
  · simp only [Value.slice.injEq] at e
    omega
  · simp only [Value.slice.injEq, true_and] at e
    omega

set_option maxRecDepth 100000 in
set_option maxHeartbeats 1000000 in
theorem rrank_any (w : World) (B rb : Nat) (L : List (Int × Int)) (a : Option Addr) (cap : Nat) (key : Int) (h : RAt w B rb L a cap) (hr : Rise kf L) :
    Calls Try.prog 27 #[.pointer (some ⟨rb, 0, none⟩), .int .i64 key] w fun e w' => e = .returned (.int .i64 (rk kf L key : Int)) ∧ w' = w := by
  have c0 : w.cell? ⟨rb, 0, none⟩ = some (.slice a L.length cap) := h.head.cell 0
  have Hi : Hid (Items w a L) := items_of rfl h.row
  have Hr : Hid (Rise kf L) := hr
  have hl : (L.length : Int) ≤ 8192 := by have := h.len; omega
  have hrl := rk_le kf L key
  clear h hr
  go_enter Try.func27, Try.ntmps27
  go_wp2
  go_loop [5] (fun n => ∃ m : Nat, m ≤ rk kf L key ∧ n = .int .i64 (m : Int)) (fun n => L.length - (intOf n).toNat)
  case atStart => exact ⟨0, Nat.zero_le _, rfl⟩
  case round =>
    obtain ⟨m, hm, rfl⟩ := hrel
    by_cases hlt : m < L.length
    · obtain ⟨g, rfl, hg1, hg2, hg3⟩ := Hi.out m _ (List.getElem?_eq_getElem hlt)
      have hcut := rise_cut kf Hr.out (x := key) (List.getElem?_eq_getElem hlt)
      unfold kf at hcut
      generalize L[m] = y at *
      have hm1 : (m : Int) < (L.length : Int) := by omega
      have hm2 : (0 : Int) ≤ (m : Int) := by omega
      by_cases hk : y.1 < key
      · have hmr : m < rk kf L key := hcut.2 hk
        have hd : decide (y.1 < key) = true := by simpa using hk
        clear hcut
        generalize rk kf L key = r at *
        go_wp2
        go_round
        case rel => exact ⟨m + 1, by omega, by go_num⟩
        case measure => simp [intOf]; omega
      · have hmr : ¬ m < rk kf L key := fun h => hk (hcut.1 h)
        have hd : decide (y.1 < key) = false := by simpa using hk
        have hmr' : Hid (m = rk kf L key) := by show _ = _; omega
        clear hcut hmr
        go_wp2
        go_ret
        exact ⟨congrArg _ (v_int (by rw [← hmr'.out])), rfl⟩
    · have hmr' : Hid (m = rk kf L key) := by show _ = _; omega
      clear hrl
      go_wp2
      go_ret
      exact ⟨congrArg _ (v_int (by rw [← hmr'.out])), rfl⟩

/-- Whether one of that key is there, as the document asks. -/
def hasB (L : List (Int × Int)) (key : Int) : Bool := match L[rk kf L key]? with
  | some y => y.1 == key
  | none => false

theorem hasB_iff {L : List (Int × Int)} (hr : Rise kf L) (key : Int) : hasB L key = true ↔ ∃ y ∈ L, kf y = key := by
  rw [← rise_there kf hr]
  unfold hasB
  cases h : L[rk kf L key]? with
  | none => simp
  | some y =>
    have hc := rise_cut kf hr (x := key) h
    have : ¬ kf y < key := fun h' => by have := hc.2 h'; omega
    unfold kf at *
    simp
    omega

set_option maxRecDepth 100000 in
set_option maxHeartbeats 1000000 in
theorem rhas_any (w : World) (B rb : Nat) (L : List (Int × Int)) (a : Option Addr) (cap : Nat) (key : Int) (h : RAt w B rb L a cap) (hr : Rise kf L) :
    Calls Try.prog 40 #[.pointer (some ⟨rb, 0, none⟩), .int .i64 key] w fun e w' => e = .returned (.bool (hasB L key)) ∧ w' = w := by
  have hk := rrank_any w B rb L a cap key h hr
  have c0 : w.cell? ⟨rb, 0, none⟩ = some (.slice a L.length cap) := h.head.cell 0
  have Hi : Hid (Items w a L) := items_of rfl h.row
  have hl : (L.length : Int) ≤ 8192 := by have := h.len; omega
  have hrl := rk_le kf L key
  have hdef : Hid (hasB L key = match L[rk kf L key]? with | some y => y.1 == key | none => false) := rfl
  clear h hr
  generalize hasB L key = b at *
  generalize rk kf L key = r at *
  by_cases hlt : r < L.length
  · obtain ⟨g, rfl, hg1, hg2, hg3⟩ := Hi.out r _ (List.getElem?_eq_getElem hlt)
    rw [List.getElem?_eq_getElem hlt] at hdef
    generalize L[r] = y at *
    have hb : Hid (b = (y.1 == key)) := hdef
    have hm1 : (r : Int) < (L.length : Int) := by omega
    have hm2 : (0 : Int) ≤ (r : Int) := by omega
    clear hdef
    go_enter Try.func40, Try.ntmps40
    go_wp2_with fail
    refine hk.mono ?_
    rintro e w' ⟨rfl, rfl⟩
    clear hk
    go_wp2
    go_ret
    exact ⟨congrArg _ (v_bool (by rw [hb.out])), rfl⟩
  · rw [List.getElem?_eq_none (by omega)] at hdef
    have hb : Hid (b = false) := hdef
    have hm1 : decide ((r : Int) < (L.length : Int)) = false := by simp; omega
    clear hdef
    go_enter Try.func40, Try.ntmps40
    go_wp2_with fail
    refine hk.mono ?_
    rintro e w' ⟨rfl, rfl⟩
    clear hk
    go_wp2
    go_ret
    exact ⟨congrArg _ (v_bool (by rw [hb.out])), rfl⟩

end Go.Proofs.Ytiggpbjgnododaa.T
