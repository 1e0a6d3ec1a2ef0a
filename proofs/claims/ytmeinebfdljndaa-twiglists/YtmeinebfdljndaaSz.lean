/- How many nodes a pattern has: the program's count and Size, the document's Size. -/
import Derived.Test.YtmeinebfdljndaaPn
namespace Go.Proofs.Ytmeinebfdljndaa
open Go.RowKit
set_option linter.unusedVariables false

def CntP (n : Nat) : Prop := ∀ (w : World) (v : Array Value) (t : TP n) (m : Nat), TwAt w w.heap.size n v t → 1 ≤ m → m ≤ 17 →
  Calls Try.prog 58 #[.agg v, .int .i64 (m : Int)] w fun e w' => e = .returned (.int .i64 ((min (szT n t) m : Nat) : Int)) ∧ Below w.heap.size w w'

/-- The children, wherever we are since w: their cells, and a call with one of them. -/
theorem KdAt.call {w : World} {n : Nat} {ka : Option Addr} {ks : List (TP n)} (hkd : KdAt w w.heap.size n ka ks) {X : World} (hX : Below w.heap.size w X) {i : Nat} {k : TP n} (hk : ks[i]? = some k) :
    ∃ b o nm dr ka' kl kc, ka = some ⟨b, o, none⟩ ∧ b < w.heap.size ∧ X.cell? ⟨b, o + i * 3, none⟩ = some (.string nm) ∧ X.cell? ⟨b, o + i * 3 + 1, none⟩ = some (.bool dr) ∧ X.cell? ⟨b, o + i * 3 + 2, none⟩ = some (.slice ka' kl kc) ∧ ∀ Y, Below w.heap.size w Y → TwAt Y Y.heap.size n #[.string nm, .bool dr, .slice ka' kl kc] k := by
  obtain ⟨b, o, nm, dr, ka', kl, kc', h1, h2, h3, h4, h5, h6⟩ := KdAt.get hkd hk
  exact ⟨b, o, nm, dr, ka', kl, kc', h1, h2, (hX.cell (p := ⟨b, o + i * 3, none⟩) h2).trans h3, (hX.cell (p := ⟨b, o + i * 3 + 1, none⟩) h2).trans h4, (hX.cell (p := ⟨b, o + i * 3 + 2, none⟩) h2).trans h5, fun Y hY => (h6.below hY (Nat.le_refl _)).mono hY.size⟩

set_option maxRecDepth 100000 in
set_option maxHeartbeats 2000000 in
theorem count_step {n : Nat} (ih : CntP n) (w : World) (nm : ByteArray) (dr : Bool) (ks : List (TP n)) (ka : Option Addr) (kc : Nat) (hk1 : ks.length ≤ maxT) (hkd : KdAt w w.heap.size n ka ks) (m : Nat) (hm1 : 1 ≤ m) (hm2 : m ≤ 17) (R : Nat) (hR : min (1 + sumL (szT n) ks) m = R) :
    Calls Try.prog 58 #[.agg #[.string nm, .bool dr, .slice ka ks.length kc], .int .i64 (m : Int)] w fun e w' => e = .returned (.int .i64 (R : Int)) ∧ Below w.heap.size w w' := by
  have HKD : Hid (KdAt w w.heap.size n ka ks) := hkd
  have HZ : Hid (∀ i, sumL (szT n) (ks.take i) ≤ sumL (szT n) ks) := fun i => sumL_le _ _ i
  have HT : Hid (∀ i k, ks[i]? = some k → sumL (szT n) (ks.take (i + 1)) = sumL (szT n) (ks.take i) + szT n k) := fun i k hk => sumL_take _ hk
  have HR : Hid (min (1 + sumL (szT n) ks) m = R) := hR
  clear hkd hR
  unfold maxT at hk1
  go_enter Try.func58, Try.ntmps58
  go_wp2
  go_loopw [5, 11] (fun u v wr => ∃ i cur : Nat, i ≤ ks.length ∧ cur ≤ m ∧ 1 ≤ cur ∧ u = .int .i64 (cur : Int) ∧ v = .int .i64 (i : Int) ∧ Hid (cur = min (1 + sumL (szT n) (ks.take i)) m) ∧ Hid (Below w.heap.size w wr)) (fun _ v _ => ks.length - (intOf v).toNat)
  case atStart => exact ⟨0, 1, by omega, by omega, by omega, rfl, rfl, by show _ = _; simp [sumL]; omega, (Below.refl _ _).alloc (Nat.le_refl _) _⟩
  case round =>
    obtain ⟨i, cur, hi, hc, hc1, rfl, rfl, HC, HS⟩ := hrel
    by_cases hlt : i < ks.length
    · obtain ⟨k, hk⟩ : ∃ k, ks[i]? = some k := ⟨_, List.getElem?_eq_getElem hlt⟩
      obtain ⟨b, o, nm', dr', ka', kl, kc', rfl, hb, c0, c1, c2, htw⟩ := HKD.out.call HS.out hk
      have hbw : b < wr.heap.size := by have := HS.out.size; omega
      have hlt9 : (i : Int) < (ks.length : Int) := by omega
      have HKK : Hid (ks[i]? = some k) := hk
      have HB1 : Hid (Below w.heap.size w (wr.alloc (.cells #[.string nm', .bool dr', .slice ka' kl kc'] 24))) := HS.out.alloc HS.out.size _
      have HTW : Hid _ := htw _ HB1.out
      clear htw hk
      by_cases hcm : cur = m
      · have hfin : R = cur := by have h1 := HC.out; have h2 := HZ.out i; have h3 := HR.out; omega
        subst hcm hfin
        clear HTW
        go_wp2
        go_ret
        exact ⟨rfl, HB1.out⟩
      · have hcl := ih _ _ k (m - cur) HTW.out (by omega) (by omega)
        rw [Int.ofNat_sub hc] at hcl
        obtain ⟨r, hr⟩ : ∃ r, min (szT n k) (m - cur) = r := ⟨_, rfl⟩
        rw [hr] at hcl
        have hr2 : r ≤ m - cur := by omega
        have HN : Hid (cur + r = min (1 + sumL (szT n) (ks.take (i + 1))) m) := by
          show _ = _
          have h1 := HC.out
          rw [HT.out i k HKK.out]
          omega
        have hcm9 : ¬ (cur : Int) = (m : Int) := by omega
        clear hr HTW
        go_wp2_with fail
        with_reducible refine hcl.mono ?_
        rintro e X ⟨rfl, hbX⟩
        have HX : Hid (Below w.heap.size w X) := HB1.out.trans (hbX.mono HB1.out.size)
        clear hbX hcl
        go_wp2
        go_roundw
        case rel => exact ⟨i + 1, cur + r, by omega, by omega, by omega, by go_num, by go_num, HN, HX⟩
        case measure => simp [intOf]; omega
    · have hfin : R = cur := by
        have h1 := HC.out
        have h2 := HR.out
        rw [List.take_of_length_le (by omega)] at h1
        omega
      subst hfin
      go_wp2
      go_ret
      exact ⟨rfl, HS.out⟩
theorem count_any : ∀ n, CntP n
  | 0 => fun w v t m h => h.elim
  | n + 1 => by
    intro w v t m h hm1 hm2
    obtain ⟨ka, kc, rfl, hk1, hk2, hkd⟩ := h
    exact count_step (count_any n) w t.nm t.dr t.ks ka kc hk1 hkd m hm1 hm2 _ rfl

set_option maxRecDepth 100000 in
theorem size_any {n : Nat} (w : World) {nm : ByteArray} {dr : Bool} {ka : Option Addr} {kl kc : Nat} {t : TP n} (h : TwAt w w.heap.size n #[.string nm, .bool dr, .slice ka kl kc] t) : Calls Try.prog 37 #[.agg #[.string nm, .bool dr, .slice ka kl kc]] w fun e w' => e = .returned (.int .i64 ((min (szT n t) 17 : Nat) : Int)) ∧ Below w.heap.size w w' := by
  have hb : Below w.heap.size w (w.alloc (.cells #[.string nm, .bool dr, .slice ka kl kc] 24)) := (Below.refl _ _).alloc (Nat.le_refl _) _
  have hc := count_any n (w.alloc (.cells #[.string nm, .bool dr, .slice ka kl kc] 24)) _ t 17 ((h.below hb (Nat.le_refl _)).mono hb.size) (by omega) (by omega)
  have HB : Hid (∀ X, Below (w.alloc (.cells #[.string nm, .bool dr, .slice ka kl kc] 24)).heap.size (w.alloc (.cells #[.string nm, .bool dr, .slice ka kl kc] 24)) X → Below w.heap.size w X) := fun X hX => hb.trans (hX.mono hb.size)
  generalize min (szT n t) 17 = r at hc ⊢
  rw [show ((17 : Nat) : Int) = 17 from rfl] at hc
  clear h hb
  go_enter Try.func37, Try.ntmps37
  go_wp2_with fail
  with_reducible refine hc.mono ?_
  rintro e X ⟨rfl, hX⟩
  have HX : Hid (Below w.heap.size w X) := HB.out X hX
  clear hX HB hc
  go_wp2
  go_ret
  exact ⟨rfl, HX.out⟩

def RszP (n : Nat) : Prop := ∀ (w : World) (v : Array Value) (t : TP n), TwAt w w.heap.size n v t →
  Calls Try.prog 20 #[.agg v] w fun e w' => e = .returned (.int .i64 ((min (szT n t) 17 : Nat) : Int)) ∧ Below w.heap.size w w'

set_option maxRecDepth 100000 in
set_option maxHeartbeats 2000000 in
theorem rsize_step {n : Nat} (ih : RszP n) (w : World) (nm : ByteArray) (dr : Bool) (ks : List (TP n)) (ka : Option Addr) (kc : Nat) (hk1 : ks.length ≤ maxT) (hkd : KdAt w w.heap.size n ka ks) (R : Nat) (hR : min (1 + sumL (szT n) ks) 17 = R) :
    Calls Try.prog 20 #[.agg #[.string nm, .bool dr, .slice ka ks.length kc]] w fun e w' => e = .returned (.int .i64 (R : Int)) ∧ Below w.heap.size w w' := by
  have HKD : Hid (KdAt w w.heap.size n ka ks) := hkd
  have HZ : Hid (∀ i, sumL (szT n) (ks.take i) ≤ sumL (szT n) ks) := fun i => sumL_le _ _ i
  have HT : Hid (∀ i k, ks[i]? = some k → sumL (szT n) (ks.take (i + 1)) = sumL (szT n) (ks.take i) + szT n k) := fun i k hk => sumL_take _ hk
  have HR : Hid (min (1 + sumL (szT n) ks) 17 = R) := hR
  have b0 : Below w.heap.size w (w.alloc (.cells #[.string nm, .bool dr, .slice ka ks.length kc] 24)) := (Below.refl _ _).alloc (Nat.le_refl _) _
  have x0 := isCells_new w #[.string nm, .bool dr, .slice ka ks.length kc] 24
  have HB0 : Hid (Below w.heap.size w (w.alloc (.cells #[.string nm, .bool dr, .slice ka ks.length kc] 24)) ∧ IsCells (w.alloc (.cells #[.string nm, .bool dr, .slice ka ks.length kc] 24)) w.heap.size #[.string nm, .bool dr, .slice ka ks.length kc]) := ⟨b0, x0⟩
  clear hkd hR b0 x0
  unfold maxT at hk1
  go_enter Try.func20, Try.ntmps20
  go_wp2
  go_loopw [3, 4] (fun u v wr => ∃ i cur : Nat, i ≤ ks.length ∧ cur ≤ 33 ∧ 1 ≤ cur ∧ u = .int .i64 (cur : Int) ∧ v = .int .i64 (i : Int) ∧ Hid (min cur 17 = min (1 + sumL (szT n) (ks.take i)) 17) ∧ Hid (Below w.heap.size w wr ∧ IsCells wr w.heap.size #[.string nm, .bool dr, .slice ka ks.length kc])) (fun _ v _ => ks.length - (intOf v).toNat)
  case atStart => exact ⟨0, 1, by omega, by omega, by omega, rfl, rfl, by show _ = _; simp [sumL], HB0⟩
  case round =>
    obtain ⟨i, cur, hi, hc, hc1, rfl, rfl, HC, HS⟩ := hrel
    have x2 : wr.cell? ⟨w.heap.size, 2, none⟩ = some (.slice ka ks.length kc) := HS.out.2.cell 2
    have xl : w.heap.size < wr.heap.size := HS.out.2.lt
    by_cases hlt : i < ks.length
    · have hlt9 : (i : Int) < (ks.length : Int) := by omega
      by_cases hcm : cur ≤ 16
      · obtain ⟨k, hk⟩ : ∃ k, ks[i]? = some k := ⟨_, List.getElem?_eq_getElem hlt⟩
        obtain ⟨b, o, nm', dr', ka', kl, kc', rfl, hb, c0, c1, c2, htw⟩ := HKD.out.call HS.out.1 hk
        have hbw : b < wr.heap.size := by omega
        have HTW : Hid _ := htw _ HS.out.1
        have hcl := ih wr _ k HTW.out
        obtain ⟨r, hr⟩ : ∃ r, min (szT n k) 17 = r := ⟨_, rfl⟩
        rw [hr] at hcl
        have hr2 : r ≤ 17 := by omega
        have HN : Hid (min (cur + r) 17 = min (1 + sumL (szT n) (ks.take (i + 1))) 17) := by
          show _ = _
          have h1 := HC.out
          rw [HT.out i k hk]
          omega
        have hcm9 : (cur : Int) ≤ 16 := by omega
        clear hr HTW hk htw
        go_wp2_with fail
        with_reducible refine hcl.mono ?_
        rintro e X ⟨rfl, hbX⟩
        have HX : Hid (Below w.heap.size w X ∧ IsCells X w.heap.size #[.string nm, .bool dr, .slice (some ⟨b, o, none⟩) ks.length kc]) := ⟨HS.out.1.trans (hbX.mono HS.out.1.size), HS.out.2.of_block (hbX.block _ xl)⟩
        clear hbX hcl
        go_wp2
        go_roundw
        case rel => exact ⟨i + 1, cur + r, by omega, by omega, by omega, by go_num, by go_num, HN, HX⟩
        case measure => simp [intOf]; omega
      · have hfin : R = 17 := by have h1 := HC.out; have h2 := HZ.out i; have h3 := HR.out; omega
        subst hfin
        have hcm9 : ¬ (cur : Int) ≤ 16 := by omega
        have hcm8 : (16 : Int) < (cur : Int) := by omega
        go_wp2
        go_ret
        exact ⟨rfl, HS.out.1⟩
    · have hlt9 : ¬ (i : Int) < (ks.length : Int) := by omega
      have hfin : min cur 17 = R := by
        have h1 := HC.out
        have h2 := HR.out
        rw [List.take_of_length_le (by omega)] at h1
        omega
      by_cases hcm : cur ≤ 16
      · have : R = cur := by omega
        subst this
        have hcm9 : ¬ (16 : Int) < (R : Int) := by omega
        clear hfin
        go_wp2
        go_ret
        exact ⟨rfl, HS.out.1⟩
      · have : R = 17 := by omega
        subst this
        have hcm9 : (16 : Int) < (cur : Int) := by omega
        clear hfin
        go_wp2
        go_ret
        exact ⟨rfl, HS.out.1⟩
theorem rsize_any : ∀ n, RszP n
  | 0 => fun w v t h => h.elim
  | n + 1 => by
    intro w v t h
    obtain ⟨ka, kc, rfl, hk1, hk2, hkd⟩ := h
    exact rsize_step (rsize_any n) w t.nm t.dr t.ks ka kc hk1 hkd _ rfl

end Go.Proofs.Ytmeinebfdljndaa
