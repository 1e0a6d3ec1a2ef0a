/- CharsParts' walk. -/
import Derived.Test.YtfccijpmgjcmiaaBackm
namespace Go.Proofs.Ytfccijpmgjcmiaa
open Go.RowKit
set_option linter.unusedVariables false

theorem cat_list (a b : ByteArray) : (a ++ b).data.toList = a.data.toList ++ b.data.toList := by
  rw [ByteArray.data_append, Array.toList_append]

theorem tans_cat {a b : List UInt8} (ha : (tans a).2 = 0) (hb : (tans b).2 = 0) (h : a.length + b.length ≤ 16384) : tans (a ++ b) = (0, 0) ∧ (scan (a ++ b)).1 = (scan a).1 ++ (scan b).1 := by
  obtain ⟨a1, a2, a3⟩ := tans_ok ha
  obtain ⟨b1, b2, b3⟩ := tans_ok hb
  have hs : scan (a ++ b) = ((scan a).1 ++ (scan b).1, []) := by
    rw [show a ++ b = bytes ((scan a).1 ++ (scan b).1) by rw [bytes_append, ← a2, ← b2]]
    apply scan_bytes
    intro r hr
    rcases List.mem_append.1 hr with h | h
    · exact a3 r h
    · exact b3 r h
  refine ⟨?_, by rw [hs]⟩
  rw [tans, if_neg (by rw [List.length_append]; omega), bans, hs]
  rfl

theorem str_eq {l m : List UInt8} (h : l = m) : (⟨l.toArray⟩ : ByteArray) = ⟨m.toArray⟩ := by rw [h]
theorem str_cat (l m : List UInt8) : (⟨l.toArray⟩ : ByteArray) ++ ⟨m.toArray⟩ = ⟨(l ++ m).toArray⟩ := str_of (cat_list _ _)
theorem str_self (s : ByteArray) : (⟨s.data.toList.toArray⟩ : ByteArray) = s := (str_of rfl).symm

set_option maxRecDepth 100000 in
set_option maxHeartbeats 2000000 in
theorem parts_none (w : World) (a b : ByteArray) (q : Bool) (n : Int) (h : (tans a.data.toList).2 ≠ 0 ∨ (tans b.data.toList).2 ≠ 0) :
    Calls Try.prog 8 #[.string a, .string b, .bool q, .int .u16 n] w fun e w' => e = .returned (.bool true) ∧ Below w.heap.size w w' := by
  have h1 := lives_any w
  have h2 := fun W => text_any W a
  have h3 := fun W => text_any W b
  generalize tans a.data.toList = p at *
  generalize tans b.data.toList = r at *
  obtain ⟨p1, p2⟩ := p
  obtain ⟨r1, r2⟩ := r
  simp only at h h2 h3
  have HST : Hid (∀ W W' : World, Hid (Below w.heap.size w W) → Below W.heap.size W W' → Hid (Below w.heap.size w W')) := fun W W' h k => h.out.trans (k.mono h.out.size)
  by_cases hp : p2 = 0
  · have hr : (r2 != 0) = true := bne_iff_ne.2 (by omega)
    subst hp
    clear h
    go_enter Try.func8, Try.ntmps8
    go_wp2_with fail
    refine h1.mono ?_
    rintro e w1 ⟨rfl, k1⟩
    have K1 : Hid (Below w.heap.size w w1) := k1
    clear k1
    go_wp2_with fail
    refine (h2 w1).mono ?_
    rintro e w2 ⟨rfl, k2⟩
    have K2 := HST.out _ _ K1 k2
    clear k2 K1
    go_wp2_with fail
    refine (h3 w2).mono ?_
    rintro e w3 ⟨rfl, k3⟩
    have K3 := HST.out _ _ K2 k3
    clear k3 K2
    go_wp2
    go_ret
    exact ⟨rfl, K3.out⟩
  · have hr : (p2 != 0) = true := bne_iff_ne.2 hp
    clear h
    go_enter Try.func8, Try.ntmps8
    go_wp2_with fail
    refine h1.mono ?_
    rintro e w1 ⟨rfl, k1⟩
    have K1 : Hid (Below w.heap.size w w1) := k1
    clear k1
    go_wp2_with fail
    refine (h2 w1).mono ?_
    rintro e w2 ⟨rfl, k2⟩
    have K2 := HST.out _ _ K1 k2
    clear k2 K1
    go_wp2_with fail
    refine (h3 w2).mono ?_
    rintro e w3 ⟨rfl, k3⟩
    have K3 := HST.out _ _ K2 k3
    clear k3 K2
    go_wp2
    go_ret
    exact ⟨rfl, K3.out⟩

set_option maxRecDepth 100000 in
set_option maxHeartbeats 2000000 in
theorem parts_long (w : World) (a b : ByteArray) (q : Bool) (n : Int) (ha : (tans a.data.toList).2 = 0) (hb : (tans b.data.toList).2 = 0) (h : 16384 < a.size + b.size) (hsa : a.size ≤ 16384) (hsb : b.size ≤ 16384) :
    Calls Try.prog 8 #[.string a, .string b, .bool q, .int .u16 n] w fun e w' => e = .returned (.bool true) ∧ Below w.heap.size w w' := by
  have h1 := lives_any w
  have h2 := fun W => text_any W a
  have h3 := fun W => text_any W b
  have h4 := fun W => text_any W (a ++ b)
  have ht : tans (a ++ b).data.toList = (0, 2) := by
    rw [tans, if_pos]
    rw [cat_list, List.length_append, size_list, size_list]
    exact h
  rw [ht] at h4
  rw [ha] at h2
  rw [hb] at h3
  generalize (tans a.data.toList).1 = p at *
  generalize (tans b.data.toList).1 = r at *
  have HST : Hid (∀ W W' : World, Hid (Below w.heap.size w W) → Below W.heap.size W W' → Hid (Below w.heap.size w W')) := fun W W' h k => h.out.trans (k.mono h.out.size)
  clear ht ha hb
  generalize hAB : a ++ b = AB at *
  go_enter Try.func8, Try.ntmps8
  go_wp2_with fail
  refine h1.mono ?_
  rintro e w1 ⟨rfl, k1⟩
  have K1 : Hid (Below w.heap.size w w1) := k1
  clear k1
  go_wp2_with fail
  refine (h2 w1).mono ?_
  rintro e w2 ⟨rfl, k2⟩
  have K2 := HST.out _ _ K1 k2
  clear k2 K1
  go_wp2_with fail
  refine (h3 w2).mono ?_
  rintro e w3 ⟨rfl, k3⟩
  have K3 := HST.out _ _ K2 k3
  clear k3 K2
  go_wp2_with fail
  refine (h4 w3).mono ?_
  rintro e w4 ⟨rfl, k4⟩
  have K4 := HST.out _ _ K3 k4
  clear k4 K3
  go_wp2
  go_ret
  exact ⟨rfl, K4.out⟩

set_option maxRecDepth 100000 in
set_option maxHeartbeats 8000000 in
theorem parts_walk (w : World) (a b : ByteArray) (q : Bool) (n : Nat) (hn : n ≤ 65535) (ha : (tans a.data.toList).2 = 0) (hb : (tans b.data.toList).2 = 0) (h : a.size + b.size ≤ 16384) :
    Calls Try.prog 8 #[.string a, .string b, .bool q, .int .u16 (n : Int)] w fun e w' => e = .returned (.bool true) ∧ Below w.heap.size w w' := by
  have hla := size_list a
  have hlb := size_list b
  obtain ⟨ht, hsc⟩ := tans_cat ha hb (by omega)
  rw [← cat_list] at ht hsc
  obtain ⟨a1, a2, a3⟩ := tans_ok ha
  obtain ⟨b1, b2, b3⟩ := tans_ok hb
  have ht0 : (tans (a ++ b).data.toList).2 = 0 := by rw [ht]
  obtain ⟨c1, c2, c3⟩ := tans_ok ht0
  have h1 := lives_any w
  have h2 := fun W => text_any W a
  have h3 := fun W => text_any W b
  have h4 := fun W => text_any W (a ++ b)
  have h5 := fun W => escape_any W a q
  have h6 := fun W => escape_any W b q
  have h7 := fun W => escape_any W (a ++ b) q
  have h8 := fun W => len_any W a
  have h9 := fun W => len_any W b
  have h10 := fun W => len_any W (a ++ b)
  have h11 := fun W => cut_any W (a ++ b) 0 (n : Int) (by omega) (by omega)
  have h12 := fun W => cut_any W (a ++ b) (n : Int) 16384 (by omega) (by omega)
  have h13 := fun W => cut_any W (a ++ b) ((scan a.data.toList).1.length : Int) ((scan b.data.toList).1.length : Int) (by have := bytes_length_ge (scan a.data.toList).1; rw [← a2] at this; omega) (by have := bytes_length_ge (scan b.data.toList).1; rw [← b2] at this; omega)
  have e5 : eans q a.data.toList = (escL q a.data.toList, 0, 0) := by rw [eans, if_pos ha]
  have e6 : eans q b.data.toList = (escL q b.data.toList, 0, 0) := by rw [eans, if_pos hb]
  have e7 : eans q (a ++ b).data.toList = (escL q (a ++ b).data.toList, 0, 0) := by rw [eans, if_pos ht0]
  have e8 : lans a.data.toList = (((scan a.data.toList).1.length : Int), 0) := by rw [lans, if_pos ha]
  have e9 : lans b.data.toList = (((scan b.data.toList).1.length : Int), 0) := by rw [lans, if_pos hb]
  have e10 : lans (a ++ b).data.toList = (((scan a.data.toList).1.length : Int) + ((scan b.data.toList).1.length : Int), 0) := by
    rw [lans, if_pos ht0, hsc]
    simp
  have e11 : cans (a ++ b).data.toList 0 (n : Int) = (bytes ((scan (a ++ b).data.toList).1.take n), 0) := by
    rw [cans, if_pos ht0, if_neg (by omega)]
    simp
  have hrl : (scan (a ++ b).data.toList).1.length ≤ 16384 := by
    have := bytes_length_ge (scan (a ++ b).data.toList).1
    rw [← c2] at this
    omega
  have e12 : cans (a ++ b).data.toList (n : Int) 16384 = (bytes ((scan (a ++ b).data.toList).1.drop n), 0) := by
    rw [cans, if_pos ht0, if_neg (by omega)]
    simp only [Int.toNat_natCast, show (16384 : Int).toNat = 16384 from rfl]
    rw [List.take_of_length_le (by rw [List.length_drop]; omega)]
  have e13 : cans (a ++ b).data.toList ((scan a.data.toList).1.length : Int) ((scan b.data.toList).1.length : Int) = (b.data.toList, 0) := by
    rw [cans, if_pos ht0, if_neg (by omega), hsc]
    simp only [Int.toNat_natCast]
    rw [List.drop_left, List.take_length, ← b2]
  have f7 : (⟨(escL q a.data.toList).toArray⟩ : ByteArray) ++ ⟨(escL q b.data.toList).toArray⟩ = ⟨(escL q (a ++ b).data.toList).toArray⟩ := by
    rw [str_cat, ← escL_append, ← cat_list]
  have f11 : (⟨(bytes ((scan (a ++ b).data.toList).1.take n)).toArray⟩ : ByteArray) ++ ⟨(bytes ((scan (a ++ b).data.toList).1.drop n)).toArray⟩ = a ++ b := by
    rw [str_cat, ← bytes_append, List.take_append_drop, ← c2]
  have f13 : (⟨b.data.toList.toArray⟩ : ByteArray) = b := str_self b
  rw [ha] at h2
  rw [hb] at h3
  rw [ht] at h4
  rw [e5] at h5
  rw [e6] at h6
  rw [e7] at h7
  rw [e8] at h8
  rw [e9] at h9
  rw [e10] at h10
  rw [e11] at h11
  rw [e12] at h12
  rw [e13] at h13
  simp only [f13] at h13
  have hra : (scan a.data.toList).1.length ≤ 16384 := by
    have := bytes_length_ge (scan a.data.toList).1
    rw [← a2] at this
    omega
  have hrb : (scan b.data.toList).1.length ≤ 16384 := by
    have := bytes_length_ge (scan b.data.toList).1
    rw [← b2] at this
    omega
  have hXs : ∀ s : ByteArray, s.size ≤ 16384 → (⟨(escL q s.data.toList).toArray⟩ : ByteArray).size ≤ 98304 := by
    intro s hs
    have g1 := escL_length q s.data.toList
    rw [size_list] at g1
    have g2 := size_list (⟨(escL q s.data.toList).toArray⟩ : ByteArray)
    have g3 : (⟨(escL q s.data.toList).toArray⟩ : ByteArray).data.toList = escL q s.data.toList := rfl
    rw [g3] at g2
    omega
  have hX1 := hXs a (by omega)
  have hY1 := hXs b (by omega)
  have hPQ : (⟨(bytes ((scan (a ++ b).data.toList).1.take n)).toArray⟩ : ByteArray).size + (⟨(bytes ((scan (a ++ b).data.toList).1.drop n)).toArray⟩ : ByteArray).size ≤ 16384 := by
    rw [← ByteArray.size_append, f11, ByteArray.size_append]
    exact h
  clear hXs e5 e6 e7 e8 e9 e10 e11 e12 e13 ht ht0 hsc a1 a2 a3 b1 b2 b3 c1 c2 c3 hrl f13 hla hlb
  generalize (tans a.data.toList).1 = p at *
  generalize (tans b.data.toList).1 = r at *
  generalize (⟨(escL q a.data.toList).toArray⟩ : ByteArray) = X at *
  generalize (⟨(escL q b.data.toList).toArray⟩ : ByteArray) = Y at *
  generalize (⟨(escL q (a ++ b).data.toList).toArray⟩ : ByteArray) = Z at *
  generalize (⟨(bytes ((scan (a ++ b).data.toList).1.take n)).toArray⟩ : ByteArray) = P at *
  generalize (⟨(bytes ((scan (a ++ b).data.toList).1.drop n)).toArray⟩ : ByteArray) = Q at *
  generalize (scan a.data.toList).1.length = la at *
  generalize (scan b.data.toList).1.length = lb at *
  generalize hAB : a ++ b = AB at *
  have HST : Hid (∀ W W' : World, Hid (Below w.heap.size w W) → Below W.heap.size W W' → Hid (Below w.heap.size w W')) := fun W W' h k => h.out.trans (k.mono h.out.size)
  clear ha hb
  go_enter Try.func8, Try.ntmps8
  go_wp2_with fail
  refine h1.mono ?_
  rintro e w1 ⟨rfl, k1⟩
  have K1 : Hid (Below w.heap.size w w1) := k1
  clear k1
  go_wp2_with fail
  refine (h2 w1).mono ?_
  rintro e w2 ⟨rfl, k2⟩
  have K2 := HST.out _ _ K1 k2
  clear k2 K1
  go_wp2_with fail
  refine (h3 w2).mono ?_
  rintro e w3 ⟨rfl, k3⟩
  have K3 := HST.out _ _ K2 k3
  clear k3 K2
  go_wp2_with fail
  refine (h4 w3).mono ?_
  rintro e w4 ⟨rfl, k4⟩
  have K4 := HST.out _ _ K3 k4
  clear k4 K3
  go_wp2_with fail
  refine (h5 w4).mono ?_
  rintro e w5 ⟨rfl, k5⟩
  have K5 := HST.out _ _ K4 k5
  clear k5 K4
  go_wp2_with fail
  refine (h6 w5).mono ?_
  rintro e w6 ⟨rfl, k6⟩
  have K6 := HST.out _ _ K5 k6
  clear k6 K5
  go_wp2_with fail
  refine (h7 w6).mono ?_
  rintro e w7 ⟨rfl, k7⟩
  have K7 := HST.out _ _ K6 k7
  clear k7 K6
  go_wp2_with fail
  refine (h8 w7).mono ?_
  rintro e w8 ⟨rfl, k8⟩
  have K8 := HST.out _ _ K7 k8
  clear k8 K7
  go_wp2_with fail
  refine (h9 w8).mono ?_
  rintro e w9 ⟨rfl, k9⟩
  have K9 := HST.out _ _ K8 k9
  clear k9 K8
  go_wp2_with fail
  refine (h10 w9).mono ?_
  rintro e w10 ⟨rfl, k10⟩
  have K10 := HST.out _ _ K9 k10
  clear k10 K9
  go_wp2_with fail
  refine (h11 w10).mono ?_
  rintro e w11 ⟨rfl, k11⟩
  have K11 := HST.out _ _ K10 k11
  clear k11 K10
  go_wp2_with fail
  refine (h12 w11).mono ?_
  rintro e w12 ⟨rfl, k12⟩
  have K12 := HST.out _ _ K11 k12
  clear k12 K11
  go_wp2_with fail
  refine (h13 w12).mono ?_
  rintro e w13 ⟨rfl, k13⟩
  have K13 := HST.out _ _ K12 k13
  clear k13 K12 h1 h2 h3 h4 h5 h6 h7 h8 h9 h10 h11 h12 h13
  go_wp2
  go_ret
  exact ⟨rfl, K13.out⟩

theorem parts_any (w : World) (a b : ByteArray) (q : Bool) (n : Int) (h0 : (Lit.int .u16 n).wf = true) :
    Calls Try.prog 8 #[.string a, .string b, .bool q, .int .u16 n] w fun e w' => e = .returned (.bool true) ∧ Below w.heap.size w w' := by
  have h1 : IntKind.u16.min = 0 := rfl
  have h2 : IntKind.u16.max = 65535 := rfl
  simp only [Lit.wf, h1, h2, Bool.and_eq_true, decide_eq_true_eq] at h0
  obtain ⟨m, rfl⟩ := Int.eq_ofNat_of_zero_le h0.1
  by_cases ha : (tans a.data.toList).2 = 0
  · by_cases hb : (tans b.data.toList).2 = 0
    · have sa := (tans_ok ha).1
      have sb := (tans_ok hb).1
      rw [size_list] at sa sb
      by_cases h : 16384 < a.size + b.size
      · exact parts_long w a b q _ ha hb h sa sb
      · exact parts_walk w a b q m (by omega) ha hb (by omega)
    · exact parts_none w a b q _ (Or.inr hb)
  · exact parts_none w a b q _ (Or.inl ha)

end Go.Proofs.Ytfccijpmgjcmiaa
