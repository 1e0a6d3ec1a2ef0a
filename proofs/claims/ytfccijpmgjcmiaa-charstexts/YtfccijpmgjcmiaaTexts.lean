/- CharsTexts' walk. -/
import Derived.Test.YtfccijpmgjcmiaaSqueeze
namespace Go.Proofs.Ytfccijpmgjcmiaa
open Go.RowKit
set_option linter.unusedVariables false

theorem i64_le {a : Int} (h : (Lit.int .i64 a).wf = true) : a ≤ 9223372036854775807 := by
  have h1 : IntKind.i64.min = -9223372036854775808 := rfl
  have h2 : IntKind.i64.max = 9223372036854775807 := rfl
  simp only [Lit.wf, h1, h2, Bool.and_eq_true, decide_eq_true_eq] at h
  exact h.2

set_option maxRecDepth 100000 in
set_option maxHeartbeats 4000000 in
theorem texts_walk (w : World) (s : ByteArray) (r f n : Int) (hsz : s.size < 1152921504606846976) (hf : f ≤ 9223372036854775807) (hn : n ≤ 9223372036854775807) :
    Calls Try.prog 3 #[.string s, .int .i64 r, .int .i64 f, .int .i64 n] w fun e w' => e = .returned (.bool true) ∧ Below w.heap.size w w' := by
  have h1 := first_any w s
  have h2 := fun W => rfirst_any W s hsz
  have h3 := fun W => text_any W s
  have h4 := fun W => rtext_any W s
  have h5 := fun W => char_any W r
  have h6 := fun W => rchar_any W r
  have h7 := fun W => name_any W s
  have h8 := fun W => rname_any W s
  have h9 := fun W => blankl_any W s hsz
  have h10 := fun W => rblankl_any W s hsz
  have h11 := fun W => len_any W s
  have h12 := fun W => rlen_any W s
  have h13 := fun W => cut_any W s f n hf hn
  have h14 := fun W => rcut_any W s f n hf hn
  have h15 := fun W => squeeze_any W s
  have h16 := fun W => rsqueeze_any W s
  generalize (fans s.data.toList).1 = x1 at *
  generalize (fans s.data.toList).2.1 = x2 at *
  generalize (fans s.data.toList).2.2 = x3 at *
  generalize (tans s.data.toList).1 = y1 at *
  generalize (tans s.data.toList).2 = y2 at *
  generalize charB r = c at *
  generalize nameL s.data.toList = m at *
  generalize blankL s.data.toList = b at *
  generalize (lans s.data.toList).1 = l1 at *
  generalize (lans s.data.toList).2 = l2 at *
  generalize (⟨(cans s.data.toList f n).1.toArray⟩ : ByteArray) = C at *
  generalize (cans s.data.toList f n).2 = c2 at *
  generalize (⟨(sans s.data.toList).1.toArray⟩ : ByteArray) = S at *
  generalize (sans s.data.toList).2 = s2 at *
  have HS : ∀ W : World, Hid (Below w.heap.size w W) → Hid (w.heap.size ≤ W.heap.size) := fun W h => h.out.size
  have step : ∀ W W' : World, Hid (Below w.heap.size w W) → Below W.heap.size W W' → Hid (Below w.heap.size w W') := fun W W' h k => h.out.trans (k.mono h.out.size)
  have HST : Hid (∀ W W' : World, Hid (Below w.heap.size w W) → Below W.heap.size W W' → Hid (Below w.heap.size w W')) := step
  clear HS step
  go_enter Try.func3, Try.ntmps3
  go_wp2_with fail
  refine h1.mono ?_
  rintro e w1 ⟨rfl, k1⟩
  have K1 : Hid (Below w.heap.size w w1) := k1
  clear k1
  go_wp2_with fail
  refine (h2 w1).mono ?_
  rintro e w2 ⟨rfl, k2⟩
  have K2 := HST.out _ _ K1 k2
  clear k2 K1
  go_wp2_with fail
  refine (h3 w2).mono ?_
  rintro e w3 ⟨rfl, k3⟩
  have K3 := HST.out _ _ K2 k3
  clear k3 K2
  go_wp2_with fail
  refine (h4 w3).mono ?_
  rintro e w4 ⟨rfl, k4⟩
  have K4 := HST.out _ _ K3 k4
  clear k4 K3
  go_wp2_with fail
  refine (h5 w4).mono ?_
  rintro e w5 ⟨rfl, rfl⟩
  go_wp2_with fail
  refine (h6 w5).mono ?_
  rintro e w6 ⟨rfl, rfl⟩
  go_wp2_with fail
  refine (h7 w6).mono ?_
  rintro e w7 ⟨rfl, k7⟩
  have K7 := HST.out _ _ K4 k7
  clear k7 K4
  go_wp2_with fail
  refine (h8 w7).mono ?_
  rintro e w8 ⟨rfl, rfl⟩
  go_wp2_with fail
  refine (h9 w8).mono ?_
  rintro e w9 ⟨rfl, k9⟩
  have K9 := HST.out _ _ K7 k9
  clear k9 K7
  go_wp2_with fail
  refine (h10 w9).mono ?_
  rintro e w10 ⟨rfl, rfl⟩
  go_wp2_with fail
  refine (h11 w10).mono ?_
  rintro e w11 ⟨rfl, k11⟩
  have K11 := HST.out _ _ K9 k11
  clear k11 K9
  go_wp2_with fail
  refine (h12 w11).mono ?_
  rintro e w12 ⟨rfl, k12⟩
  have K12 := HST.out _ _ K11 k12
  clear k12 K11
  go_wp2_with fail
  refine (h13 w12).mono ?_
  rintro e w13 ⟨rfl, k13⟩
  have K13 := HST.out _ _ K12 k13
  clear k13 K12
  go_wp2_with fail
  refine (h14 w13).mono ?_
  rintro e w14 ⟨rfl, k14⟩
  have K14 := HST.out _ _ K13 k14
  clear k14 K13
  go_wp2_with fail
  refine (h15 w14).mono ?_
  rintro e w15 ⟨rfl, k15⟩
  have K15 := HST.out _ _ K14 k15
  clear k15 K14
  go_wp2_with fail
  refine (h16 w15).mono ?_
  rintro e w16 ⟨rfl, k16⟩
  have K16 := HST.out _ _ K15 k16
  clear k16 K15
  go_wp2
  go_ret
  exact ⟨rfl, K16.out⟩

end Go.Proofs.Ytfccijpmgjcmiaa
