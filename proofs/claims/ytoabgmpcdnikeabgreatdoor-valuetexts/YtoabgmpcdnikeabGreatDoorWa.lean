/- Parts of texts: the law's body. -/
import Derived.Test.YtoabgmpcdnikeabGreatDoorVz
namespace Go.Proofs.YtoabgmpcdnikeabGreatDoor
open Go.RowKit
set_option linter.unusedVariables false

theorem enters12 : ∀ args w, (callFunc 12 args).run Tryz.prog w = .ok (.enter 12 args) w := enters_of Tryz.func12 (by kernel_rfl) rfl
theorem app_tx (a b : ByteArray) : Tx (a ++ b) = Tx a ++ Tx b := by simp [Tx, ByteArray.data_append]

set_option maxRecDepth 100000 in
set_option maxHeartbeats 4000000 in
theorem texts_walk (w : World) (a b : ByteArray) (sa : a.size ≤ 281474976710656) (sb : b.size ≤ 281474976710656) (G : Gl w) (hmx : ∃ m, w.cell? ⟨0, 0, none⟩ = some (.int .i64 m)) :
    Calls Tryz.prog 4 #[.string a, .string b] w fun e w' => e = .returned (.bool true) ∧ Below w.heap.size w w' := by
  have HG : Hid (∀ u, Below w.heap.size w u → Gl u) := fun u hu => G.bel hu
  have HM : Hid (∀ u, Below w.heap.size w u → ∃ m, u.cell? ⟨0, 0, none⟩ = some (.int .i64 m)) := fun u hu => by
    obtain ⟨m, hm⟩ := hmx
    exact ⟨m, (hu.cell (p := ⟨0, 0, none⟩) (cell_lt hm)).trans hm⟩
  have hsum : a.size + b.size ≤ 9223372036854775807 := by omega
  have hadd : ∀ u, (Op.stringOp .add a b).run Tryz.prog u = .ok (.string (a ++ b)) u := fun u => run_string_add_sum u a b hsum
  have Hw : Hid (Below w.heap.size w w) := Below.refl _ _
  have hl := lives_any w G
  have eg := enters12
  obtain ⟨ta, ea, hta⟩ : ∃ x y, tans (Tx a) = (x, y) := ⟨_, _, rfl⟩
  obtain ⟨tb, eb, htb⟩ : ∃ x y, tans (Tx b) = (x, y) := ⟨_, _, rfl⟩
  obtain ⟨c, hcab⟩ : ∃ c, a ++ b = c := ⟨_, rfl⟩
  obtain ⟨tc, ec, htc⟩ : ∃ x y, tans (Tx c) = (x, y) := ⟨_, _, rfl⟩
  rw [hcab] at hadd
  have T1 := fun u => text_any u a
  have T2 := fun u => text_any u b
  have T3 := fun u => text_any u c
  unfold Tx at hta htb htc
  rw [hta] at T1
  rw [htb] at T2
  rw [htc] at T3
  have HT : Hid (tans (Tx a) = (ta, ea) ∧ tans (Tx b) = (tb, eb) ∧ tans (Tx c) = (tc, ec) ∧ a ++ b = c) := ⟨hta, htb, htc, hcab⟩
  clear hta htb htc hcab G hmx sa sb
  go_enter Tryz.func4, Tryz.ntmps4
  go_wp2_with fail
  with_reducible refine (hl).mono ?_
  rintro e w1 ⟨rfl, hb⟩
  have Hw1 : Hid (Below w.heap.size w w1) := Hw.out.trans (hb.mono Hw.out.size)
  clear hb
  go_wp2_with fail
  with_reducible refine (T1 w1).mono ?_
  rintro e w2 ⟨rfl, hb⟩
  have Hw2 : Hid (Below w.heap.size w w2) := Hw1.out.trans (hb.mono Hw1.out.size)
  clear hb
  go_wp2_with fail
  with_reducible refine (T2 w2).mono ?_
  rintro e w3 ⟨rfl, hb⟩
  have Hw3 : Hid (Below w.heap.size w w3) := Hw2.out.trans (hb.mono Hw2.out.size)
  clear hb
  go_wp2_with fail
  with_reducible refine (T3 w3).mono ?_
  rintro e w4 ⟨rfl, hb⟩
  have Hw4 : Hid (Below w.heap.size w w4) := Hw3.out.trans (hb.mono Hw3.out.size)
  clear hb
  clear hl T1 T2 T3
  by_cases h1 : ea = 0
  · by_cases h2 : eb = 0
    · by_cases h3 : ec = 0
      · subst h1 h2 h3
        have HP : Hid ((tans (Tx a)).2 = 0 ∧ (tans (Tx b)).2 = 0 ∧ (tans (Tx c)).2 = 0 ∧ a.size ≤ 16384 ∧ b.size ≤ 16384 ∧ c.size ≤ 16384) := by
          have ca : (tans (Tx a)).2 = 0 := by rw [HT.out.1]
          have cb : (tans (Tx b)).2 = 0 := by rw [HT.out.2.1]
          have cc : (tans (Tx c)).2 = 0 := by rw [HT.out.2.2.1]
          exact ⟨ca, cb, cc, by rw [Lib.size_eq]; exact can_size ca, by rw [Lib.size_eq]; exact can_size cb, by rw [Lib.size_eq]; exact can_size cc⟩
        obtain ⟨na, HNA⟩ : ∃ n, Hid ((lans (Tx a)).1 = n ∧ 0 ≤ n ∧ n ≤ 16384) := ⟨_, rfl, lans_small HP.out.1⟩
        obtain ⟨nb, HNB⟩ : ∃ n, Hid ((lans (Tx b)).1 = n ∧ 0 ≤ n ∧ n ≤ 16384) := ⟨_, rfl, lans_small HP.out.2.1⟩
        have HNC : Hid ((lans (Tx c)).1 = na + nb) := by
          show _ = _
          rw [← HT.out.2.2.2, app_tx, lans_app HP.out.1 HP.out.2.1 (by rw [← app_tx, HT.out.2.2.2]; exact HP.out.2.2.1), HNA.out.1, HNB.out.1]
        have k1 : 0 ≤ na := HNA.out.2.1
        have k2 : na ≤ 16384 := HNA.out.2.2
        have k3 : 0 ≤ nb := HNB.out.2.1
        have k4 : nb ≤ 16384 := HNB.out.2.2
        have kk : ((na + nb) == (na + nb)) = true := by simp
        have HL : Hid (∀ (X : World) (B : Nat) (x : ByteArray), Below w.heap.size w X → IsCells X B #[.int .i64 3, .bool false, .int .i64 0, .bool false, .string x, .slice none 0 0] → (tans (Tx x)).2 = 0 → x.size ≤ 16384 → Calls Tryz.prog 12 #[.string ⟨#[108, 101, 110, 103, 116, 104]⟩, .slice (some ⟨B, 0, none⟩) 1 1] X fun e w' => e = .returned (mkV 2 false (lans (Tx x)).1 false ⟨#[]⟩) ∧ Below X.heap.size X w') := fun X B x hX h hc hx => vlen_any X (HG.out X hX) h (by omega) hc
        have L1 : Hid (∀ (X : World) (B : Nat), Below w.heap.size w X → IsCells X B #[.int .i64 3, .bool false, .int .i64 0, .bool false, .string a, .slice none 0 0] → Calls Tryz.prog 12 #[.string ⟨#[108, 101, 110, 103, 116, 104]⟩, .slice (some ⟨B, 0, none⟩) 1 1] X fun e w' => e = .returned (.agg #[.int .i64 2, .bool false, .int .i64 na, .bool false, .string ⟨#[]⟩, .slice none 0 0]) ∧ Below X.heap.size X w') := fun X B hX h => by have := HL.out X B a hX h HP.out.1 HP.out.2.2.2.1; rw [HNA.out.1] at this; exact this
        have L2 : Hid (∀ (X : World) (B : Nat), Below w.heap.size w X → IsCells X B #[.int .i64 3, .bool false, .int .i64 0, .bool false, .string b, .slice none 0 0] → Calls Tryz.prog 12 #[.string ⟨#[108, 101, 110, 103, 116, 104]⟩, .slice (some ⟨B, 0, none⟩) 1 1] X fun e w' => e = .returned (.agg #[.int .i64 2, .bool false, .int .i64 nb, .bool false, .string ⟨#[]⟩, .slice none 0 0]) ∧ Below X.heap.size X w') := fun X B hX h => by have := HL.out X B b hX h HP.out.2.1 HP.out.2.2.2.2.1; rw [HNB.out.1] at this; exact this
        have L3 : Hid (∀ (X : World) (B : Nat), Below w.heap.size w X → IsCells X B #[.int .i64 3, .bool false, .int .i64 0, .bool false, .string c, .slice none 0 0] → Calls Tryz.prog 12 #[.string ⟨#[108, 101, 110, 103, 116, 104]⟩, .slice (some ⟨B, 0, none⟩) 1 1] X fun e w' => e = .returned (.agg #[.int .i64 2, .bool false, .int .i64 (na + nb), .bool false, .string ⟨#[]⟩, .slice none 0 0]) ∧ Below X.heap.size X w') := fun X B hX h => by have := HL.out X B c hX h HP.out.2.2.1 HP.out.2.2.2.2.2; rw [HNC.out] at this; exact this
        have K1 : Hid (∀ (X : World) (B : Nat), Below w.heap.size w X → IsCells X B #[.int .i64 3, .bool false, .int .i64 0, .bool false, .string c, .slice none 0 0, .int .i64 3, .bool false, .int .i64 0, .bool false, .string b, .slice none 0 0] → Calls Tryz.prog 12 #[.string ⟨#[99, 111, 110, 116, 97, 105, 110, 115]⟩, .slice (some ⟨B, 0, none⟩) 2 2] X fun e w' => e = .returned (.agg #[.int .i64 1, .bool true, .int .i64 0, .bool false, .string ⟨#[]⟩, .slice none 0 0]) ∧ Below X.heap.size X w') := fun X B hX h => by have := vcon_any X (HG.out X hX) h HP.out.2.2.2.2.2 HP.out.2.2.2.2.1 HP.out.2.2.1 HP.out.2.1 (HM.out X hX); rw [← HT.out.2.2.2, app_tx, contains_app] at this; exact this
        have K2 : Hid (∀ (X : World) (B : Nat), Below w.heap.size w X → IsCells X B #[.int .i64 3, .bool false, .int .i64 0, .bool false, .string c, .slice none 0 0, .int .i64 3, .bool false, .int .i64 0, .bool false, .string a, .slice none 0 0] → Calls Tryz.prog 12 #[.string ⟨#[115, 116, 97, 114, 116, 115]⟩, .slice (some ⟨B, 0, none⟩) 2 2] X fun e w' => e = .returned (.agg #[.int .i64 1, .bool true, .int .i64 0, .bool false, .string ⟨#[]⟩, .slice none 0 0]) ∧ Below X.heap.size X w') := fun X B hX h => by have := vsta_any X (HG.out X hX) h HP.out.2.2.2.2.2 HP.out.2.2.2.1 HP.out.2.2.1 HP.out.1; rw [← HT.out.2.2.2, app_tx, starts_app] at this; exact this
        have K3 : Hid (∀ (X : World) (B : Nat), Below w.heap.size w X → IsCells X B #[.int .i64 3, .bool false, .int .i64 0, .bool false, .string a, .slice none 0 0, .int .i64 3, .bool false, .int .i64 0, .bool false, .string ⟨#[]⟩, .slice none 0 0] → Calls Tryz.prog 12 #[.string ⟨#[99, 111, 110, 116, 97, 105, 110, 115]⟩, .slice (some ⟨B, 0, none⟩) 2 2] X fun e w' => e = .returned (.agg #[.int .i64 1, .bool true, .int .i64 0, .bool false, .string ⟨#[]⟩, .slice none 0 0]) ∧ Below X.heap.size X w') := fun X B hX h => by have := vcon_any X (HG.out X hX) h HP.out.2.2.2.1 (by decide) HP.out.1 (by decide) (HM.out X hX); rw [show Tx (⟨#[]⟩ : ByteArray) = [] from rfl, contains_nil] at this; exact this
        clear HL
        have hf2 : ∀ (n : Int) (u : World), (Instr.field 24 (.agg #[.int .i64 2, .bool false, .int .i64 n, .bool false, .string ⟨#[]⟩, .slice none 0 0]) 2).run Tryz.prog u = .ok (.int .i64 n) u := fun _ _ => by kernel_rfl
        have hf1 : ∀ (u : World), (Instr.field 24 (.agg #[.int .i64 1, .bool true, .int .i64 0, .bool false, .string ⟨#[]⟩, .slice none 0 0]) 1).run Tryz.prog u = .ok (.bool true) u := fun _ => by kernel_rfl
        go_wp2_with fail
        with_reducible refine (mktext_any w4 a).mono ?_
        rintro e w5 ⟨rfl, hb⟩
        have Hw5 : Hid (Below w.heap.size w w5) := Hw4.out.trans (hb.mono Hw4.out.size)
        clear hb
        obtain ⟨xw5, hxw5⟩ : ∃ X, (w5.alloc (.cells #[.int .i64 3, .bool false, .int .i64 0, .bool false, .string a, .slice none 0 0] 24)) = X := ⟨_, rfl⟩
        have Hxw5 : Hid (Below w.heap.size w xw5) := by show Below _ _ _; rw [← hxw5]; exact Hw5.out.alloc Hw5.out.size _
        have Cxw5 : Hid ((w5.alloc (.cells #[.int .i64 3, .bool false, .int .i64 0, .bool false, .string a, .slice none 0 0] 24)) = xw5 ∧ IsCells xw5 w5.heap.size #[.int .i64 3, .bool false, .int .i64 0, .bool false, .string a, .slice none 0 0]) := ⟨hxw5, by rw [← hxw5]; exact isCells_new _ _ _⟩
        clear hxw5
        have hc := L1.out xw5 _ Hxw5.out Cxw5.out.2
        go_wp2_with fail
        rw [Cxw5.out.1]
        with_reducible refine hc.mono ?_
        rintro e w6 ⟨rfl, hb⟩
        have Hw6 : Hid (Below w.heap.size w w6) := Hxw5.out.trans (hb.mono Hxw5.out.size)
        clear hb hc
        go_wp2_with fail
        with_reducible refine (mktext_any w6 b).mono ?_
        rintro e w7 ⟨rfl, hb⟩
        have Hw7 : Hid (Below w.heap.size w w7) := Hw6.out.trans (hb.mono Hw6.out.size)
        clear hb
        obtain ⟨xw7, hxw7⟩ : ∃ X, (w7.alloc (.cells #[.int .i64 3, .bool false, .int .i64 0, .bool false, .string b, .slice none 0 0] 24)) = X := ⟨_, rfl⟩
        have Hxw7 : Hid (Below w.heap.size w xw7) := by show Below _ _ _; rw [← hxw7]; exact Hw7.out.alloc Hw7.out.size _
        have Cxw7 : Hid ((w7.alloc (.cells #[.int .i64 3, .bool false, .int .i64 0, .bool false, .string b, .slice none 0 0] 24)) = xw7 ∧ IsCells xw7 w7.heap.size #[.int .i64 3, .bool false, .int .i64 0, .bool false, .string b, .slice none 0 0]) := ⟨hxw7, by rw [← hxw7]; exact isCells_new _ _ _⟩
        clear hxw7
        have hc := L2.out xw7 _ Hxw7.out Cxw7.out.2
        go_wp2_with fail
        rw [Cxw7.out.1]
        with_reducible refine hc.mono ?_
        rintro e w8 ⟨rfl, hb⟩
        have Hw8 : Hid (Below w.heap.size w w8) := Hxw7.out.trans (hb.mono Hxw7.out.size)
        clear hb hc
        go_wp2_with fail
        with_reducible refine (mktext_any w8 c).mono ?_
        rintro e w9 ⟨rfl, hb⟩
        have Hw9 : Hid (Below w.heap.size w w9) := Hw8.out.trans (hb.mono Hw8.out.size)
        clear hb
        go_wp2_with fail
        with_reducible refine (mktext_any w9 b).mono ?_
        rintro e wa ⟨rfl, hb⟩
        have Hwa : Hid (Below w.heap.size w wa) := Hw9.out.trans (hb.mono Hw9.out.size)
        clear hb
        obtain ⟨xwa, hxwa⟩ : ∃ X, (wa.alloc (.cells #[.int .i64 3, .bool false, .int .i64 0, .bool false, .string c, .slice none 0 0, .int .i64 3, .bool false, .int .i64 0, .bool false, .string b, .slice none 0 0] 24)) = X := ⟨_, rfl⟩
        have Hxwa : Hid (Below w.heap.size w xwa) := by show Below _ _ _; rw [← hxwa]; exact Hwa.out.alloc Hwa.out.size _
        have Cxwa : Hid ((wa.alloc (.cells #[.int .i64 3, .bool false, .int .i64 0, .bool false, .string c, .slice none 0 0, .int .i64 3, .bool false, .int .i64 0, .bool false, .string b, .slice none 0 0] 24)) = xwa ∧ IsCells xwa wa.heap.size #[.int .i64 3, .bool false, .int .i64 0, .bool false, .string c, .slice none 0 0, .int .i64 3, .bool false, .int .i64 0, .bool false, .string b, .slice none 0 0]) := ⟨hxwa, by rw [← hxwa]; exact isCells_new _ _ _⟩
        clear hxwa
        have hc := K1.out xwa _ Hxwa.out Cxwa.out.2
        go_wp2_with fail
        rw [Cxwa.out.1]
        with_reducible refine hc.mono ?_
        rintro e wb ⟨rfl, hb⟩
        have Hwb : Hid (Below w.heap.size w wb) := Hxwa.out.trans (hb.mono Hxwa.out.size)
        clear hb hc
        go_wp2_with fail
        with_reducible refine (mktext_any wb c).mono ?_
        rintro e wc ⟨rfl, hb⟩
        have Hwc : Hid (Below w.heap.size w wc) := Hwb.out.trans (hb.mono Hwb.out.size)
        clear hb
        go_wp2_with fail
        with_reducible refine (mktext_any wc a).mono ?_
        rintro e wd ⟨rfl, hb⟩
        have Hwd : Hid (Below w.heap.size w wd) := Hwc.out.trans (hb.mono Hwc.out.size)
        clear hb
        obtain ⟨xwd, hxwd⟩ : ∃ X, (wd.alloc (.cells #[.int .i64 3, .bool false, .int .i64 0, .bool false, .string c, .slice none 0 0, .int .i64 3, .bool false, .int .i64 0, .bool false, .string a, .slice none 0 0] 24)) = X := ⟨_, rfl⟩
        have Hxwd : Hid (Below w.heap.size w xwd) := by show Below _ _ _; rw [← hxwd]; exact Hwd.out.alloc Hwd.out.size _
        have Cxwd : Hid ((wd.alloc (.cells #[.int .i64 3, .bool false, .int .i64 0, .bool false, .string c, .slice none 0 0, .int .i64 3, .bool false, .int .i64 0, .bool false, .string a, .slice none 0 0] 24)) = xwd ∧ IsCells xwd wd.heap.size #[.int .i64 3, .bool false, .int .i64 0, .bool false, .string c, .slice none 0 0, .int .i64 3, .bool false, .int .i64 0, .bool false, .string a, .slice none 0 0]) := ⟨hxwd, by rw [← hxwd]; exact isCells_new _ _ _⟩
        clear hxwd
        have hc := K2.out xwd _ Hxwd.out Cxwd.out.2
        go_wp2_with fail
        rw [Cxwd.out.1]
        with_reducible refine hc.mono ?_
        rintro e we ⟨rfl, hb⟩
        have Hwe : Hid (Below w.heap.size w we) := Hxwd.out.trans (hb.mono Hxwd.out.size)
        clear hb hc
        go_wp2_with fail
        with_reducible refine (mktext_any we c).mono ?_
        rintro e wf ⟨rfl, hb⟩
        have Hwf : Hid (Below w.heap.size w wf) := Hwe.out.trans (hb.mono Hwe.out.size)
        clear hb
        obtain ⟨xwf, hxwf⟩ : ∃ X, (wf.alloc (.cells #[.int .i64 3, .bool false, .int .i64 0, .bool false, .string c, .slice none 0 0] 24)) = X := ⟨_, rfl⟩
        have Hxwf : Hid (Below w.heap.size w xwf) := by show Below _ _ _; rw [← hxwf]; exact Hwf.out.alloc Hwf.out.size _
        have Cxwf : Hid ((wf.alloc (.cells #[.int .i64 3, .bool false, .int .i64 0, .bool false, .string c, .slice none 0 0] 24)) = xwf ∧ IsCells xwf wf.heap.size #[.int .i64 3, .bool false, .int .i64 0, .bool false, .string c, .slice none 0 0]) := ⟨hxwf, by rw [← hxwf]; exact isCells_new _ _ _⟩
        clear hxwf
        have hc := L3.out xwf _ Hxwf.out Cxwf.out.2
        go_wp2_with fail
        rw [Cxwf.out.1]
        with_reducible refine hc.mono ?_
        rintro e wg ⟨rfl, hb⟩
        have Hwg : Hid (Below w.heap.size w wg) := Hxwf.out.trans (hb.mono Hxwf.out.size)
        clear hb hc
        go_wp2_with fail
        with_reducible refine (mktext_any wg a).mono ?_
        rintro e wh ⟨rfl, hb⟩
        have Hwh : Hid (Below w.heap.size w wh) := Hwg.out.trans (hb.mono Hwg.out.size)
        clear hb
        go_wp2_with fail
        with_reducible refine (mktext_any wh ⟨#[]⟩).mono ?_
        rintro e wi ⟨rfl, hb⟩
        have Hwi : Hid (Below w.heap.size w wi) := Hwh.out.trans (hb.mono Hwh.out.size)
        clear hb
        obtain ⟨xwi, hxwi⟩ : ∃ X, (wi.alloc (.cells #[.int .i64 3, .bool false, .int .i64 0, .bool false, .string a, .slice none 0 0, .int .i64 3, .bool false, .int .i64 0, .bool false, .string ⟨#[]⟩, .slice none 0 0] 24)) = X := ⟨_, rfl⟩
        have Hxwi : Hid (Below w.heap.size w xwi) := by show Below _ _ _; rw [← hxwi]; exact Hwi.out.alloc Hwi.out.size _
        have Cxwi : Hid ((wi.alloc (.cells #[.int .i64 3, .bool false, .int .i64 0, .bool false, .string a, .slice none 0 0, .int .i64 3, .bool false, .int .i64 0, .bool false, .string ⟨#[]⟩, .slice none 0 0] 24)) = xwi ∧ IsCells xwi wi.heap.size #[.int .i64 3, .bool false, .int .i64 0, .bool false, .string a, .slice none 0 0, .int .i64 3, .bool false, .int .i64 0, .bool false, .string ⟨#[]⟩, .slice none 0 0]) := ⟨hxwi, by rw [← hxwi]; exact isCells_new _ _ _⟩
        clear hxwi
        have hc := K3.out xwi _ Hxwi.out Cxwi.out.2
        go_wp2_with fail
        rw [Cxwi.out.1]
        with_reducible refine hc.mono ?_
        rintro e wj ⟨rfl, hb⟩
        have Hwj : Hid (Below w.heap.size w wj) := Hxwi.out.trans (hb.mono Hxwi.out.size)
        clear hb hc
        go_wp2
        go_ret
        exact ⟨rfl, Hwj.out⟩
      · have q3 : (ec == 0) = false := by simpa using h3
        have q4 : (ec != 0) = true := by simpa using h3
        subst h1 h2
        clear h3
        go_wp2
        go_ret
        exact ⟨rfl, Hw4.out⟩
    · have q3 : (eb == 0) = false := by simpa using h2
      have q4 : (eb != 0) = true := by simpa using h2
      subst h1
      clear h2
      go_wp2
      go_ret
      exact ⟨rfl, Hw4.out⟩
  · have q3 : (ea == 0) = false := by simpa using h1
    have q4 : (ea != 0) = true := by simpa using h1
    clear h1
    go_wp2
    go_ret
    exact ⟨rfl, Hw4.out⟩

end Go.Proofs.YtoabgmpcdnikeabGreatDoor
