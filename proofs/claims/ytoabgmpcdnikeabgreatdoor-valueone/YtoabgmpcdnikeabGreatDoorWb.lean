/- One of: the law's body. -/
import Derived.Test.YtoabgmpcdnikeabGreatDoorVv
import Derived.Test.YtoabgmpcdnikeabGreatDoorVy
import Derived.BigQuiet
namespace Go.Proofs.YtoabgmpcdnikeabGreatDoor
open Go.RowKit
set_option linter.unusedVariables false
attribute [local go_sem] Bel.cell Bel.fz

theorem op_at {X : World} {B r : Nat} (hr : r < 6) (h : IsCells X B #[.string ⟨#[61]⟩, .string ⟨#[33, 61]⟩, .string ⟨#[60]⟩, .string ⟨#[60, 61]⟩, .string ⟨#[62]⟩, .string ⟨#[62, 61]⟩]) : ∃ op, IsOp op ∧ X.cell? ⟨B, r, none⟩ = some (.string op) := by
  have a0 := h.cell r
  match r, hr with
  | 0, _ => exact ⟨⟨#[61]⟩, by simp [IsOp], a0⟩
  | 1, _ => exact ⟨⟨#[33, 61]⟩, by simp [IsOp], a0⟩
  | 2, _ => exact ⟨⟨#[60]⟩, by simp [IsOp], a0⟩
  | 3, _ => exact ⟨⟨#[60, 61]⟩, by simp [IsOp], a0⟩
  | 4, _ => exact ⟨⟨#[62]⟩, by simp [IsOp], a0⟩
  | 5, _ => exact ⟨⟨#[62, 61]⟩, by simp [IsOp], a0⟩

set_option maxRecDepth 100000 in
set_option maxHeartbeats 4000000 in
theorem one_walk (w : World) (n : Nat) (hn : n < 256) {la : Option Addr} {lc : Nat} {L : List ByteArray} (hL : SsAt w la L) (lL : L.length ≤ 4611686018427387904) (sL : ∀ s ∈ L, s.size ≤ 281474976710656) {yk yn : Int} {yb yo : Bool} {yt : ByteArray} {ya : Option Addr} {yc : Nat} {yL : List ByteArray} (hyv : VOk w ⟨yk, yb, yn, yo, yt, yL⟩ ya) (G : Gl w) :
    Calls Tryz.prog 3 #[.slice la L.length lc, .agg #[.int .i64 yk, .bool yb, .int .i64 yn, .bool yo, .string yt, .slice ya yL.length yc], .int .u8 (n : Int)] w fun e w' => e = .returned (.bool true) ∧ Below w.heap.size w w' := by
  obtain ⟨W, hW⟩ : ∃ W, (w.alloc (.cells #[.int .i64 yk, .bool yb, .int .i64 yn, .bool yo, .string yt, .slice ya yL.length yc] 24)) = W := ⟨_, rfl⟩
  have HW : Hid ((w.alloc (.cells #[.int .i64 yk, .bool yb, .int .i64 yn, .bool yo, .string yt, .slice ya yL.length yc] 24)) = W ∧ Below w.heap.size w W ∧ IsCells W w.heap.size #[.int .i64 yk, .bool yb, .int .i64 yn, .bool yo, .string yt, .slice ya yL.length yc]) := ⟨hW, by rw [← hW]; exact below1 _ _, by rw [← hW]; exact isCells_new _ _ _⟩
  have HG : Hid (∀ u, Below w.heap.size w u → Gl u) := fun u hu => G.bel hu
  have HV : Hid (∀ u, Below w.heap.size w u → VOk u ⟨yk, yb, yn, yo, yt, yL⟩ ya) := fun u hu => hyv.bel hu
  have HL : Hid (∀ u, Below w.heap.size w u → SsAt u la L) := fun u hu => hL.bel hu
  have HZ : Hid (∀ s ∈ L, s.size ≤ 281474976710656) := sL
  have hl := lives_any W (G.bel HW.out.2.1)
  have r6 : n % 6 < 6 := Nat.mod_lt _ (by decide)
  have rz : (n : Int) % 6 = ((n % 6 : Nat) : Int) := by omega
  obtain ⟨r, hr⟩ : ∃ r, n % 6 = r := ⟨_, rfl⟩
  rw [hr] at r6 rz
  clear hW hL sL hyv G hr
  go_enter Tryz.func3, Tryz.ntmps3
  go_wp2_with fail
  rw [HW.out.1]
  with_reducible refine hl.mono ?_
  rintro e w1 ⟨rfl, hb⟩
  have H1 : Hid (Below w.heap.size w w1 ∧ IsCells w1 w.heap.size #[.int .i64 yk, .bool yb, .int .i64 yn, .bool yo, .string yt, .slice ya yL.length yc]) := ⟨HW.out.2.1.trans (hb.mono HW.out.2.1.size), HW.out.2.2.of_block (hb.block _ HW.out.2.2.lt)⟩
  clear hb hl
  obtain ⟨X, hX⟩ : ∃ X, (w1.alloc (.cells #[.string ⟨#[61]⟩, .string ⟨#[33, 61]⟩, .string ⟨#[60]⟩, .string ⟨#[60, 61]⟩, .string ⟨#[62]⟩, .string ⟨#[62, 61]⟩] 9)) = X := ⟨_, rfl⟩
  have HX : Hid ((w1.alloc (.cells #[.string ⟨#[61]⟩, .string ⟨#[33, 61]⟩, .string ⟨#[60]⟩, .string ⟨#[60, 61]⟩, .string ⟨#[62]⟩, .string ⟨#[62, 61]⟩] 9)) = X ∧ Below w.heap.size w X ∧ IsCells X w.heap.size #[.int .i64 yk, .bool yb, .int .i64 yn, .bool yo, .string yt, .slice ya yL.length yc] ∧ IsCells X w1.heap.size #[.string ⟨#[61]⟩, .string ⟨#[33, 61]⟩, .string ⟨#[60]⟩, .string ⟨#[60, 61]⟩, .string ⟨#[62]⟩, .string ⟨#[62, 61]⟩]) := ⟨hX, by rw [← hX]; exact H1.out.1.alloc H1.out.1.size _, by rw [← hX]; exact H1.out.2.alloc _, by rw [← hX]; exact isCells_new _ _ _⟩
  clear hX
  obtain ⟨op, hop, o0⟩ := op_at r6 HX.out.2.2.2
  rw [← HX.out.1] at o0
  have HO : Hid (IsOp op) := hop
  clear hop
  go_wp2
  rw [HX.out.1]
  clear rz
  go_loopw [6, 8, 9, 10] (fun _ u _ _ wr => ∃ i : Nat, i ≤ L.length ∧ u = .int .i64 (i : Int) ∧ Hid (Below w.heap.size w wr ∧ IsCells wr w.heap.size #[.int .i64 yk, .bool yb, .int .i64 yn, .bool yo, .string yt, .slice ya yL.length yc] ∧ ∀ s ∈ L.take i, (tans (Tx s)).2 = 0)) (fun _ u _ _ _ => L.length - (intOf u).toNat)
  case atStart => exact ⟨0, by omega, rfl, HX.out.2.1, HX.out.2.2.1, fun s hs => by simp at hs⟩
  case round =>
    obtain ⟨i, hi, rfl, HS⟩ := hrel
    by_cases hlt : i < L.length
    · have hltz : (i : Int) < (L.length : Int) := by omega
      obtain ⟨s, hs⟩ : ∃ s, L[i]? = some s := ⟨_, List.getElem?_eq_getElem hlt⟩
      obtain ⟨b1, o1, rfl, hb1, hcell⟩ := HL.out wr HS.out.1 i s hs
      obtain ⟨tx, te, hte⟩ : ∃ x y, tans (Tx s) = (x, y) := ⟨_, _, rfl⟩
      have ht := text_any wr s
      unfold Tx at hte
      rw [hte] at ht
      have HT : Hid (te = 0 → ∀ s ∈ L.take (i + 1), (tans (Tx s)).2 = 0) := fun h0 x hx => by
        rw [List.take_add_one, hs] at hx
        rcases List.mem_append.1 hx with hx | hx
        · exact HS.out.2.2 x hx
        · simp at hx
          subst hx
          show (tans x.data.toList).2 = 0
          rw [hte]
          exact h0
      clear hs hte
      go_wp2_with fail
      with_reducible refine ht.mono ?_
      rintro e w2 ⟨rfl, hb⟩
      have HK : Hid (Below w.heap.size w w2 ∧ IsCells w2 w.heap.size #[.int .i64 yk, .bool yb, .int .i64 yn, .bool yo, .string yt, .slice ya yL.length yc]) := ⟨HS.out.1.trans (hb.mono HS.out.1.size), HS.out.2.1.of_block (hb.block _ HS.out.2.1.lt)⟩
      clear hb ht
      by_cases h0 : te = 0
      · subst h0
        go_wp2
        go_roundw
        case rel => exact ⟨i + 1, by omega, by go_num, HK.out.1, HK.out.2, HT.out trivial⟩
        case measure => simp [intOf]; omega
      · have q3 : (te == 0) = false := by simpa using h0
        have q4 : (te != 0) = true := by simpa using h0
        clear h0 HT
        go_wp2
        go_ret
        exact ⟨rfl, HK.out.1⟩
    · have hltz : ¬ (i : Int) < (L.length : Int) := by omega
      have HA : Hid (∀ s ∈ L, (tans (Tx s)).2 = 0) := by
        have := HS.out.2.2
        rw [List.take_of_length_le (by omega)] at this
        exact this
      have HS0 : Hid (Below w.heap.size w wr ∧ IsCells wr w.heap.size #[.int .i64 yk, .bool yb, .int .i64 yn, .bool yo, .string yt, .slice ya yL.length yc]) := ⟨HS.out.1, HS.out.2.1⟩
      clear HS
      obtain ⟨x0, x1, x2, x3, x4, x5⟩ := six_cells HS0.out.2
      obtain ⟨z, hz⟩ : ∃ z, canV yk (Tx yt) (yL.map Tx) = z := ⟨_, rfl⟩
      have hbo := bool_any wr (c := yc) (HV.out wr HS0.out.1) z hz
      obtain ⟨q, hq⟩ : ∃ q, (z && trB yk yb yn yo (Tx yt) yL.length) = q := ⟨_, rfl⟩
      rw [hq] at hbo
      clear hq
      have HZC : Hid (canV yk (Tx yt) (yL.map Tx) = z) := hz
      clear hz
      go_wp2_with fail
      with_reducible refine hbo.mono ?_
      rintro e w3 ⟨rfl, hb⟩
      have H3 : Hid (Below w.heap.size w w3 ∧ IsCells w3 w.heap.size #[.int .i64 yk, .bool yb, .int .i64 yn, .bool yo, .string yt, .slice ya yL.length yc]) := ⟨HS0.out.1.trans (hb.mono HS0.out.1.size), HS0.out.2.of_block (hb.block _ HS0.out.2.lt)⟩
      clear hb hbo x0 x1 x2 x3 x4 x5
      obtain ⟨x0, x1, x2, x3, x4, x5⟩ := six_cells H3.out.2
      cases z with
      | false =>
        go_wp2
        go_ret
        exact ⟨rfl, H3.out.1⟩
      | true =>
        by_cases hle : L.length ≤ 4096
        · have l1 : ¬ (4096 : Int) < (L.length : Int) := by omega
          have l2 : decide (4096 < L.length) = false := by simp; omega
          by_cases hk : yk = 1
          · subst hk
            go_wp2
            go_ret
            exact ⟨rfl, H3.out.1⟩
          · have k1 : (yk == 1) = false := by simpa using hk
            have HCN : Hid (canV 4 (Tx (⟨#[]⟩ : ByteArray)) (L.map Tx) = true ∧ yk ≠ 1) := ⟨by
              simp [canV]
              exact ⟨hle, fun s hs => HA.out s hs⟩, hk⟩
            clear hk
            have HC1 : Hid (∀ (s : ByteArray), s ∈ L → ∀ u, Below w.heap.size w u → Calls Tryz.prog 8 #[.string op, .agg #[.int .i64 3, .bool false, .int .i64 0, .bool false, .string s, .slice none 0 0], .agg #[.int .i64 yk, .bool yb, .int .i64 yn, .bool yo, .string yt, .slice ya yL.length yc]] u fun e w' => e = .returned (.tuple #[.bool (cmpV op ⟨3, false, 0, false, s, []⟩ ⟨yk, yb, yn, yo, yt, yL⟩), .int .i64 0]) ∧ Below u.heap.size u w') := fun s hs u hu => by
              have hR : cmpR op ⟨3, false, 0, false, s, []⟩ ⟨yk, yb, yn, yo, yt, yL⟩ = (cmpV op ⟨3, false, 0, false, s, []⟩ ⟨yk, yb, yn, yo, yt, yL⟩, 0) := by
                unfold cmpR
                rw [isOpB_iff.2 HO.out, if_neg (by simp), show Vl.can ⟨3, false, 0, false, s, []⟩ = true from by simp [Vl.can, canV, HA.out s hs], show Vl.can ⟨yk, yb, yn, yo, yt, yL⟩ = true from HZC.out]
                rfl
              exact compare_any u op (xc := 0) (vok_made u 3 0 false false s (by decide) (by decide) (HZ.out s hs)) (HV.out u hu) (HG.out u hu) _ _ hR
            have HC2 : Hid (∀ u, Below w.heap.size w u → Calls Tryz.prog 8 #[.string op, .agg #[.int .i64 4, .bool false, .int .i64 0, .bool false, .string ⟨#[]⟩, .slice la L.length lc], .agg #[.int .i64 yk, .bool yb, .int .i64 yn, .bool yo, .string yt, .slice ya yL.length yc]] u fun e w' => e = .returned (.tuple #[.bool (L.any fun s => cmpV op ⟨3, false, 0, false, s, []⟩ ⟨yk, yb, yn, yo, yt, yL⟩), .int .i64 0]) ∧ Below u.heap.size u w') := fun u hu => by
              have hR : cmpR op ⟨4, false, 0, false, ⟨#[]⟩, L⟩ ⟨yk, yb, yn, yo, yt, yL⟩ = ((L.any fun s => cmpV op ⟨3, false, 0, false, s, []⟩ ⟨yk, yb, yn, yo, yt, yL⟩), 0) := by
                unfold cmpR
                rw [isOpB_iff.2 HO.out, if_neg (by simp), show Vl.can ⟨4, false, 0, false, ⟨#[]⟩, L⟩ = true from HCN.out.1, show Vl.can ⟨yk, yb, yn, yo, yt, yL⟩ = true from HZC.out, one_of HO.out L _ HCN.out.2]
                rfl
              exact compare_any u op (xc := lc) ⟨HL.out u hu, lL, (by decide : (-9223372036854775808 : Int) ≤ 0), (by decide : (0 : Int) ≤ 9223372036854775807), (by decide : (⟨#[]⟩ : ByteArray).size ≤ 281474976710656), HZ.out⟩ (HV.out u hu) (HG.out u hu) _ _ hR
            go_wp2
            go_loopw [13, 14, 15, 16] (fun v u _ _ wr => ∃ (i : Nat) (b : Bool), i ≤ L.length ∧ u = .int .i64 (i : Int) ∧ v = .bool b ∧ Hid (Below w.heap.size w wr ∧ IsCells wr w.heap.size #[.int .i64 yk, .bool yb, .int .i64 yn, .bool yo, .string yt, .slice ya yL.length yc] ∧ ((L.take i).any fun s => cmpV op ⟨3, false, 0, false, s, []⟩ ⟨yk, yb, yn, yo, yt, yL⟩) = b)) (fun _ u _ _ _ => L.length - (intOf u).toNat)
            case atStart => exact ⟨0, false, by omega, rfl, rfl, H3.out.1, H3.out.2, rfl⟩
            case round =>
              obtain ⟨i, bb, hi, rfl, rfl, HS⟩ := hrel
              obtain ⟨W5, hW5⟩ : ∃ W5, W5 = wr := ⟨_, rfl⟩
              subst hW5
              clear x0 x1 x2 x3 x4 x5
              obtain ⟨x0, x1, x2, x3, x4, x5⟩ := six_cells HS.out.2.1
              have bl := HS.out.2.1.lt
              by_cases hlt : i < L.length
              · have hltz : (i : Int) < (L.length : Int) := by omega
                obtain ⟨s, hs⟩ : ∃ s, L[i]? = some s := ⟨_, List.getElem?_eq_getElem hlt⟩
                obtain ⟨b1, o1, rfl, hb1, hcell⟩ := HL.out W5 HS.out.1 i s hs
                have HC3 : Hid (∀ u, Below W5.heap.size W5 u → Calls Tryz.prog 8 #[.string op, .agg #[.int .i64 3, .bool false, .int .i64 0, .bool false, .string s, .slice none 0 0], .agg #[.int .i64 yk, .bool yb, .int .i64 yn, .bool yo, .string yt, .slice ya yL.length yc]] u fun e w' => e = .returned (.tuple #[.bool (cmpV op ⟨3, false, 0, false, s, []⟩ ⟨yk, yb, yn, yo, yt, yL⟩), .int .i64 0]) ∧ Below u.heap.size u w') := fun u hu => HC1.out s (List.mem_of_getElem? hs) u (HS.out.1.trans (hu.mono HS.out.1.size))
                have HT : Hid (((L.take (i + 1)).any fun s => cmpV op ⟨3, false, 0, false, s, []⟩ ⟨yk, yb, yn, yo, yt, yL⟩) = (bb || cmpV op ⟨3, false, 0, false, s, []⟩ ⟨yk, yb, yn, yo, yt, yL⟩)) := by
                  show _ = _
                  rw [List.take_add_one, hs, List.any_append, HS.out.2.2]
                  simp
                clear hs
                generalize cmpV op ⟨3, false, 0, false, s, []⟩ ⟨yk, yb, yn, yo, yt, yL⟩ = R at HC3 HT
                go_wp2_with fail
                refine wp_region_bel (by kernel_rfl) (by kernel_rfl) ?_
                intro hne
                repeat go_big_quiet_step (first | (go_at_call 9; exact Calls.bel_of (mktext_any _ _)) | (go_at_call 8; exact Calls.bel_of (HC3.out _ (Bel.h _))))
                refine wpQuiet_nil ?_
                rintro _ ⟨u, rfl⟩
                obtain ⟨W6, hW6⟩ : ∃ W6, W6 = u.w := ⟨_, rfl⟩
                have HV6 : Hid (Below W5.heap.size W5 W6) := by show Below _ _ _; rw [hW6]; exact u.h
                rw [← hW6]
                clear hW6 hne x0 x1 x2 x3 x4 x5 hcell HC3
                have HE : Hid (Below w.heap.size w W6 ∧ IsCells W6 w.heap.size #[.int .i64 yk, .bool yb, .int .i64 yn, .bool yo, .string yt, .slice ya yL.length yc]) := ⟨HS.out.1.trans (HV6.out.mono HS.out.1.size), HS.out.2.1.of_block (HV6.out.block _ bl)⟩
                cases bb with
                | true =>
                  go_wp2
                  go_roundw
                  case rel => exact ⟨i + 1, true, by omega, by go_num, rfl, HE.out.1, HE.out.2, by rw [HT.out]; rfl⟩
                  case measure => simp [intOf]; omega
                | false =>
                  go_wp2
                  go_roundw
                  case rel => exact ⟨i + 1, R, by omega, by go_num, rfl, HE.out.1, HE.out.2, by rw [HT.out]; rfl⟩
                  case measure => simp [intOf]; omega
              · have hltz : ¬ (i : Int) < (L.length : Int) := by omega
                have hany : (L.any fun s => cmpV op ⟨3, false, 0, false, s, []⟩ ⟨yk, yb, yn, yo, yt, yL⟩) = bb := by
                  have := HS.out.2.2
                  rw [List.take_of_length_le (by omega)] at this
                  exact this
                have HC3 : Hid (∀ u, Below W5.heap.size W5 u → Calls Tryz.prog 8 #[.string op, .agg #[.int .i64 4, .bool false, .int .i64 0, .bool false, .string ⟨#[]⟩, .slice la L.length lc], .agg #[.int .i64 yk, .bool yb, .int .i64 yn, .bool yo, .string yt, .slice ya yL.length yc]] u fun e w' => e = .returned (.tuple #[.bool bb, .int .i64 0]) ∧ Below u.heap.size u w') := fun u hu => by
                  have := HC2.out u (HS.out.1.trans (hu.mono HS.out.1.size))
                  rw [hany] at this
                  exact this
                clear hany
                go_wp2_with fail
                refine wp_region_bel (by kernel_rfl) (by kernel_rfl) ?_
                intro hne
                repeat go_big_quiet_step (first | (go_at_call 10; exact Calls.bel_of (mknodes_any _ _ _ _)) | (go_at_call 8; exact Calls.bel_of (HC3.out _ (Bel.h _))))
                refine wpQuiet_nil ?_
                rintro _ ⟨u, rfl⟩
                obtain ⟨W6, hW6⟩ : ∃ W6, W6 = u.w := ⟨_, rfl⟩
                have HV6 : Hid (Below W5.heap.size W5 W6) := by show Below _ _ _; rw [hW6]; exact u.h
                rw [← hW6]
                clear hW6 hne x0 x1 x2 x3 x4 x5 HC3
                have H6 : Hid (Below w.heap.size w W6) := HS.out.1.trans (HV6.out.mono HS.out.1.size)
                go_wp2_with fail
                with_reducible refine (mknodes_any W6 la L.length lc).mono ?_
                rintro e w7 ⟨rfl, hb⟩
                have H7 : Hid (Below w.heap.size w w7) := H6.out.trans (hb.mono H6.out.size)
                clear hb
                obtain ⟨X8, hX8⟩ : ∃ X8, (w7.alloc (.cells #[.int .i64 4, .bool false, .int .i64 0, .bool false, .string ⟨#[]⟩, .slice la L.length lc] 24)) = X8 := ⟨_, rfl⟩
                have H8 : Hid ((w7.alloc (.cells #[.int .i64 4, .bool false, .int .i64 0, .bool false, .string ⟨#[]⟩, .slice la L.length lc] 24)) = X8 ∧ Below w.heap.size w X8 ∧ IsCells X8 w7.heap.size #[.int .i64 4, .bool false, .int .i64 0, .bool false, .string ⟨#[]⟩, .slice la L.length lc]) := ⟨hX8, by rw [← hX8]; exact H7.out.alloc H7.out.size _, by rw [← hX8]; exact isCells_new _ _ _⟩
                clear hX8
                have hA0 : AOk X8 (some ⟨w7.heap.size, 0, none⟩) 0 ⟨4, false, 0, false, ⟨#[]⟩, L⟩ la lc w7.heap.size 0 :=
                  ⟨rfl, H8.out.2.2.lt, H8.out.2.2.cell 0, H8.out.2.2.cell 1, H8.out.2.2.cell 2, H8.out.2.2.cell 3, H8.out.2.2.cell 4, H8.out.2.2.cell 5, ⟨HL.out X8 H8.out.2.1, lL, (by decide : (-9223372036854775808 : Int) ≤ 0), (by decide : (0 : Int) ≤ 9223372036854775807), (by decide : (⟨#[]⟩ : ByteArray).size ≤ 281474976710656), HZ.out⟩⟩
                have hcall : Calls Tryz.prog 11 #[.string ⟨#[99, 111, 117, 110, 116]⟩, .agg #[.int .i64 0, .int .i64 0, .string ⟨#[]⟩, .string ⟨#[]⟩, .slice none 0 0], .slice (some ⟨w7.heap.size, 0, none⟩) 1 1] X8 fun e w' => e = .returned (.tuple #[.agg #[.int .i64 2, .bool false, .int .i64 (L.length : Int), .bool false, .string ⟨#[]⟩, .slice none 0 0], .int .i64 0]) ∧ Below X8.heap.size X8 w' := by
                  refine call_ok (A := [⟨4, false, 0, false, ⟨#[]⟩, L⟩]) X8 ⟨#[99, 111, 117, 110, 116]⟩ (fun j v hv => ?_) (by simp) 1 rfl (fun u => args1 u _ (by simp [Fn1])) (by simp only [List.all_cons, List.all_nil, Bool.and_true]; exact HCN.out.1) (fun u hu => ?_)
                  · match j, hv with
                    | 0, hv =>
                      simp only [List.getElem?_cons_zero, Option.some.injEq] at hv
                      subst hv
                      exact ⟨_, _, _, _, hA0⟩
                    | j + 1, hv => simp at hv
                  · exact called_count u (HG.out u (H8.out.2.1.trans (hu.mono H8.out.2.1.size))) (ps := 0) (la := 0) (nm := ⟨#[]⟩) (tx := ⟨#[]⟩) (ta := none) (tl := 0) (tc := 0) (ac := 1) (hA0.bel hu)
                clear hA0
                go_wp2_with fail
                rw [H8.out.1]
                with_reducible refine hcall.mono ?_
                rintro e w9 ⟨rfl, hb⟩
                have H9 : Hid (Below w.heap.size w w9) := H8.out.2.1.trans (hb.mono H8.out.2.1.size)
                clear hb hcall
                obtain ⟨Xa, hXa⟩ : ∃ Xa, (w9.alloc (.cells #[.int .i64 2, .bool false, .int .i64 (L.length : Int), .bool false, .string ⟨#[]⟩, .slice none 0 0] 24)) = Xa := ⟨_, rfl⟩
                have Ha : Hid ((w9.alloc (.cells #[.int .i64 2, .bool false, .int .i64 (L.length : Int), .bool false, .string ⟨#[]⟩, .slice none 0 0] 24)) = Xa ∧ Below w.heap.size w Xa ∧ IsCells Xa w9.heap.size #[.int .i64 2, .bool false, .int .i64 (L.length : Int), .bool false, .string ⟨#[]⟩, .slice none 0 0]) := ⟨hXa, by rw [← hXa]; exact H9.out.alloc H9.out.size _, by rw [← hXa]; exact isCells_new _ _ _⟩
                clear hXa
                go_wp2_with fail
                rw [Ha.out.1]
                with_reducible refine (mknodes_any Xa la L.length lc).mono ?_
                rintro e wb ⟨rfl, hb⟩
                have Hb : Hid (Below w.heap.size w wb ∧ IsCells wb w9.heap.size #[.int .i64 2, .bool false, .int .i64 (L.length : Int), .bool false, .string ⟨#[]⟩, .slice none 0 0]) := ⟨Ha.out.2.1.trans (hb.mono Ha.out.2.1.size), Ha.out.2.2.of_block (hb.block _ Ha.out.2.2.lt)⟩
                clear hb
                have hbo2 := bool_any wb (k := 4) (n := 0) (b := false) (no := false) (t := ⟨#[]⟩) (L := L) (c := lc) ⟨HL.out wb Hb.out.1, lL, (by decide : (-9223372036854775808 : Int) ≤ 0), (by decide : (0 : Int) ≤ 9223372036854775807), (by decide : (⟨#[]⟩ : ByteArray).size ≤ 281474976710656), HZ.out⟩ true HCN.out.1
                have htr : trB 4 false 0 false (Tx (⟨#[]⟩ : ByteArray)) L.length = decide (0 < L.length) := by simp [trB]
                rw [htr] at hbo2
                clear htr
                go_wp2_with fail
                with_reducible refine hbo2.mono ?_
                rintro e wd ⟨rfl, hb⟩
                have Hd : Hid (Below w.heap.size w wd ∧ IsCells wd w9.heap.size #[.int .i64 2, .bool false, .int .i64 (L.length : Int), .bool false, .string ⟨#[]⟩, .slice none 0 0]) := ⟨Hb.out.1.trans (hb.mono Hb.out.1.size), Hb.out.2.of_block (hb.block _ Hb.out.2.lt)⟩
                clear hb hbo2
                obtain ⟨z0, z1, z2, z3, z4, z5⟩ := six_cells Hd.out.2
                have b2 : (bb == bb) = true := by simp
                have b3 : ((L.length : Int) == (L.length : Int)) = true := by simp
                have b5 : (decide (0 < L.length) == decide (0 < L.length)) = true := by simp
                go_wp2
                go_ret
                exact ⟨rfl, Hd.out.1⟩
        · have l1 : (4096 : Int) < (L.length : Int) := by omega
          have l2 : decide (4096 < L.length) = true := by simp; omega
          go_wp2
          go_ret
          exact ⟨rfl, H3.out.1⟩

end Go.Proofs.YtoabgmpcdnikeabGreatDoor
