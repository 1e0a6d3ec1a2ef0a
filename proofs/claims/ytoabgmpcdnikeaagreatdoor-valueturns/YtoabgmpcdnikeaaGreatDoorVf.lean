/- The number of which a text tells: the program's read. -/
import Derived.Test.YtoabgmpcdnikeaaGreatDoorVe
namespace Go.Proofs.YtoabgmpcdnikeaaGreatDoor
open Go.RowKit
set_option linter.unusedVariables false

theorem trim_call (s d : ByteArray) (hs : s.size ≤ 281474976710656) (hd : d = ⟨(Lib.trimS (Tx s) blk).toArray⟩) (u : World) : Calls Tryz.prog 104 #[.string s, .string ⟨#[9, 10, 13, 32]⟩] u fun e w' => e = .returned (.string d) ∧ Below u.heap.size u w' := by
  subst hd
  exact Tryz.strings_Trim s ⟨#[9, 10, 13, 32]⟩ u (by omega) (by decide) (fun j b h => by have := List.mem_of_getElem? h; simp at this; rcases this with rfl | rfl | rfl | rfl <;> decide)

set_option maxRecDepth 100000 in
theorem read_any (w : World) (G : Gl w) (s : ByteArray) (hs : s.size ≤ 281474976710656) :
    Calls Tryz.prog 66 #[.string s] w fun e w' => e = .returned (.agg #[.int .i64 (rdN (Tx s)).1, .bool (rdN (Tx s)).2]) ∧ Below w.heap.size w w' := by
  obtain ⟨zn, zb, HZ⟩ : ∃ zn zb, Hid (rdN (Tx s) = (zn, zb)) := ⟨_, _, rfl⟩
  rw [HZ.out]
  obtain ⟨d, HD⟩ : ∃ d : ByteArray, Hid (d = ⟨(Lib.trimS (Tx s) blk).toArray⟩) := ⟨_, rfl⟩
  have HE : Hid (Tx d = Lib.trimS (Tx s) blk) := by show _ = _; rw [HD.out]
  have hds : d.size ≤ 281474976710656 := by
    have h1 : d.size = (Tx d).length := Lib.size_eq d
    have h2 := trim_len (Tx s) blk
    have h3 : s.size = (Tx s).length := Lib.size_eq s
    rw [HE.out] at h1
    omega
  have hT := trim_call s d hs HD.out
  have HG : Hid (Gl w) := G
  clear G
  go_enter Tryz.func66, Tryz.ntmps66
  go_wp2_with fail
  with_reducible refine (hT _).mono ?_
  rintro e w1 ⟨rfl, hb1⟩
  have hb0 : Below w.heap.size w w1 := ((Below.refl _ _).alloc (Nat.le_refl _) _).trans (hb1.mono (by simp))
  have hx1 : IsCells w1 w.heap.size #[.int .i64 0, .bool false] := (isCells_new w _ 78).of_block (hb1.block _ (by simp))
  have HX1 : Hid (Below w.heap.size w w1 ∧ IsCells w1 w.heap.size #[.int .i64 0, .bool false]) := ⟨hb0, hx1⟩
  clear hb1 hb0 hx1 hT
  have hP := parse_any w1 (HG.out.bel HX1.out.1) d hds
  go_wp2_with fail
  with_reducible refine hP.mono ?_
  rintro e w2 (⟨v, hv, rfl, hb2⟩ | ⟨hv, v, N, rfl, hb2⟩)
  · have HB2 : Hid (Below w.heap.size w w2) := HX1.out.1.trans (hb2.mono HX1.out.1.size)
    have hx2 : IsCells w2 w.heap.size #[.int .i64 0, .bool false] := HX1.out.2.of_block (hb2.block _ HX1.out.2.lt)
    have c0 := hx2.cell 0
    have c1 := hx2.cell 1
    have f0 := hx2.frozen 0
    have f1 := hx2.frozen 1
    have HX : Hid (IsCells w2 w.heap.size #[.int .i64 0, .bool false]) := hx2
    simp at c0 c1
    obtain ⟨c, r, hcr⟩ : ∃ c r, Tx d = c :: r := by
      cases h : Tx d with
      | nil => rw [h] at hv; simp [Lib.parseIntB] at hv
      | cons c r => exact ⟨c, r, rfl⟩
    have h0 : 0 < d.size := by
      have h1 : d.size = (Tx d).length := Lib.size_eq d
      rw [h1, hcr]
      simp
    have hc0 : d[0]'h0 = c := by
      have : (Tx d)[0]? = some (d[0]'h0) := by
        show d.data.toList[0]? = _
        rw [Array.getElem?_toList, Array.getElem?_eq_getElem h0]
        rfl
      rw [hcr] at this
      simpa using this.symm
    have HV : Hid (Lib.parseIntB 64 (Tx d) = .ok v ∧ Tx d = c :: r) := ⟨hv, hcr⟩
    clear hv hb2 hP hx2 hcr
    generalize hq : d[0]'h0 = q at *
    subst hc0
    by_cases hp : q = 43
    · subst hp
      obtain ⟨rfl, rfl⟩ := Prod.mk.inj (HZ.out.symm.trans (rd_plus (by rw [← HE.out]; exact HV.out.1) (by rw [← HE.out, HV.out.2]; rfl)))
      go_wp2
      have hy := (HX.out.set 0 (.int .i64 0)).set 1 (.bool false)
      have y0 := hy.cell 0
      have y1 := hy.cell 1
      simp at y0 y1
      exact bodyPost_ret (v := .agg #[.int .i64 0, .bool false]) (by simp [results, Tryz.results66, go_sem, y0, y1]) rfl ⟨rfl, (HB2.out.setCell (p := ⟨w.heap.size, 0, none⟩) (Nat.le_refl _) _).setCell (p := ⟨w.heap.size, 1, none⟩) (Nat.le_refl _) _⟩
    · obtain ⟨rfl, rfl⟩ := Prod.mk.inj (HZ.out.symm.trans (rd_yes (by rw [← HE.out]; exact HV.out.1) (by rw [← HE.out, HV.out.2]; simpa using hp)))
      have hq1 : (q == 43) = false := by simpa using hp
      have hq2 : ((q.toNat : Int) == 43) = false := by
        rw [beq_eq_false_iff_ne]
        intro e
        exact hp (UInt8.toNat_inj.1 (by simpa using (by omega : q.toNat = 43)))
      clear hp
      go_wp2
      have hy := (HX.out.set 0 (.int .i64 zn)).set 1 (.bool true)
      have y0 := hy.cell 0
      have y1 := hy.cell 1
      simp at y0 y1
      exact bodyPost_ret (v := .agg #[.int .i64 zn, .bool true]) (by simp [results, Tryz.results66, go_sem, y0, y1]) rfl ⟨rfl, (HB2.out.setCell (p := ⟨w.heap.size, 0, none⟩) (Nat.le_refl _) _).setCell (p := ⟨w.heap.size, 1, none⟩) (Nat.le_refl _) _⟩
  · have HX2 : Hid (Below w.heap.size w w2 ∧ (zn, zb) = ((0 : Int), false)) := ⟨HX1.out.1.trans (hb2.mono HX1.out.1.size), by rw [← HZ.out]; exact rd_no (fun v e => hv v (by rw [HE.out]; exact e))⟩
    have hx2 : IsCells w2 w.heap.size #[.int .i64 0, .bool false] := HX1.out.2.of_block (hb2.block _ HX1.out.2.lt)
    have c0 := hx2.cell 0
    have c1 := hx2.cell 1
    have f0 := hx2.frozen 0
    have f1 := hx2.frozen 1
    have HX : Hid (IsCells w2 w.heap.size #[.int .i64 0, .bool false]) := hx2
    simp at c0 c1
    obtain ⟨rfl, rfl⟩ := Prod.mk.inj HX2.out.2
    clear hv hb2 hP hx2
    go_wp2
    have hy := (HX.out.set 0 (.int .i64 0)).set 1 (.bool false)
    have y0 := hy.cell 0
    have y1 := hy.cell 1
    simp at y0 y1
    exact bodyPost_ret (v := .agg #[.int .i64 0, .bool false]) (by simp [results, Tryz.results66, go_sem, y0, y1]) rfl ⟨rfl, (HX2.out.1.setCell (p := ⟨w.heap.size, 0, none⟩) (Nat.le_refl _) _).setCell (p := ⟨w.heap.size, 1, none⟩) (Nat.le_refl _) _⟩

end Go.Proofs.YtoabgmpcdnikeaaGreatDoor
