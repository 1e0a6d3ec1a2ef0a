/- Blanks and names, as the reader reads them. -/
import Derived.Test.YtmifejkddgcbmaaGreatA08
namespace Go.Proofs.YtmifejkddgcbmaaGreat
open Go.RowKit
set_option linter.unusedVariables false
set_option linter.unusedSimpArgs false
attribute [local go_sem] Bel.cell Bel.fz

theorem runN_step {l : Bs} {p : UInt8 → Bool} {a : Nat} {b : UInt8} (h : l[a]? = some b) (hp : p b = true) : a + runN l p a = (a + 1) + runN l p (a + 1) := by
  obtain ⟨h', e⟩ := List.getElem?_eq_some_iff.1 h
  unfold runN
  rw [List.drop_eq_getElem_cons h', List.takeWhile_cons, e, hp]
  simp; omega
theorem runN_stop {l : Bs} {p : UInt8 → Bool} {a : Nat} (h : ∀ b, l[a]? = some b → p b = false) : runN l p a = 0 := by
  unfold runN
  by_cases ha : a < l.length
  · rw [List.drop_eq_getElem_cons ha, List.takeWhile_cons, h _ (List.getElem?_eq_getElem ha)]
    simp
  · rw [List.drop_eq_nil_of_le (by omega)]; rfl
theorem runN_le {l : Bs} {p : UInt8 → Bool} {a : Nat} (h : a ≤ l.length) : a + runN l p a ≤ l.length := by
  unfold runN
  have := (List.takeWhile_sublist p (l := l.drop a)).length_le
  rw [List.length_drop] at this
  omega

def atOf (w : World) (b : Nat) : Nat := match w.cell? ⟨b, 1, none⟩ with
  | some (.int _ x) => x.toNat
  | _ => 0
theorem Rd.atOf {w : World} {b : Nat} {tx : ByteArray} {s : St} (h : Rd w b tx s) : atOf w b = s.at_ := by
  unfold YtmifejkddgcbmaaGreat.atOf
  rw [h.facts.2.1]; simp

theorem ext_one {tx : ByteArray} {a : Nat} (h : a < tx.size) : (tx.extract a (a + 1)).data.toList = [tx[a]'h] := by
  rw [Lib.extract_data, show a + 1 - a = 1 by omega, drop_get h]; rfl

set_option maxRecDepth 100000 in
set_option maxHeartbeats 1000000 in
theorem blanks_any (w : World) (b : Nat) (tx : ByteArray) (s : St) (h : Rd w b tx s) (ok : Ok tx s) :
    Calls Tryz.prog 61 #[.pointer (some ⟨b, 0, none⟩)] w fun e w' => e = .returned (.bool (decide (s.at_ < (blanksP tx.data.toList s).at_))) ∧ Rd w' b tx (blanksP tx.data.toList s) ∧ Turn (· = b) w w' := by
  obtain ⟨k1, k2, k3, k4⟩ := ok
  have HR : Hid (Rd w b tx s) := h
  obtain ⟨h0, h1, h2, h3, f1, f2, f3, hb⟩ := h.facts
  have hE : ∃ E, E = s.at_ + runN tx.data.toList (fun b => blankB b.toNat) s.at_ := ⟨_, rfl⟩
  obtain ⟨E, hE⟩ := hE
  have e1 : blanksP tx.data.toList s = { s with at_ := E } := by simp [blanksP, hE]
  rw [e1]
  have HE : Hid (E = s.at_ + runN tx.data.toList (fun b => blankB b.toNat) s.at_) := hE
  clear h hE e1
  go_enter Tryz.func61, Tryz.ntmps61
  go_wp2
  go_loopw [] (fun wr => ∃ a : Nat, s.at_ ≤ a ∧ a ≤ tx.size ∧ Hid (E = a + runN tx.data.toList (fun b => blankB b.toNat) a) ∧ Hid (Rd wr b tx { s with at_ := a }) ∧ Hid (Turn (fun x => x = b) w wr)) (fun wr => tx.size - atOf wr b)
  case atStart => exact ⟨s.at_, by omega, k2, HE, HR, Turn.refl _ _⟩
  case round =>
    obtain ⟨a, ha0, ha1, hgo, hr, ht⟩ := hrel
    clear h0 h1 h2 h3 f1 f2 f3 hb
    obtain ⟨h0, h1, h2, h3, f1, f2, f3, hb⟩ := hr.out.facts
    simp only at h1 h2 h3
    by_cases hlt : a < tx.size
    · have hbl := fun W => blankl_any W (tx.extract a (a + 1)) (by simp; omega)
      have hx1 := ext_one hlt
      have ge := get_some hlt
      cases hc : blankB (tx[a]'hlt).toNat
      · have hv : blankL (tx.extract a (a + 1)).data.toList = false := by rw [hx1]; simp [blankL, hc]
        rw [hv] at hbl
        have hEa : E = a := by
          rw [hgo.out, runN_stop (fun b hb => by rw [ge] at hb; cases hb; exact hc)]; omega
        have HEa : Hid (E = a) := hEa
        clear hgo hx1 ge hc hv hEa HE HR
        go_wp2
        refine wp_region_bel (by kernel_rfl) (by kernel_rfl) ?_
        intro hne
        repeat go_big_quiet_step ((go_at_call 91; exact Calls.bel_of (hbl _)))
        refine wpQuiet_nil ?_
        rintro _ ⟨u, rfl⟩
        go_wp2
        go_ret
        have e2 := HEa.out
        refine ⟨congrArg _ (v_bool (by rw [e2])), ?_, ht.out.then u.h (ht.out.size)⟩
        rw [e2]
        exact hr.out.below u.h hb
      · have hv : blankL (tx.extract a (a + 1)).data.toList = true := by rw [hx1]; simp [blankL, hc]
        rw [hv] at hbl
        have hEa : E = (a + 1) + runN tx.data.toList (fun b => blankB b.toNat) (a + 1) := by rw [hgo.out, runN_step ge hc]
        have HEa : Hid (E = (a + 1) + runN tx.data.toList (fun b => blankB b.toNat) (a + 1)) := hEa
        clear hgo hx1 ge hc hv hEa HE HR
        go_wp2
        refine wp_region_bel (by kernel_rfl) (by kernel_rfl) ?_
        intro hne
        repeat go_big_quiet_step ((go_at_call 91; exact Calls.bel_of (hbl _)))
        refine wpQuiet_nil ?_
        rintro _ ⟨u, rfl⟩
        go_wp2
        have hr2 : Rd (u.w.setCell ⟨b, 1, none⟩ (.int .i64 ((a : Int) + 1))) b tx { s with at_ := a + 1 } := (hr.out.below u.h hb).setAt (a + 1) (by simp)
        refine ⟨⟨a + 1, by omega, by omega, HEa, hr2, turn_set (ht.out.then u.h ht.out.size) _ _⟩, ?_⟩
        rw [hr2.atOf, hr.out.atOf]
        simp only
        omega
    · have hEa : E = a := by
        rw [hgo.out, runN_stop (fun b hb => by rw [get_no (by omega)] at hb; cases hb)]; omega
      have HEa : Hid (E = a) := hEa
      have e3 : a = tx.size := by omega
      clear hgo HE HR hEa
      go_wp2
      refine wp_region_bel (by kernel_rfl) (by kernel_rfl) ?_
      intro hne
      repeat go_big_quiet_step (fail)
      refine wpQuiet_nil ?_
      rintro _ ⟨u, rfl⟩
      go_wp2
      go_ret
      have e2 := HEa.out
      refine ⟨congrArg _ (v_bool (by rw [e2]; simp <;> omega)), ?_, ht.out.then u.h (ht.out.size)⟩
      rw [e2]
      exact hr.out.below u.h hb

set_option maxRecDepth 100000 in
theorem firstOf_any (w : World) (c : UInt8) : Calls Tryz.prog 88 #[.int .u8 (c.toNat : Int)] w fun e w' => e = .returned (.bool (beginB c.toNat)) ∧ Below w.heap.size w w' := by
  have hcv := conv_new w [c] #[.int .u8 (c.toNat : Int)] (by simp [Lib.byteCells]) 1 rfl
  have hn : nameL [c] = beginB c.toNat := by
    have hi : beginB c.toNat = true → inB c.toNat = true := by intro h; simp only [beginB, inB, decide_eq_true_eq] at h ⊢; omega
    simp only [nameL]
    cases hb : beginB c.toNat
    · simp [hb]
    · simp [hb, hi hb]
  have hnw := fun W => name_any W (⟨#[c]⟩ : ByteArray)
  simp only [hn] at hnw
  go_enter Tryz.func88, Tryz.ntmps88
  go_wp2_with fail
  refine (hnw _).mono ?_
  rintro e w1 ⟨rfl, hb⟩
  go_wp2
  go_ret
  exact ⟨rfl, (below_new w _).trans (hb.mono (by simp))⟩

set_option maxRecDepth 100000 in
theorem inName_any (w : World) (c : UInt8) : Calls Tryz.prog 89 #[.int .u8 (c.toNat : Int)] w fun e w' => e = .returned (.bool (inB c.toNat)) ∧ Below w.heap.size w w' := by
  have hcv := conv_new w [95, c] #[.int .u8 95, .int .u8 (c.toNat : Int)] (by simp [Lib.byteCells]) 2 rfl
  have hn : nameL [95, c] = inB c.toNat := by
    have h1 : beginB 95 = true := by decide
    have h2 : inB 95 = true := by decide
    simp [nameL, h1, h2]
  have hnw := fun W => name_any W (⟨#[95, c]⟩ : ByteArray)
  simp only [hn] at hnw
  go_enter Tryz.func89, Tryz.ntmps89
  go_wp2_with fail
  refine (hnw _).mono ?_
  rintro e w1 ⟨rfl, hb⟩
  go_wp2
  go_ret
  exact ⟨rfl, (below_new w _).trans (hb.mono (by simp))⟩


end Go.Proofs.YtmifejkddgcbmaaGreat
