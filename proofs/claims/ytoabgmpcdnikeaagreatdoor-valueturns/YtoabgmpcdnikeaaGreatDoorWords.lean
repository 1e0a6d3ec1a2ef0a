/- What Name and Blank answer, the program's and the document's. -/
import Derived.Test.YtoabgmpcdnikeaaGreatDoorText
namespace Go.Proofs.YtoabgmpcdnikeaaGreatDoor
open Go.RowKit
set_option linter.unusedVariables false

def blankL (l : List UInt8) : Bool := l.all fun b => blankB b.toNat
def nameL (l : List UInt8) : Bool := decide (1 ≤ l.length ∧ l.length ≤ 32) && (l.take 1).all (fun b => beginB b.toNat) && l.all fun b => inB b.toNat

theorem take_snoc {α : Type} {l : List α} {i : Nat} (h : i < l.length) : l.take (i + 1) = l.take i ++ [l[i]] := by rw [List.take_add_one, List.getElem?_eq_getElem h]; rfl

theorem name_false_of {l : List UInt8} {i : Nat} (hi : i < l.length) (h : inB (l[i]).toNat = false ∨ (i = 0 ∧ beginB (l[i]).toNat = false)) : nameL l = false := by
  rcases h with h | ⟨h0, h⟩
  · have : (l.all fun b => inB b.toNat) = false := by
      rw [List.all_eq_false]
      exact ⟨l[i], List.getElem_mem _, by simp [h]⟩
    simp [nameL, this]
  · subst h0
    have : ((l.take 1).all fun b => beginB b.toNat) = false := by
      rw [List.all_eq_false]
      refine ⟨l[0], ?_, by simp [h]⟩
      rw [List.mem_take_iff_getElem]
      exact ⟨0, by omega, rfl⟩
    simp [nameL, this]

set_option maxRecDepth 100000 in
set_option maxHeartbeats 1000000 in
theorem name_out (w : World) (s : ByteArray) (h : s.toList.isEmpty = true ∨ 32 < s.size) :
    Calls Tryz.prog 194 #[.string s] w fun e w' => e = .returned (.bool false) ∧ w' = w := by
  cases h1 : s.toList.isEmpty
  · have h2 : 32 < s.size := by
      rcases h with h | h
      · rw [h1] at h; simp at h
      · exact h
    clear h
    go_enter Tryz.func194, Tryz.ntmps194
    go_wp2
    go_ret
    exact ⟨rfl, rfl⟩
  · clear h
    go_enter Tryz.func194, Tryz.ntmps194
    go_wp2
    go_ret
    exact ⟨rfl, rfl⟩

set_option maxRecDepth 100000 in
set_option maxHeartbeats 4000000 in
theorem name_walk (w : World) (s : ByteArray) (h0 : 0 < s.size) (h : s.size ≤ 32) (x : Bool) (hx : nameL s.data.toList = x) :
    Calls Tryz.prog 194 #[.string s] w fun e w' => e = .returned (.bool x) ∧ Below w.heap.size w w' := by
  obtain ⟨W, cap, hrun, hbel, hWs, hc⟩ := conv_bytes w s
  have hne := notEmpty h0
  have hl := size_list s
  have HC : Hid (∀ j (hj : j < s.data.toList.length), W.cell? ⟨w.heap.size, j, none⟩ = some (.int .u8 ((s.data.toList[j]).toNat : Int))) := bytes_cell hc
  have HX : Hid (nameL s.data.toList = x) := hx
  have HW : Hid (Below w.heap.size w W) := hbel
  generalize s.data.toList = l at *
  clear hc hx hbel
  go_enter Tryz.func194, Tryz.ntmps194
  go_wp2
  go_loop [15] (fun v => ∃ i : Nat, i ≤ s.size ∧ v = .int .i64 (i : Int) ∧ Hid (∀ j (hj : j < l.length), j < i → inB (l[j]).toNat = true ∧ (j = 0 → beginB (l[j]).toNat = true))) (fun v => s.size - (intOf v).toNat)
  case atStart => exact ⟨0, by omega, rfl, fun j hj h => by omega⟩
  case round =>
    obtain ⟨i, hi, rfl, hall⟩ := hrel
    by_cases hlt : i < s.size
    · have hcell := HC.out i (by omega)
      have HF : Hid ((inB (l[i]'(by omega)).toNat = false ∨ (i = 0 ∧ beginB (l[i]'(by omega)).toNat = false)) → x = false) := fun h => by rw [← HX.out]; exact name_false_of (by omega) h
      have HS : Hid (inB (l[i]'(by omega)).toNat = true ∧ (i = 0 → beginB (l[i]'(by omega)).toNat = true) → ∀ j (hj : j < l.length), j < i + 1 → inB (l[j]).toNat = true ∧ (j = 0 → beginB (l[j]).toNat = true)) := by
        intro h j hj hji
        rcases Nat.lt_or_ge j i with h1 | h1
        · exact hall.out j hj h1
        · have : j = i := by omega
          subst this
          exact h
      have hb256 : ((l[i]'(by omega)).toNat : Int) < 256 := by have := UInt8.toNat_lt (l[i]'(by omega)); omega
      generalize (l[i]'(by omega)).toNat = b at hcell HF HS hb256
      have h95 : ((b : Int) == 95) = decide (b = 95) := by rw [Bool.eq_iff_iff]; simp; omega
      have h45 : ((b : Int) == 45) = decide (b = 45) := by rw [Bool.eq_iff_iff]; simp; omega
      have h46 : ((b : Int) == 46) = decide (b = 46) := by rw [Bool.eq_iff_iff]; simp; omega
      have h00 : ((i : Int) == 0) = decide (i = 0) := by rw [Bool.eq_iff_iff]; simp
      clear HX HC hall
      go_wp2
      all_goals first
        | (go_ret
           refine ⟨congrArg _ (v_bool (HF.out ?_).symm), HW.out⟩
           simp only [inB, beginB, decide_eq_false_iff_not]
           omega)
        | (go_round
           case rel =>
             refine ⟨i + 1, by omega, by go_num, HS.out ?_⟩
             simp only [inB, beginB, decide_eq_true_eq]
             omega
           case measure => simp [intOf]; omega)
    · have hfin : x = true := by
        have ha := hall.out
        have h1 : (l.all fun b => inB b.toNat) = true := by
          rw [List.all_eq_true]
          intro b hb
          obtain ⟨j, hj, rfl⟩ := List.getElem_of_mem hb
          exact (ha j hj (by omega)).1
        have h2 : ((l.take 1).all fun b => beginB b.toNat) = true := by
          rw [List.all_eq_true]
          intro b hb
          rw [List.mem_take_iff_getElem] at hb
          obtain ⟨j, hj, rfl⟩ := hb
          exact (ha j (by omega) (by omega)).2 (by omega)
        rw [← HX.out, nameL, h1, h2]
        simp
        omega
      clear HX HC hall
      go_wp2
      go_ret
      first | exact ⟨congrArg _ (v_bool hfin.symm), HW.out⟩ | exact ⟨rfl, HW.out⟩

set_option maxRecDepth 100000 in
set_option maxHeartbeats 1000000 in
theorem rname_out (w : World) (s : ByteArray) (h : s.size < 1 ∨ 32 < s.size) :
    Calls Tryz.prog 127 #[.string s] w fun e w' => e = .returned (.bool false) ∧ w' = w := by
  rcases Nat.lt_or_ge s.size 1 with h1 | h1
  · clear h
    go_enter Tryz.func127, Tryz.ntmps127
    go_wp2
    go_ret
    exact ⟨rfl, rfl⟩
  · have h2 : 32 < s.size := by omega
    clear h
    go_enter Tryz.func127, Tryz.ntmps127
    go_wp2
    go_ret
    exact ⟨rfl, rfl⟩

set_option maxRecDepth 100000 in
set_option maxHeartbeats 1000000 in
theorem rname_not (w : World) (s : ByteArray) (h0 : 0 < s.size) (h : s.size ≤ 32) (hb : beginB (s[0]'h0).toNat = false) :
    Calls Tryz.prog 127 #[.string s] w fun e w' => e = .returned (.bool false) ∧ w' = w := by
  have hbg := begins_any w (s[0]'h0).toNat (UInt8.toNat_lt _)
  rw [hb] at hbg
  go_enter Tryz.func127, Tryz.ntmps127
  go_wp2_with fail
  refine hbg.mono ?_
  rintro e w2 ⟨rfl, rfl⟩
  go_wp2
  go_ret
  exact ⟨rfl, rfl⟩

set_option maxRecDepth 100000 in
set_option maxHeartbeats 1000000 in
theorem rname_walk (w : World) (s : ByteArray) (h0 : 0 < s.size) (h : s.size ≤ 32) (hb : beginB (s[0]'h0).toNat = true) (x : Bool) (hx : (s.data.toList.all fun b => inB b.toNat) = x) :
    Calls Tryz.prog 127 #[.string s] w fun e w' => e = .returned (.bool x) ∧ w' = w := by
  have hbg := begins_any w (s[0]'h0).toNat (UInt8.toNat_lt _)
  rw [hb] at hbg
  have hl := size_list s
  have HC : Hid (∀ j (hj : j < s.data.toList.length) (hj' : j < s.size), s.data.toList[j]'hj = s[j]'hj') := fun j hj hj' => (get_list hj').2
  have HX : Hid ((s.data.toList.all fun b => inB b.toNat) = x) := hx
  generalize s.data.toList = l at *
  clear hx
  go_enter Tryz.func127, Tryz.ntmps127
  go_wp2_with fail
  refine hbg.mono ?_
  rintro e w2 ⟨rfl, rfl⟩
  go_wp2
  go_loop [3] (fun v => ∃ i : Nat, i ≤ s.size ∧ v = .int .i64 (i : Int) ∧ Hid ((l.take i).all (fun b => inB b.toNat) = true)) (fun v => s.size - (intOf v).toNat)
  case atStart => exact ⟨0, by omega, rfl, rfl⟩
  case round =>
    obtain ⟨i, hi, rfl, hall⟩ := hrel
    by_cases hlt : i < s.size
    · have hcell := HC.out i (by omega) hlt
      have hts := take_snoc (l := l) (i := i) (by omega)
      have hmem : (l[i]'(by omega)) ∈ l := List.getElem_mem _
      rw [hcell] at hts hmem
      have hbl := in_any w2 (s[i]'hlt).toNat (UInt8.toNat_lt _)
      cases hB : inB (s[i]'hlt).toNat <;> rw [hB] at hbl
      · have hfin : x = false := by
          rw [← HX.out, List.all_eq_false]
          exact ⟨_, hmem, by simp [hB]⟩
        clear HX hcell
        go_wp2_with fail
        refine hbl.mono ?_
        rintro e w3 ⟨rfl, rfl⟩
        go_wp2
        go_ret
        first | exact ⟨congrArg _ (v_bool hfin.symm), rfl⟩ | exact ⟨rfl, rfl⟩
      · clear HX hcell
        go_wp2_with fail
        refine hbl.mono ?_
        rintro e w3 ⟨rfl, rfl⟩
        go_wp2
        go_round
        case rel =>
          refine ⟨i + 1, by omega, by go_num, ?_⟩
          show (l.take (i + 1)).all (fun b => inB b.toNat) = true
          rw [hts, List.all_append, hall.out]
          simp [hB]
        case measure => simp [intOf]; omega
    · have hfin : x = true := by
        rw [← HX.out, ← hall.out, List.take_of_length_le (by omega)]
      clear HX
      go_wp2
      go_ret
      first | exact ⟨congrArg _ (v_bool hfin.symm), rfl⟩ | exact ⟨rfl, rfl⟩

theorem name_any (w : World) (s : ByteArray) :
    Calls Tryz.prog 194 #[.string s] w fun e w' => e = .returned (.bool (nameL s.data.toList)) ∧ Below w.heap.size w w' := by
  have hl := size_list s
  by_cases h : 1 ≤ s.size ∧ s.size ≤ 32
  · exact name_walk w s (by omega) (by omega) _ rfl
  · have hn : nameL s.data.toList = false := by simp only [nameL, hl, h, decide_false, Bool.false_and]
    rw [hn]
    refine (name_out w s ?_).mono ?_
    · rcases Nat.lt_or_ge s.size 1 with h1 | h1
      · left
        rw [Lib.toList_data]
        have : s.data.toList = [] := List.length_eq_zero_iff.1 (by omega)
        rw [this]
        rfl
      · right; omega
    · rintro e w' ⟨rfl, rfl⟩
      exact ⟨rfl, Below.refl _ _⟩

theorem rname_any (w : World) (s : ByteArray) :
    Calls Tryz.prog 127 #[.string s] w fun e w' => e = .returned (.bool (nameL s.data.toList)) ∧ w' = w := by
  have hl := size_list s
  by_cases h : 1 ≤ s.size ∧ s.size ≤ 32
  · have h0 : 0 < s.size := by omega
    have ht : s.data.toList.take 1 = [s[0]'h0] := by
      have := drop_get h0
      rw [List.drop_zero] at this
      rw [this]
      rfl
    cases hb : beginB (s[0]'h0).toNat
    · have hn : nameL s.data.toList = false := by simp [nameL, ht, hb]
      rw [hn]
      exact rname_not w s h0 h.2 hb
    · have hn : nameL s.data.toList = s.data.toList.all fun b => inB b.toNat := by simp only [nameL, hl, ht, hb, h, and_self, decide_true, List.all_cons, List.all_nil, Bool.and_self, Bool.true_and]
      rw [hn]
      exact rname_walk w s h0 h.2 hb _ rfl
  · have hn : nameL s.data.toList = false := by simp only [nameL, hl, h, decide_false, Bool.false_and]
    rw [hn]
    exact rname_out w s (by omega)

end Go.Proofs.YtoabgmpcdnikeaaGreatDoor
