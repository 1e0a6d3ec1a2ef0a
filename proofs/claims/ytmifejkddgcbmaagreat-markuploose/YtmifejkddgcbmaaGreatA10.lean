/- What stands at the reader; what it skips; names. -/
import Derived.Test.YtmifejkddgcbmaaGreatA09
import Derived.Test.YtmifejkddgcbmaaGreatA07
namespace Go.Proofs.YtmifejkddgcbmaaGreat
open Go.RowKit
set_option linter.unusedVariables false
set_option linter.unusedSimpArgs false
attribute [local go_sem] Bel.cell Bel.fz

theorem ext_drop {tx : ByteArray} {a : Nat} : (tx.extract a tx.size).data.toList = tx.data.toList.drop a := by
  rw [Lib.extract_data, List.take_of_length_le]
  rw [List.length_drop, size_list]; omega
theorem ext_mid {tx : ByteArray} {a e : Nat} : (tx.extract a e).data.toList = (tx.data.toList.drop a).take (e - a) := by
  rw [Lib.extract_data]

set_option maxRecDepth 100000 in
theorem sees_any (w : World) (b : Nat) (tx : ByteArray) (s : St) (h : Rd w b tx s) (ok : Ok tx s) (p : ByteArray) :
    Calls Tryz.prog 56 #[.pointer (some ⟨b, 0, none⟩), .string p] w fun e w' => e = .returned (.bool (seesP tx.data.toList p.data.toList s.at_)) ∧ Below w.heap.size w w' := by
  obtain ⟨h0, h1, h2, h3, f1, f2, f3, hb⟩ := h.facts
  obtain ⟨k1, k2, k3, k4⟩ := ok
  have hp := fun W => Tryz.strings_HasPrefix (tx.extract s.at_ tx.size) p W
  rw [ext_drop] at hp
  unfold seesP
  simp only [Lib.hasPrefix] at hp
  generalize p.data.toList.isPrefixOf (tx.data.toList.drop s.at_) = z at *
  go_enter Tryz.func56, Tryz.ntmps56
  go_wp2
  refine wp_region_bel (by kernel_rfl) (by kernel_rfl) ?_
  intro hne
  repeat go_big_quiet_step ((go_at_call 84; exact Calls.bel_of_same (hp _)))
  refine wpQuiet_nil ?_
  rintro _ ⟨u, rfl⟩
  go_wp2
  go_ret
  exact ⟨rfl, u.h⟩

set_option maxRecDepth 100000 in
theorem breaks_any (w : World) (b : Nat) (tx : ByteArray) (s : St) (h : Rd w b tx s) (ok : Ok tx s) (p : ByteArray) :
    Calls Tryz.prog 108 #[.pointer (some ⟨b, 0, none⟩), .string p] w fun e w' => e = .returned (.bool (breaksP tx.data.toList p.data.toList s.at_)) ∧ Below w.heap.size w w' := by
  obtain ⟨h0, h1, h2, h3, f1, f2, f3, hb⟩ := h.facts
  obtain ⟨k1, k2, k3, k4⟩ := ok
  have hp := fun W => Tryz.strings_HasPrefix p (tx.extract s.at_ tx.size) W
  rw [ext_drop] at hp
  unfold breaksP
  simp only [Lib.hasPrefix] at hp
  generalize (tx.data.toList.drop s.at_).isPrefixOf p.data.toList = z at *
  go_enter Tryz.func108, Tryz.ntmps108
  go_wp2
  refine wp_region_bel (by kernel_rfl) (by kernel_rfl) ?_
  intro hne
  repeat go_big_quiet_step ((go_at_call 84; exact Calls.bel_of_same (hp _)))
  refine wpQuiet_nil ?_
  rintro _ ⟨u, rfl⟩
  go_wp2
  go_ret
  exact ⟨rfl, u.h⟩

theorem index_find (p : Bs) : ∀ l : Bs, Lib.index l p = match findP p l with
    | some k => (k : Int)
    | none => -1
  | [] => by
    unfold Lib.index findP
    cases p <;> simp [List.isPrefixOf]
  | b :: r => by
    unfold Lib.index findP
    rw [index_find p r]
    cases hb : p.isPrefixOf (b :: r)
    · simp only [Bool.false_eq_true, if_false]
      cases findP p r with
      | none => simp
      | some k => simp <;> omega
    · simp

theorem findP_le (p : Bs) : ∀ (l : Bs) (k : Nat), findP p l = some k → k + p.length ≤ l.length
  | [], k => by
    unfold findP
    split
    · rename_i h
      intro e; cases e
      have := isPre h
      simpa using this
    · intro e; cases e
  | b :: r, k => by
    unfold findP
    split
    · rename_i h
      intro e; cases e
      have := isPre h
      simpa using this
    · intro e
      obtain ⟨j, hj, rfl⟩ := Option.map_eq_some_iff.1 e
      have := findP_le p r j hj
      simp; omega

set_option maxRecDepth 100000 in
theorem skip_any (w : World) (b : Nat) (tx : ByteArray) (s : St) (h : Rd w b tx s) (ok : Ok tx s) (p q : ByteArray) (hp : s.at_ + p.size ≤ tx.size) (hq : q.size ≤ 10) :
    Calls Tryz.prog 81 #[.pointer (some ⟨b, 0, none⟩), .string p, .string q] w (Post w b tx (· = b) (skipP tx.data.toList p.size q.data.toList s) fun x e w' => e = .returned (.string (ba x))) := by
  have HR : Hid (Rd w b tx s) := h
  obtain ⟨h0, h1, h2, h3, f1, f2, f3, hb⟩ := h.facts
  obtain ⟨-, hb0, m, hm⟩ := h
  obtain ⟨k1, k2, k3, k4⟩ := ok
  have hfl := fun W => fail_any W (.pointer (some ⟨b, 0, none⟩)) s.at_ 4
  have hcut : ∀ u : Bel w, Calls Tryz.prog 107 #[.string (tx.extract (s.at_ + p.size) tx.size), .string q] u.w fun e w' => e = .returned (.tuple #[.string ⟨(Lib.cut (tx.data.toList.drop (s.at_ + p.size)) q.data.toList).1.toArray⟩, .string ⟨(Lib.cut (tx.data.toList.drop (s.at_ + p.size)) q.data.toList).2.1.toArray⟩, .bool (Lib.cut (tx.data.toList.drop (s.at_ + p.size)) q.data.toList).2.2]) ∧ Below u.w.heap.size u.w w' := by
    intro u
    have := Tryz.strings_Cut (tx.extract (s.at_ + p.size) tx.size) q m u.w (by simp; omega) ((u.cell 0 0 (by omega)).trans hm)
    rw [ext_drop] at this
    exact this.mono fun e w' ⟨h1, n, h2⟩ => ⟨h1, by rw [h2]; exact ⟨rfl, rfl, rfl, Nat.le_refl _, fun _ _ => rfl⟩⟩
  have hix := index_find q.data.toList (tx.data.toList.drop (s.at_ + p.size))
  unfold skipP
  cases hf : findP q.data.toList (tx.data.toList.drop (s.at_ + p.size)) with
  | none =>
    rw [hf] at hix
    have hc : Lib.cut (tx.data.toList.drop (s.at_ + p.size)) q.data.toList = (tx.data.toList.drop (s.at_ + p.size), [], false) := by
      unfold Lib.cut
      rw [hix]; rfl
    rw [hc] at hcut
    generalize tx.data.toList.drop (s.at_ + p.size) = L at *
    clear hix hf hc hm
    go_enter Tryz.func81, Tryz.ntmps81
    go_wp2
    refine wp_region_bel (by kernel_rfl) (by kernel_rfl) ?_
    intro hne
    repeat go_big_quiet_step ((go_at_call 107; exact Calls.bel_of (hcut _)))
    refine wpQuiet_nil ?_
    rintro _ ⟨u, rfl⟩
    go_wp2_with fail
    refine (hfl _).mono ?_
    rintro e w1 ⟨rfl, rfl⟩
    exact ⟨rfl, rfl, turn_below _ u.h (Nat.le_refl _)⟩
  | some k =>
    rw [hf] at hix
    have hk := findP_le _ _ _ hf
    rw [List.length_drop, size_list, size_list] at hk
    have hc : Lib.cut (tx.data.toList.drop (s.at_ + p.size)) q.data.toList = ((tx.data.toList.drop (s.at_ + p.size)).take k, (tx.data.toList.drop (s.at_ + p.size)).drop (k + q.data.toList.length), true) := by
      unfold Lib.cut
      rw [hix]; simp
    rw [hc] at hcut
    have hsx : (⟨((tx.data.toList.drop (s.at_ + p.size)).take k).toArray⟩ : ByteArray).size = k := by
      show (((tx.data.toList.drop (s.at_ + p.size)).take k).toArray).size = k
      rw [List.size_toArray, List.length_take, List.length_drop, size_list]; omega
    have e0 : (s.at_ + p.size + k + q.data.toList.length : Nat) = s.at_ + (p.size + k + q.size) := by rw [size_list]; omega
    have hba : ba ((tx.data.toList.drop (s.at_ + p.size)).take k) = ⟨((tx.data.toList.drop (s.at_ + p.size)).take k).toArray⟩ := rfl
    simp only [e0]
    generalize hX : (⟨((tx.data.toList.drop (s.at_ + p.size)).take k).toArray⟩ : ByteArray) = X at *
    have HX : Hid (ba ((tx.data.toList.drop (s.at_ + p.size)).take k) = X) := hX
    generalize ((tx.data.toList.drop (s.at_ + p.size)).drop (k + q.data.toList.length)) = Y at *
    clear hix hf hc hm e0 hba hX
    go_enter Tryz.func81, Tryz.ntmps81
    go_wp2
    refine wp_region_bel (by kernel_rfl) (by kernel_rfl) ?_
    intro hne
    repeat go_big_quiet_step ((go_at_call 107; exact Calls.bel_of (hcut _)))
    refine wpQuiet_nil ?_
    rintro _ ⟨u, rfl⟩
    have HR1 : Hid (Rd u.w b tx s) := HR.out.below u.h hb
    clear h0 h1 h2 h3 f1 f2 f3
    obtain ⟨h0, h1, h2, h3, f1, f2, f3, hb1⟩ := HR1.out.facts
    clear hcut hfl
    go_wp2
    go_ret
    exact ⟨congrArg (fun z => Ending.returned (.string z)) HX.out.symm, HR1.out.setAt _ (by omega), turn_set (turn_below _ u.h (Nat.le_refl _)) _ _⟩

theorem nameP_ok {l : Bs} {s s1 : St} {n : Bs} (h : nameP l s = .inl (n, s1)) : s1 = { s with at_ := s.at_ + n.length } ∧ n = (l.drop s.at_).takeWhile (fun b => inB b.toNat) ∧ nameL n = true ∧ s.at_ + n.length ≤ l.length ∧ 1 ≤ n.length ∧ n.length ≤ 32 := by
  unfold nameP at h
  split at h
  · cases h
  · rename_i b hb
    split at h
    · split at h
      · rename_i hn
        cases h
        have hlt := (List.getElem?_eq_some_iff.1 hb).1
        have := runN_le (l := l) (p := fun b => inB b.toNat) (a := s.at_) (by omega)
        refine ⟨rfl, rfl, hn, this, ?_⟩
        simp only [nameL, Bool.and_eq_true, decide_eq_true_eq] at hn
        exact hn.1.1
      · cases h
    · cases h

theorem take_while_len {α : Type} (p : α → Bool) (l : List α) : l.take (l.takeWhile p).length = l.takeWhile p := by
  induction l with
  | nil => rfl
  | cons a r ih =>
    rw [List.takeWhile_cons]
    split
    · simp [ih]
    · simp

set_option maxRecDepth 100000 in
theorem clone_any (w : World) (s : ByteArray) (h : s.size ≤ 281474976710656) : Calls Tryz.prog 90 #[.string s] w fun e w' => e = .returned (.string s) ∧ Below w.heap.size w w' := by
  have hc := Tryz.stringslite_Clone s w h
  go_enter Tryz.func90, Tryz.ntmps90
  go_wp2_with fail
  refine hc.mono ?_
  rintro e w1 ⟨rfl, hb⟩
  go_wp2
  go_ret
  exact ⟨rfl, hb⟩

set_option maxRecDepth 100000 in
set_option maxHeartbeats 1000000 in
theorem rname_any' (w : World) (b : Nat) (tx : ByteArray) (s : St) (h : Rd w b tx s) (ok : Ok tx s) :
    Calls Tryz.prog 59 #[.pointer (some ⟨b, 0, none⟩)] w (Post w b tx (· = b) (nameP tx.data.toList s) fun x e w' => e = .returned (.string (ba x))) := by
  have HR : Hid (Rd w b tx s) := h
  have hnd := need_any w b tx s h ok
  obtain ⟨h0, h1, h2, h3, f1, f2, f3, hb⟩ := h.facts
  obtain ⟨k1, k2, k3, k4⟩ := ok
  clear h
  by_cases ha : s.at_ < tx.size
  · have hn : needP tx.data.toList s = .inl ((tx[s.at_]'ha), s) := by simp [needP, get_some ha]
    rw [hn] at hnd
    have ge := get_some ha
    cases hc : beginB (tx[s.at_]'ha).toNat
    · have hx : nameP tx.data.toList s = .inr (s.at_, 3) := by simp [nameP, ge, hc]
      rw [hx]
      have hfl := fun W => fail_any W (.pointer (some ⟨b, 0, none⟩)) s.at_ 3
      have hfo := fun W => firstOf_any W (tx[s.at_]'ha)
      rw [hc] at hfo
      generalize tx[s.at_]'ha = d at *
      clear hn hx ge hc
      go_enter Tryz.func59, Tryz.ntmps59
      go_wp2_with fail
      refine hnd.mono ?_
      rintro e w1 ⟨⟨rfl, hbl⟩, hr, -⟩
      have HB : Hid (Below w.heap.size w w1) := hbl
      clear hnd hr hbl
      go_wp2_with fail
      refine (hfo _).mono ?_
      rintro e w2 ⟨rfl, hb2⟩
      have HB2 : Hid (Below w.heap.size w w2) := HB.out.trans (hb2.mono HB.out.size)
      clear hb2 HB hfo
      go_wp2_with fail
      refine (hfl _).mono ?_
      rintro e w3 ⟨rfl, rfl⟩
      exact ⟨rfl, rfl, turn_below _ HB2.out (Nat.le_refl _)⟩
    · have hE : ∃ E, E = s.at_ + runN tx.data.toList (fun b => inB b.toNat) s.at_ := ⟨_, rfl⟩
      obtain ⟨E, hE⟩ := hE
      have hEl : E ≤ tx.size := by
        have := runN_le (l := tx.data.toList) (p := fun b => inB b.toNat) (a := s.at_) (by rw [size_list]; omega)
        rw [size_list] at this
        omega
      have hfo := fun W => firstOf_any W (tx[s.at_]'ha)
      rw [hc] at hfo
      have hX : (tx.data.toList.drop s.at_).takeWhile (fun b => inB b.toNat) = (tx.extract s.at_ E).data.toList := by
        rw [ext_mid, hE, show s.at_ + runN tx.data.toList (fun b => inB b.toNat) s.at_ - s.at_ = runN tx.data.toList (fun b => inB b.toNat) s.at_ by omega]
        unfold runN
        rw [take_while_len]
      have hst : nameP tx.data.toList s = if nameL (tx.extract s.at_ E).data.toList then .inl ((tx.extract s.at_ E).data.toList, { s with at_ := E }) else .inr (s.at_, 6) := by
        simp only [nameP, ge, hc, if_true, hX, ← hE]
      have HS : Hid (nameP tx.data.toList s = if nameL (tx.extract s.at_ E).data.toList then .inl ((tx.extract s.at_ E).data.toList, { s with at_ := E }) else .inr (s.at_, 6)) := hst
      have HE : Hid (E = s.at_ + runN tx.data.toList (fun b => inB b.toNat) s.at_) := hE
      generalize tx[s.at_]'ha = d at *
      clear hn ge hc hE hst hX
      go_enter Tryz.func59, Tryz.ntmps59
      go_wp2_with fail
      refine hnd.mono ?_
      rintro e w1 ⟨⟨rfl, hbl⟩, hr, -⟩
      have HB : Hid (Below w.heap.size w w1) := hbl
      clear hnd hr hbl
      go_wp2_with fail
      refine (hfo _).mono ?_
      rintro e w2 ⟨rfl, hb2⟩
      have HB2 : Hid (Below w.heap.size w w2) := HB.out.trans (hb2.mono HB.out.size)
      clear hb2 HB hfo
      go_wp2
      go_loopw [] (fun wr => ∃ a : Nat, s.at_ ≤ a ∧ a ≤ tx.size ∧ Hid (E = a + runN tx.data.toList (fun b => inB b.toNat) a) ∧ Hid (Rd wr b tx { s with at_ := a }) ∧ Hid (Turn (fun x => x = b) w wr)) (fun wr => tx.size - atOf wr b)
      case atStart => exact ⟨s.at_, by omega, k2, HE, HR.out.below HB2.out hb, turn_below _ HB2.out (Nat.le_refl _)⟩
      case round =>
        obtain ⟨a, ha0, ha1, hgo, hr, ht⟩ := hrel
        clear h0 h1 h2 h3 f1 f2 f3 hb
        obtain ⟨h0, h1, h2, h3, f1, f2, f3, hb⟩ := hr.out.facts
        simp only at h1 h2 h3
        by_cases hlt : a < tx.size
        · have hin := fun W => inName_any W (tx[a]'hlt)
          have ge := get_some hlt
          cases hc : inB (tx[a]'hlt).toNat
          · rw [hc] at hin
            have hEa : E = a := by
              rw [hgo.out, runN_stop (fun b hb => by rw [ge] at hb; cases hb; exact hc)]; omega
            clear ge hc
            obtain rfl := hEa
            have hcl := fun W => clone_any W (tx.extract s.at_ E) (by simp; omega)
            have hnw := fun W => name_any W (tx.extract s.at_ E)
            have hfl := fun W => fail_any W (.pointer (some ⟨b, 0, none⟩)) s.at_ 6
            have hbx : Hid (ba (tx.extract s.at_ E).data.toList = tx.extract s.at_ E) := ba_of _
            clear hgo HE HR HB2
            cases hnl : nameL (tx.extract s.at_ E).data.toList
            · rw [hnl] at hnw
              have HST : Hid (nameP tx.data.toList s = .inr (s.at_, 6)) := by rw [HS.out, hnl]; exact rfl
              clear hnl
              go_wp2
              refine wp_region_bel (by kernel_rfl) (by kernel_rfl) ?_
              intro hne
              repeat go_big_quiet_step ((go_at_call 89; exact Calls.bel_of (hin _)))
              refine wpQuiet_nil ?_
              rintro _ ⟨u, rfl⟩
              have HU : Hid (Turn (fun x => x = b) w u.w) := ht.out.then u.h ht.out.size
              have HRu : Hid (Rd u.w b tx { s with at_ := E }) := hr.out.below u.h hb
              clear h0 h1 h2 h3 f1 f2 f3 hb
              obtain ⟨h0, h1, h2, h3, f1, f2, f3, hb⟩ := HRu.out.facts
              simp only at h1 h2 h3
              go_wp2
              refine wp_region_bel (by kernel_rfl) (by kernel_rfl) ?_
              intro hne2
              repeat go_big_quiet_step ((go_at_call 90; exact Calls.bel_of (hcl _)))
              refine wpQuiet_nil ?_
              rintro _ ⟨u2, rfl⟩
              have HU2 : Hid (Turn (fun x => x = b) w u2.w) := HU.out.then u2.h HU.out.size
              clear HU
              go_wp2_with fail
              refine (hnw _).mono ?_
              rintro e w5 ⟨rfl, hb5⟩
              have HU5 : Hid (Turn (fun x => x = b) w w5) := HU2.out.then hb5 HU2.out.size
              clear hb5
              go_wp2_with fail
              refine (hfl _).mono ?_
              rintro e w6 ⟨rfl, rfl⟩
              exact ⟨rfl, Post.no HST.out HU5.out⟩
            · rw [hnl] at hnw
              have HST : Hid (nameP tx.data.toList s = .inl ((tx.extract s.at_ E).data.toList, { s with at_ := E })) := by rw [HS.out, hnl]; exact rfl
              clear hnl
              go_wp2
              refine wp_region_bel (by kernel_rfl) (by kernel_rfl) ?_
              intro hne
              repeat go_big_quiet_step ((go_at_call 89; exact Calls.bel_of (hin _)))
              refine wpQuiet_nil ?_
              rintro _ ⟨u, rfl⟩
              have HU : Hid (Turn (fun x => x = b) w u.w) := ht.out.then u.h ht.out.size
              have HRu : Hid (Rd u.w b tx { s with at_ := E }) := hr.out.below u.h hb
              clear h0 h1 h2 h3 f1 f2 f3 hb
              obtain ⟨h0, h1, h2, h3, f1, f2, f3, hb⟩ := HRu.out.facts
              simp only at h1 h2 h3
              go_wp2
              refine wp_region_bel (by kernel_rfl) (by kernel_rfl) ?_
              intro hne2
              repeat go_big_quiet_step ((go_at_call 90; exact Calls.bel_of (hcl _)))
              refine wpQuiet_nil ?_
              rintro _ ⟨u2, rfl⟩
              have HU2 : Hid (Turn (fun x => x = b) w u2.w) := HU.out.then u2.h HU.out.size
              have HR2 : Hid (Rd u2.w b tx { s with at_ := E }) := HRu.out.below u2.h hb
              have hb2 := HR2.out.facts.2.2.2.2.2.2.2
              clear HU HRu
              go_wp2_with fail
              refine (hnw _).mono ?_
              rintro e w5 ⟨rfl, hb5⟩
              have HU5 : Hid (Turn (fun x => x = b) w w5) := HU2.out.then hb5 HU2.out.size
              have HR5 : Hid (Rd w5 b tx { s with at_ := E }) := HR2.out.below hb5 hb2
              clear hb5
              go_wp2
              go_ret
              exact Post.yes HST.out (congrArg (fun z => Ending.returned (.string z)) hbx.out.symm) HR5.out HU5.out
          · rw [hc] at hin
            have HEa : Hid (E = (a + 1) + runN tx.data.toList (fun b => inB b.toNat) (a + 1)) := by rw [hgo.out, runN_step ge hc]; exact rfl
            clear hgo ge hc HE HR HB2
            go_wp2
            refine wp_region_bel (by kernel_rfl) (by kernel_rfl) ?_
            intro hne
            repeat go_big_quiet_step ((go_at_call 89; exact Calls.bel_of (hin _)))
            refine wpQuiet_nil ?_
            rintro _ ⟨u, rfl⟩
            go_wp2
            have hr2 : Rd (u.w.setCell ⟨b, 1, none⟩ (.int .i64 ((a : Int) + 1))) b tx { s with at_ := a + 1 } := (hr.out.below u.h hb).setAt (a + 1) (by simp)
            refine ⟨⟨a + 1, by omega, by omega, HEa, hr2, turn_set (ht.out.then u.h ht.out.size) _ _⟩, ?_⟩
            rw [hr2.atOf, hr.out.atOf]
            simp only
            omega
        · have hEa : E = a := by
            rw [hgo.out, runN_stop (fun b hb => by rw [get_no (by omega)] at hb; cases hb)]; omega
          obtain rfl := hEa
          have hcl := fun W => clone_any W (tx.extract s.at_ E) (by simp; omega)
          have hnw := fun W => name_any W (tx.extract s.at_ E)
          have hfl := fun W => fail_any W (.pointer (some ⟨b, 0, none⟩)) s.at_ 6
          have hbx : Hid (ba (tx.extract s.at_ E).data.toList = tx.extract s.at_ E) := ba_of _
          clear hgo HE HR HB2
          cases hnl : nameL (tx.extract s.at_ E).data.toList
          · rw [hnl] at hnw
            have HST : Hid (nameP tx.data.toList s = .inr (s.at_, 6)) := by rw [HS.out, hnl]; exact rfl
            clear hnl
            go_wp2
            refine wp_region_bel (by kernel_rfl) (by kernel_rfl) ?_
            intro hne
            repeat go_big_quiet_step (fail)
            refine wpQuiet_nil ?_
            rintro _ ⟨u, rfl⟩
            have HU : Hid (Turn (fun x => x = b) w u.w) := ht.out.then u.h ht.out.size
            have HRu : Hid (Rd u.w b tx { s with at_ := E }) := hr.out.below u.h hb
            clear h0 h1 h2 h3 f1 f2 f3 hb
            obtain ⟨h0, h1, h2, h3, f1, f2, f3, hb⟩ := HRu.out.facts
            simp only at h1 h2 h3
            go_wp2
            refine wp_region_bel (by kernel_rfl) (by kernel_rfl) ?_
            intro hne2
            repeat go_big_quiet_step ((go_at_call 90; exact Calls.bel_of (hcl _)))
            refine wpQuiet_nil ?_
            rintro _ ⟨u2, rfl⟩
            have HU2 : Hid (Turn (fun x => x = b) w u2.w) := HU.out.then u2.h HU.out.size
            clear HU
            go_wp2_with fail
            refine (hnw _).mono ?_
            rintro e w5 ⟨rfl, hb5⟩
            have HU5 : Hid (Turn (fun x => x = b) w w5) := HU2.out.then hb5 HU2.out.size
            clear hb5
            go_wp2_with fail
            refine (hfl _).mono ?_
            rintro e w6 ⟨rfl, rfl⟩
            exact ⟨rfl, Post.no HST.out HU5.out⟩
          · rw [hnl] at hnw
            have HST : Hid (nameP tx.data.toList s = .inl ((tx.extract s.at_ E).data.toList, { s with at_ := E })) := by rw [HS.out, hnl]; exact rfl
            clear hnl
            go_wp2
            refine wp_region_bel (by kernel_rfl) (by kernel_rfl) ?_
            intro hne
            repeat go_big_quiet_step (fail)
            refine wpQuiet_nil ?_
            rintro _ ⟨u, rfl⟩
            have HU : Hid (Turn (fun x => x = b) w u.w) := ht.out.then u.h ht.out.size
            have HRu : Hid (Rd u.w b tx { s with at_ := E }) := hr.out.below u.h hb
            clear h0 h1 h2 h3 f1 f2 f3 hb
            obtain ⟨h0, h1, h2, h3, f1, f2, f3, hb⟩ := HRu.out.facts
            simp only at h1 h2 h3
            go_wp2
            refine wp_region_bel (by kernel_rfl) (by kernel_rfl) ?_
            intro hne2
            repeat go_big_quiet_step ((go_at_call 90; exact Calls.bel_of (hcl _)))
            refine wpQuiet_nil ?_
            rintro _ ⟨u2, rfl⟩
            have HU2 : Hid (Turn (fun x => x = b) w u2.w) := HU.out.then u2.h HU.out.size
            have HR2 : Hid (Rd u2.w b tx { s with at_ := E }) := HRu.out.below u2.h hb
            have hb2 := HR2.out.facts.2.2.2.2.2.2.2
            clear HU HRu
            go_wp2_with fail
            refine (hnw _).mono ?_
            rintro e w5 ⟨rfl, hb5⟩
            have HU5 : Hid (Turn (fun x => x = b) w w5) := HU2.out.then hb5 HU2.out.size
            have HR5 : Hid (Rd w5 b tx { s with at_ := E }) := HR2.out.below hb5 hb2
            clear hb5
            go_wp2
            go_ret
            exact Post.yes HST.out (congrArg (fun z => Ending.returned (.string z)) hbx.out.symm) HR5.out HU5.out
  · have hn : needP tx.data.toList s = .inr (s.at_, 4) := by simp [needP, get_no (Nat.le_of_not_lt ha)]
    have hn2 : nameP tx.data.toList s = .inr (s.at_, 4) := by simp [nameP, get_no (Nat.le_of_not_lt ha)]
    rw [hn] at hnd
    rw [hn2]
    clear hn hn2 ha h0 h1 h2 h3 f1 f2 f3
    go_enter Tryz.func59, Tryz.ntmps59
    obtain ⟨h0, h1, h2, h3, f1, f2, f3, hb⟩ := HR.out.facts
    go_wp2_with fail
    refine hnd.mono ?_
    rintro e w1 ⟨rfl, ht⟩
    exact ⟨rfl, rfl, ht⟩

end Go.Proofs.YtmifejkddgcbmaaGreat
