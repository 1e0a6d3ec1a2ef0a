/- The document's reader: what it looks for; remarks. -/
import Derived.Test.YtmifejkddgcbmabGreatB06
namespace Go.Proofs.YtmifejkddgcbmabGreat
open Go.RowKit
set_option linter.unusedVariables false
set_option linter.unusedSimpArgs false
attribute [local go_sem] Bel.cell Bel.fz

def findA (l p : Bs) (i : Nat) : Int := match findP p (l.drop i) with
  | some j => ((i + j : Nat) : Int)
  | none => -1

theorem findP_short (p : Bs) : ∀ l : Bs, l.length < p.length → findP p l = none := by
  intro l h
  cases hf : findP p l with
  | none => rfl
  | some k => have := findP_le p l k hf; omega
theorem findA_end {l p : Bs} {i : Nat} (h : l.length < i + p.length) (hp : 0 < p.length) : findA l p i = -1 := by
  unfold findA
  rw [findP_short p _ (by rw [List.length_drop]; omega)]
theorem findA_hit {l p : Bs} {i : Nat} (h : seesP l p i = true) : findA l p i = (i : Int) := by
  unfold findA seesP at *
  have : findP p (l.drop i) = some 0 := by
    cases hd : l.drop i with
    | nil => rw [hd] at h; unfold findP; rw [if_pos h]
    | cons b r => rw [hd] at h; unfold findP; rw [if_pos h]
  rw [this]; simp
theorem findA_miss {l p : Bs} {i : Nat} (hi : i < l.length) (h : seesP l p i = false) : findA l p i = findA l p (i + 1) := by
  unfold findA seesP at *
  rw [List.drop_eq_getElem_cons hi] at h ⊢
  have : findP p (l[i] :: l.drop (i + 1)) = (findP p (l.drop (i + 1))).map (· + 1) := by
    rw [findP, if_neg (by rw [h]; decide)]
  rw [this]
  cases findP p (l.drop (i + 1)) with
  | none => rfl
  | some j => simp; omega

set_option maxRecDepth 100000 in
set_option maxHeartbeats 1000000 in
theorem qfind_any (w : World) (b B : Nat) (tx : ByteArray) (q : Qs) (vo vt : Value) (op : List ByteArray) (o : Bs) (h : Qd w b B tx q vo vt op o) (hl : tx.size ≤ 262144) (p : ByteArray) (hp : 0 < p.size) (hp2 : p.size ≤ 100) (a : Nat) (ha : a ≤ tx.size) :
    Calls Tryz.prog 102 #[.pointer (some ⟨b, 0, none⟩), .string p, .int .i64 (a : Int)] w fun e w' => e = .returned (.int .i64 (findA tx.data.toList p.data.toList a)) ∧ w' = w := by
  obtain ⟨h0, h1, h2, h3, h4, h5, h6, h7, fz, hb⟩ := h.facts
  have hZ : ∃ Z, Z = findA tx.data.toList p.data.toList a := ⟨_, rfl⟩
  obtain ⟨Z, hZ⟩ := hZ
  rw [← hZ]
  have HZ : Hid (Z = findA tx.data.toList p.data.toList a) := hZ
  clear h hZ
  go_enter Tryz.func102, Tryz.ntmps102
  go_wp2
  go_loopw [7] (fun v7 wr => ∃ i : Nat, i ≤ tx.size + 1 ∧ v7 = .int .i64 (i : Int) ∧ wr = w ∧ Hid (Z = findA tx.data.toList p.data.toList i)) (fun v7 _ => tx.size + 1 - (intOf v7).toNat)
  case atStart => exact ⟨a, by omega, rfl, rfl, HZ⟩
  case round =>
    obtain ⟨i, hi, rfl, hw, hgo⟩ := hrel
    obtain rfl := hw.symm
    clear HZ
    by_cases hle : i + p.size ≤ tx.size
    · have t1 : ((i : Int) + (p.size : Int)) ≤ (tx.size : Int) := by omega
      have hx := ext_sees hle
      cases hS : seesP tx.data.toList p.data.toList i
      · rw [hS] at hx
        have HG : Hid (Z = findA tx.data.toList p.data.toList (i + 1)) := hgo.out.trans (findA_miss (by rw [size_list]; omega) hS)
        clear hgo hS
        go_wp2
        refine ⟨⟨i + 1, by omega, by simp, trivial, HG⟩, ?_⟩
        simp [intOf]; omega
      · rw [hS] at hx
        have HG : Hid (Z = (i : Int)) := hgo.out.trans (findA_hit hS)
        clear hgo hS
        go_wp2
        go_ret
        exact ⟨congrArg _ (v_int HG.out.symm), rfl⟩
    · have t1 : ¬ ((i : Int) + (p.size : Int)) ≤ (tx.size : Int) := by omega
      have HG : Hid (Z = -1) := hgo.out.trans (findA_end (by rw [size_list, size_list]; omega) (by rw [size_list]; exact hp))
      clear hgo
      go_wp2
      go_ret
      exact ⟨congrArg _ (v_int HG.out.symm), rfl⟩

set_option maxRecDepth 100000 in
set_option maxHeartbeats 1000000 in
theorem qremark_any (w : World) (b B : Nat) (tx : ByteArray) (s : St) (op : List ByteArray) (o : Bs) (h : QS w b B tx s op o) (ok : Ok tx s) (hol : o.length ≤ 16384) (p r : ByteArray) (hp : s.at_ + p.size ≤ tx.size) (hp2 : p.size ≤ 100) (hr : 0 < r.size) (hr2 : r.size ≤ 100) :
    Calls Tryz.prog 78 #[.pointer (some ⟨b, 0, none⟩), .string p, .string r] w (QPost w b B tx tx.size op (skipP tx.data.toList p.size r.data.toList s) (fun _ => o) fun _ e w' => e = .returned (.tuple #[])) := by
  obtain ⟨hop, vo, vt, h⟩ := h
  obtain ⟨k1, k2, k3, k4⟩ := ok
  have hfi := qfind_any w b B tx _ vo vt op o h k1 r hr hr2 (s.at_ + p.size) hp
  have hbad := qbad_any w b B tx _ vo vt op o h s.at_ 4
  have HQ : Hid (Qd w b B tx (okQ s (hasB o)) vo vt op o) := h
  have HOP : Hid (op.length = s.op) := hop
  obtain ⟨h0, h1, h2, h3, h4, h5, h6, h7, fz, hb⟩ := h.facts
  have e1 : (okQ s (hasB o)).at_ = s.at_ := rfl
  rw [e1] at h1
  rw [Int.natCast_add] at hfi
  unfold findA at hfi
  clear h hop
  cases hf : findP r.data.toList (tx.data.toList.drop (s.at_ + p.size)) with
  | none =>
    simp only [hf] at hfi
    have HG : Hid (skipP tx.data.toList p.size r.data.toList s = .inr (s.at_, 4)) := by show skipP _ _ _ _ = _; unfold skipP; rw [hf]
    have hbq : badQ (okQ s (hasB o)) s.at_ 4 = { okQ s (hasB o) with place := s.at_, err := 4 } := by simp [badQ, okQ]
    rw [hbq] at hbad
    clear hf hbq
    go_enter Tryz.func78, Tryz.ntmps78
    go_wp2_with fail
    refine hfi.mono ?_
    rintro e w1 ⟨rfl, hw1⟩
    obtain rfl := hw1.symm
    go_wp2_with fail
    refine hbad.mono ?_
    rintro e w2 ⟨rfl, hq2, ht2⟩
    have HQ2 : Hid _ := hq2
    have HT2 : Hid (Turn (fun k => k = b ∨ B ≤ k) w w2) := ht2.mono (fun k _ e => .inl e)
    clear hbad hq2 ht2
    go_wp2
    first | go_end0 | refine bodyPost_ret (results_none rfl _ _ _) rfl ?_
    exact QPost.no HG.out ⟨by decide, _, _, _, _, _, HQ2.out, rfl, rfl, by simp only [okQ]; omega, by omega⟩ HT2.out
  | some k =>
    simp only [hf] at hfi
    have hk := findP_le _ _ _ hf
    rw [List.length_drop, size_list, size_list] at hk
    have HG : Hid (skipP tx.data.toList p.size r.data.toList s = .inl (((tx.data.toList.drop (s.at_ + p.size)).take k), { s with at_ := s.at_ + p.size + k + r.size })) := by
      show skipP _ _ _ _ = _; unfold skipP; rw [hf, size_list]
    clear hf hbad
    go_enter Tryz.func78, Tryz.ntmps78
    go_wp2_with fail
    refine hfi.mono ?_
    rintro e w1 ⟨rfl, hw1⟩
    obtain rfl := hw1.symm
    go_wp2
    go_end0
    exact QPost.yes HG.out rfl ⟨HOP.out, _, _, HQ.out.setAt _ (by omega)⟩ ((Turn.refl _ w).setCell (p := ⟨b, 1, none⟩) (.inl rfl) _)

end Go.Proofs.YtmifejkddgcbmabGreat

/- The document's reader: blanks, names, what must come. -/
namespace Go.Proofs.YtmifejkddgcbmabGreat
open Go.RowKit
set_option linter.unusedVariables false
set_option linter.unusedSimpArgs false
attribute [local go_sem] Bel.cell Bel.fz

theorem Qd.atOf {w : World} {b B : Nat} {tx : ByteArray} {q : Qs} {vo vt : Value} {op : List ByteArray} {o : Bs} (h : Qd w b B tx q vo vt op o) : atOf w b = q.at_ := by
  unfold YtmifejkddgcbmabGreat.atOf
  rw [h.facts.2.1]; simp

theorem Qd.drew {w : World} {b B : Nat} {tx : ByteArray} {q : Qs} {vo vt : Value} {op : List ByteArray} {o : Bs} (h : Qd w b B tx q vo vt op o) : Qd w.drew b B tx q vo vt op o := ⟨h.cel, h.txt, h.opn, h.opb, h.ltb, h.leB, h.nl⟩

set_option maxRecDepth 100000 in
set_option maxHeartbeats 1000000 in
theorem qblanks_any (w : World) (b B : Nat) (tx : ByteArray) (s : St) (op : List ByteArray) (o : Bs) (h : QS w b B tx s op o) (ok : Ok tx s) :
    Calls Tryz.prog 82 #[.pointer (some ⟨b, 0, none⟩)] w fun e w' => e = .returned (.bool (decide (s.at_ < (blanksP tx.data.toList s).at_))) ∧ QS w' b B tx (blanksP tx.data.toList s) op o ∧ Turn (· = b) w w' := by
  obtain ⟨hop, vo, vt, h⟩ := h
  obtain ⟨k1, k2, k3, k4⟩ := ok
  have HOP : Hid (op.length = s.op) := hop
  have HR : Hid (Qd w b B tx (okQ s (hasB o)) vo vt op o) := h
  obtain ⟨h0, h1, h2, h3, h4, h5, h6, h7, fz, hb⟩ := h.facts
  have e0 : (okQ s (hasB o)).at_ = s.at_ := rfl
  rw [e0] at h1
  obtain ⟨E, hE⟩ : ∃ E, E = s.at_ + runN tx.data.toList (fun b => blankB b.toNat) s.at_ := ⟨_, rfl⟩
  have e1 : blanksP tx.data.toList s = { s with at_ := E } := by simp [blanksP, hE]
  rw [e1]
  have HE : Hid (E = s.at_ + runN tx.data.toList (fun b => blankB b.toNat) s.at_) := hE
  clear h hE e1 hop
  go_enter Tryz.func82, Tryz.ntmps82
  go_wp2
  go_loopw [] (fun wr => ∃ a : Nat, s.at_ ≤ a ∧ a ≤ tx.size ∧ Hid (E = a + runN tx.data.toList (fun b => blankB b.toNat) a) ∧ Hid (Qd wr b B tx (okQ { s with at_ := a } (hasB o)) vo vt op o) ∧ Hid (Turn (fun x => x = b) w wr)) (fun wr => tx.size - atOf wr b)
  case atStart => exact ⟨s.at_, by omega, k2, HE, HR, Turn.refl _ _⟩
  case round =>
    obtain ⟨a, ha0, ha1, hgo, hr, ht⟩ := hrel
    clear h0 h1 h2 h3 h4 h5 h6 h7 fz hb
    obtain ⟨h0, h1, h2, h3, h4, h5, h6, h7, fz, hb⟩ := hr.out.facts
    have ea : (okQ { s with at_ := a } (hasB o)).at_ = a := rfl
    rw [ea] at h1
    by_cases hlt : a < tx.size
    · have hbl := fun W => white_any W (tx[a]'hlt).toNat (UInt8.toNat_lt _)
      have ge := get_some hlt
      cases hc : blankB (tx[a]'hlt).toNat
      · rw [hc] at hbl
        have HEa : Hid (E = a) := by
          show E = a
          rw [hgo.out, runN_stop (fun b hb => by rw [ge] at hb; cases hb; exact hc)]; omega
        clear hgo ge hc HE HR
        go_wp2
        refine wp_region_bel (by kernel_rfl) (by kernel_rfl) ?_
        intro hne
        repeat go_big_quiet_step ((go_at_call 108; exact Calls.bel_of_same (hbl _)))
        refine wpQuiet_nil ?_
        rintro _ ⟨u, rfl⟩
        go_wp2
        go_ret
        have e2 := HEa.out
        refine ⟨congrArg _ (v_bool (by rw [e2])), ⟨HOP.out, vo, vt, ?_⟩, ht.out.then u.h ht.out.size⟩
        rw [e2]
        exact hr.out.below u.h
      · rw [hc] at hbl
        have HEa : Hid (E = (a + 1) + runN tx.data.toList (fun b => blankB b.toNat) (a + 1)) := by show E = _; rw [hgo.out, runN_step ge hc]
        clear hgo ge hc HE HR
        go_wp2
        refine wp_region_bel (by kernel_rfl) (by kernel_rfl) ?_
        intro hne
        repeat go_big_quiet_step ((go_at_call 108; exact Calls.bel_of_same (hbl _)))
        refine wpQuiet_nil ?_
        rintro _ ⟨u, rfl⟩
        go_wp2
        have hr2 : Qd (u.w.setCell ⟨b, 1, none⟩ (.int .i64 ((a : Int) + 1))) b B tx (okQ { s with at_ := a + 1 } (hasB o)) vo vt op o := (hr.out.below u.h).setAt (a + 1) (by simp)
        refine ⟨⟨a + 1, by omega, by omega, HEa, hr2, turn_set (ht.out.then u.h ht.out.size) _ _⟩, ?_⟩
        rw [hr2.atOf, hr.out.atOf]
        simp only [okQ]
        omega
    · have HEa : Hid (E = a) := by
        show E = a
        rw [hgo.out, runN_stop (fun b hb => by rw [get_no (by omega)] at hb; cases hb)]; omega
      have e3 : a = tx.size := by omega
      clear hgo HE HR
      go_wp2
      refine wp_region_bel (by kernel_rfl) (by kernel_rfl) ?_
      intro hne
      repeat go_big_quiet_step (fail)
      refine wpQuiet_nil ?_
      rintro _ ⟨u, rfl⟩
      go_wp2
      go_ret
      have e2 := HEa.out
      refine ⟨congrArg _ (v_bool (by rw [e2]; simp <;> omega)), ⟨HOP.out, vo, vt, ?_⟩, ht.out.then u.h ht.out.size⟩
      rw [e2]
      exact hr.out.below u.h

set_option maxRecDepth 100000 in
set_option maxHeartbeats 1000000 in
theorem qmust_any (w : World) (b B : Nat) (tx : ByteArray) (s : St) (op : List ByteArray) (o : Bs) (h : QS w b B tx s op o) (ok : Ok tx s) (hol : o.length ≤ 16384) (c : UInt8) :
    Calls Tryz.prog 83 #[.pointer (some ⟨b, 0, none⟩), .int .u8 (c.toNat : Int)] w (QPost w b B tx tx.size op (expectP tx.data.toList c s) (fun _ => o) fun _ e w' => e = .returned (.tuple #[])) := by
  obtain ⟨hop, vo, vt, h⟩ := h
  obtain ⟨k1, k2, k3, k4⟩ := ok
  have HOP : Hid (op.length = s.op) := hop
  have HQ : Hid (Qd w b B tx (okQ s (hasB o)) vo vt op o) := h
  have hbad := fun (W : World) (hq : Qd W b B tx (okQ s (hasB o)) vo vt op o) (p : Nat) (e : Int) => qbad_any W b B tx _ vo vt op o hq p e
  have hbq : ∀ p e, badQ (okQ s (hasB o)) p e = { okQ s (hasB o) with place := p, err := e } := fun p e => by simp [badQ, okQ]
  obtain ⟨h0, h1, h2, h3, h4, h5, h6, h7, fz, hb⟩ := h.facts
  have e0 : (okQ s (hasB o)).at_ = s.at_ := rfl
  rw [e0] at h1
  clear h hop
  by_cases ha : s.at_ < tx.size
  · have t1 : ¬ (tx.size : Int) ≤ (s.at_ : Int) := by omega
    have t2 : (s.at_ : Int) < (tx.size : Int) := by omega
    by_cases hc : tx[s.at_]'ha = c
    · have HG : Hid (expectP tx.data.toList c s = .inl ((), { s with at_ := s.at_ + 1 })) := by show expectP _ _ _ = _; simp [expectP, get_some ha, hc]
      have t3 : (((tx[s.at_]'ha).toNat : Int) != (c.toNat : Int)) = false := by rw [u8_ne]; simp [hc]
      clear hc hbad hbq
      go_enter Tryz.func83, Tryz.ntmps83
      go_wp2_with (go_region)
      go_end0
      have q1 : Qd (w.setCell ⟨b, 1, none⟩ (.int .i64 ((s.at_ : Int) + 1))) b B tx (okQ { s with at_ := s.at_ + 1 } (hasB o)) vo vt op o := HQ.out.setAt _ (by simp)
      have q2 : Turn (fun k => k = b ∨ B ≤ k) w (w.setCell ⟨b, 1, none⟩ (.int .i64 ((s.at_ : Int) + 1))) := (Turn.refl _ w).setCell (p := ⟨b, 1, none⟩) (.inl rfl) _
      exact QPost.yes HG.out rfl ⟨HOP.out, vo, vt, q1.drew.drew.drew⟩ q2.drew.drew.drew
    · have HG : Hid (expectP tx.data.toList c s = .inr (s.at_, 3)) := by show expectP _ _ _ = _; simp [expectP, get_some ha, hc]
      have t3 : (((tx[s.at_]'ha).toNat : Int) != (c.toNat : Int)) = true := by rw [u8_ne]; simp [hc]
      clear hc
      go_enter Tryz.func83, Tryz.ntmps83
      go_wp2_with (go_region)
      refine (hbad _ HQ.out.drew.drew _ _).mono ?_
      rintro e w2 ⟨rfl, hq2, ht2⟩
      rw [hbq] at hq2
      have HQ2 : Hid (Qd (w2.setCell ⟨b, 1, none⟩ (.int .i64 ((s.at_ : Int) + 1))) b B tx { okQ s (hasB o) with place := s.at_, err := 3, at_ := s.at_ + 1 } vo vt op o) := hq2.set 1 _ (by simp [qC, okQ])
      have HT2 : Hid (Turn (fun k => k = b ∨ B ≤ k) w (w2.setCell ⟨b, 1, none⟩ (.int .i64 ((s.at_ : Int) + 1)))) := ((Turn.refl _ w).drew.drew.trans (ht2.mono (fun k _ e => .inl e))).setCell (p := ⟨b, 1, none⟩) (.inl rfl) _
      clear h0 h1 h2 h3 h4 h5 h6 h7 fz hb hbad hbq
      obtain ⟨h0, h1, h2, h3, h4, h5, h6, h7, fz, hb⟩ := hq2.facts
      simp only [okQ] at h1
      clear hq2 ht2
      go_wp2_with (go_region)
      go_end0
      exact QPost.no HG.out ⟨by decide, _, _, _, _, _, HQ2.out.drew, rfl, rfl, by simp only; omega, by omega⟩ HT2.out.drew
  · have HG : Hid (expectP tx.data.toList c s = .inr (s.at_, 4)) := by show expectP _ _ _ = _; simp [expectP, get_no (Nat.le_of_not_lt ha)]
    have e9 : s.at_ = tx.size := by omega
    have HE9 : Hid (s.at_ = tx.size) := e9
    have t1 : (tx.size : Int) ≤ (s.at_ : Int) := by omega
    have t2 : ¬ (s.at_ : Int) < (tx.size : Int) := by omega
    clear e9
    go_enter Tryz.func83, Tryz.ntmps83
    go_wp2_with (go_region)
    refine (hbad _ HQ.out.drew _ _).mono ?_
    rintro e w2 ⟨rfl, hq2, ht2⟩
    rw [hbq] at hq2
    have HQ2 : Hid (Qd w2 b B tx { okQ s (hasB o) with place := tx.size, err := 4 } vo vt op o) := hq2
    have HT2 : Hid (Turn (fun k => k = b ∨ B ≤ k) w w2) := (Turn.refl _ w).drew.trans (ht2.mono (fun k _ e => .inl e))
    clear h0 h1 h2 h3 h4 h5 h6 h7 fz hb hbad hbq
    obtain ⟨h0, h1, h2, h3, h4, h5, h6, h7, fz, hb⟩ := hq2.facts
    simp only [okQ] at h1
    clear hq2 ht2
    go_wp2_with (go_region)
    go_end0
    exact QPost.no HG.out ⟨by decide, _, _, _, _, _, HQ2.out.drew, rfl, HE9.out.symm, by simp only [okQ]; omega, by omega⟩ HT2.out.drew

end Go.Proofs.YtmifejkddgcbmabGreat

/- The document's reader: names; whether a beginning stands there. -/
namespace Go.Proofs.YtmifejkddgcbmabGreat
open Go.RowKit
set_option linter.unusedVariables false
set_option linter.unusedSimpArgs false
attribute [local go_sem] Bel.cell Bel.fz

set_option maxRecDepth 100000 in
set_option maxHeartbeats 2000000 in
theorem qname_any (w : World) (b B : Nat) (tx : ByteArray) (s : St) (op : List ByteArray) (o : Bs) (h : QS w b B tx s op o) (ok : Ok tx s) (hol : o.length ≤ 16384) (ha : s.at_ < tx.size) (hbeg : beginB (tx[s.at_]'ha).toNat = true) :
    Calls Tryz.prog 81 #[.pointer (some ⟨b, 0, none⟩)] w (QPost w b B tx tx.size op (nameP tx.data.toList s) (fun _ => o) fun x e w' => e = .returned (.string (ba x))) := by
  obtain ⟨hop, vo, vt, h⟩ := h
  obtain ⟨k1, k2, k3, k4⟩ := ok
  have HOP : Hid (op.length = s.op) := hop
  have HR : Hid (Qd w b B tx (okQ s (hasB o)) vo vt op o) := h
  obtain ⟨h0, h1, h2, h3, h4, h5, h6, h7, fz, hb⟩ := h.facts
  have e0 : (okQ s (hasB o)).at_ = s.at_ := rfl
  rw [e0] at h1
  have ge := get_some ha
  obtain ⟨E, hE⟩ : ∃ E, E = s.at_ + runN tx.data.toList (fun b => inB b.toNat) s.at_ := ⟨_, rfl⟩
  have hEl : E ≤ tx.size := by
    have := runN_le (l := tx.data.toList) (p := fun b => inB b.toNat) (a := s.at_) (by rw [size_list]; omega)
    rw [size_list] at this
    omega
  have hX : (tx.data.toList.drop s.at_).takeWhile (fun b => inB b.toNat) = (tx.extract s.at_ E).data.toList := by
    rw [ext_mid, hE, show s.at_ + runN tx.data.toList (fun b => inB b.toNat) s.at_ - s.at_ = runN tx.data.toList (fun b => inB b.toNat) s.at_ by omega]
    unfold runN
    rw [take_while_len]
  have HS : Hid (nameP tx.data.toList s = if nameL (tx.extract s.at_ E).data.toList then .inl ((tx.extract s.at_ E).data.toList, { s with at_ := E }) else .inr (s.at_, 6)) := by
    show nameP _ _ = _
    simp only [nameP, ge, hbeg, if_true, hX, ← hE]
  have HE : Hid (E = s.at_ + runN tx.data.toList (fun b => inB b.toNat) s.at_) := hE
  clear h hE hop ge hX hbeg
  go_enter Tryz.func81, Tryz.ntmps81
  go_wp2
  go_loopw [] (fun wr => ∃ a : Nat, s.at_ ≤ a ∧ a ≤ tx.size ∧ Hid (E = a + runN tx.data.toList (fun b => inB b.toNat) a) ∧ Hid (Qd wr b B tx (okQ { s with at_ := a } (hasB o)) vo vt op o) ∧ Hid (Turn (fun x => x = b) w wr)) (fun wr => tx.size - atOf wr b)
  case atStart => exact ⟨s.at_, by omega, k2, HE, HR, Turn.refl _ _⟩
  case round =>
    obtain ⟨a, ha0, ha1, hgo, hr, ht⟩ := hrel
    clear h0 h1 h2 h3 h4 h5 h6 h7 fz hb
    obtain ⟨h0, h1, h2, h3, h4, h5, h6, h7, fz, hb⟩ := hr.out.facts
    have ea : (okQ { s with at_ := a } (hasB o)).at_ = a := rfl
    rw [ea] at h1
    by_cases hlt : a < tx.size
    · have hin := fun W => in_any W (tx[a]'hlt).toNat (UInt8.toNat_lt _)
      have ge := get_some hlt
      cases hc : inB (tx[a]'hlt).toNat
      · rw [hc] at hin
        have hEa : E = a := by
          rw [hgo.out, runN_stop (fun b hb => by rw [ge] at hb; cases hb; exact hc)]; omega
        clear ge hc
        obtain rfl := hEa
        have hnw := fun W => rname_any W (tx.extract s.at_ E)
        have hbx : Hid (ba (tx.extract s.at_ E).data.toList = tx.extract s.at_ E) := ba_of _
        have hbad := fun (W : World) (hq : Qd W b B tx (okQ { s with at_ := E } (hasB o)) vo vt op o) => qbad_any W b B tx _ vo vt op o hq s.at_ 6
        have hbq : badQ (okQ { s with at_ := E } (hasB o)) s.at_ 6 = { okQ { s with at_ := E } (hasB o) with place := s.at_, err := 6 } := by simp [badQ, okQ]
        rw [hbq] at hbad
        clear hgo HE HR hbq
        go_wp2
        refine wp_region_bel (by kernel_rfl) (by kernel_rfl) ?_
        intro hne
        repeat go_big_quiet_step ((go_at_call 106; exact Calls.bel_of_same (hin _)))
        refine wpQuiet_nil ?_
        rintro _ ⟨u, rfl⟩
        have HU : Hid (Turn (fun x => x = b) w u.w) := ht.out.then u.h ht.out.size
        have HRu : Hid (Qd u.w b B tx (okQ { s with at_ := E } (hasB o)) vo vt op o) := hr.out.below u.h
        clear h0 h1 h2 h3 h4 h5 h6 h7 fz hb
        obtain ⟨h0, h1, h2, h3, h4, h5, h6, h7, fz, hb⟩ := HRu.out.facts
        rw [ea] at h1
        go_wp2_with (go_region)
        cases hnl : nameL (tx.extract s.at_ E).data.toList
        · rw [hnl] at hnw
          have HST : Hid (nameP tx.data.toList s = .inr (s.at_, 6)) := by rw [HS.out, hnl]; exact rfl
          clear hnl
          refine (hnw _).mono ?_
          rintro e w5 ⟨rfl, hb5⟩
          have HU5 : Hid (Turn (fun x => x = b) w w5) := by rw [hb5]; exact HU.out.drew
          have hq5 : Qd w5 b B tx (okQ { s with at_ := E } (hasB o)) vo vt op o := by rw [hb5]; exact HRu.out.drew
          have hb6 := hbad w5 hq5
          clear hb5 hbad
          go_wp2_with fail
          refine hb6.mono ?_
          rintro e w6 ⟨rfl, hq6, ht6⟩
          have HQ6 : Hid _ := hq6
          have HT6 : Hid (Turn (fun k => k = b ∨ B ≤ k) w w6) := (HU5.out.trans ht6).mono (fun k _ e => .inl e)
          clear hb6 hq6 ht6
          go_wp2
          go_ret
          exact QPost.no HST.out ⟨by decide, _, _, _, _, _, HQ6.out, rfl, rfl, by simp only [okQ]; omega, by omega⟩ HT6.out
        · rw [hnl] at hnw
          have HST : Hid (nameP tx.data.toList s = .inl ((tx.extract s.at_ E).data.toList, { s with at_ := E })) := by rw [HS.out, hnl]; exact rfl
          clear hnl hbad
          refine (hnw _).mono ?_
          rintro e w5 ⟨rfl, hb5⟩
          have HU5 : Hid (Turn (fun x => x = b) w w5) := by rw [hb5]; exact HU.out.drew
          have HQ5 : Hid (Qd w5 b B tx (okQ { s with at_ := E } (hasB o)) vo vt op o) := by rw [hb5]; exact HRu.out.drew
          clear hb5
          go_wp2
          go_ret
          exact QPost.yes HST.out (congrArg (fun z => Ending.returned (.string z)) hbx.out.symm) ⟨HOP.out, _, _, HQ5.out⟩ (HU5.out.mono (fun k _ e => .inl e))
      · rw [hc] at hin
        have HEa : Hid (E = (a + 1) + runN tx.data.toList (fun b => inB b.toNat) (a + 1)) := by show E = _; rw [hgo.out, runN_step ge hc]
        clear hgo ge hc HE HR
        go_wp2
        refine wp_region_bel (by kernel_rfl) (by kernel_rfl) ?_
        intro hne
        repeat go_big_quiet_step ((go_at_call 106; exact Calls.bel_of_same (hin _)))
        refine wpQuiet_nil ?_
        rintro _ ⟨u, rfl⟩
        go_wp2
        have hr2 : Qd (u.w.setCell ⟨b, 1, none⟩ (.int .i64 ((a : Int) + 1))) b B tx (okQ { s with at_ := a + 1 } (hasB o)) vo vt op o := (hr.out.below u.h).setAt (a + 1) (by simp)
        refine ⟨⟨a + 1, by omega, by omega, HEa, hr2, turn_set (ht.out.then u.h ht.out.size) _ _⟩, ?_⟩
        rw [hr2.atOf, hr.out.atOf]
        simp only [okQ]
        omega
    · have hEa : E = a := by
        rw [hgo.out, runN_stop (fun b hb => by rw [get_no (by omega)] at hb; cases hb)]; omega
      obtain rfl := hEa
      have hnw := fun W => rname_any W (tx.extract s.at_ E)
      have hbx : Hid (ba (tx.extract s.at_ E).data.toList = tx.extract s.at_ E) := ba_of _
      have hbad := fun (W : World) (hq : Qd W b B tx (okQ { s with at_ := E } (hasB o)) vo vt op o) => qbad_any W b B tx _ vo vt op o hq s.at_ 6
      have hbq : badQ (okQ { s with at_ := E } (hasB o)) s.at_ 6 = { okQ { s with at_ := E } (hasB o) with place := s.at_, err := 6 } := by simp [badQ, okQ]
      rw [hbq] at hbad
      clear hgo HE HR hbq
      go_wp2
      refine wp_region_bel (by kernel_rfl) (by kernel_rfl) ?_
      intro hne
      repeat go_big_quiet_step (fail)
      refine wpQuiet_nil ?_
      rintro _ ⟨u, rfl⟩
      have HU : Hid (Turn (fun x => x = b) w u.w) := ht.out.then u.h ht.out.size
      have HRu : Hid (Qd u.w b B tx (okQ { s with at_ := E } (hasB o)) vo vt op o) := hr.out.below u.h
      clear h0 h1 h2 h3 h4 h5 h6 h7 fz hb
      obtain ⟨h0, h1, h2, h3, h4, h5, h6, h7, fz, hb⟩ := HRu.out.facts
      rw [ea] at h1
      go_wp2_with (go_region)
      cases hnl : nameL (tx.extract s.at_ E).data.toList
      · rw [hnl] at hnw
        have HST : Hid (nameP tx.data.toList s = .inr (s.at_, 6)) := by rw [HS.out, hnl]; exact rfl
        clear hnl
        refine (hnw _).mono ?_
        rintro e w5 ⟨rfl, hb5⟩
        have HU5 : Hid (Turn (fun x => x = b) w w5) := by rw [hb5]; exact HU.out.drew
        have hq5 : Qd w5 b B tx (okQ { s with at_ := E } (hasB o)) vo vt op o := by rw [hb5]; exact HRu.out.drew
        have hb6 := hbad w5 hq5
        clear hb5 hbad
        go_wp2_with fail
        refine hb6.mono ?_
        rintro e w6 ⟨rfl, hq6, ht6⟩
        have HQ6 : Hid _ := hq6
        have HT6 : Hid (Turn (fun k => k = b ∨ B ≤ k) w w6) := (HU5.out.trans ht6).mono (fun k _ e => .inl e)
        clear hb6 hq6 ht6
        go_wp2
        go_ret
        exact QPost.no HST.out ⟨by decide, _, _, _, _, _, HQ6.out, rfl, rfl, by simp only [okQ]; omega, by omega⟩ HT6.out
      · rw [hnl] at hnw
        have HST : Hid (nameP tx.data.toList s = .inl ((tx.extract s.at_ E).data.toList, { s with at_ := E })) := by rw [HS.out, hnl]; exact rfl
        clear hnl hbad
        refine (hnw _).mono ?_
        rintro e w5 ⟨rfl, hb5⟩
        have HU5 : Hid (Turn (fun x => x = b) w w5) := by rw [hb5]; exact HU.out.drew
        have HQ5 : Hid (Qd w5 b B tx (okQ { s with at_ := E } (hasB o)) vo vt op o) := by rw [hb5]; exact HRu.out.drew
        clear hb5
        go_wp2
        go_ret
        exact QPost.yes HST.out (congrArg (fun z => Ending.returned (.string z)) hbx.out.symm) ⟨HOP.out, _, _, HQ5.out⟩ (HU5.out.mono (fun k _ e => .inl e))

end Go.Proofs.YtmifejkddgcbmabGreat

/- The document's reader: whether a beginning stands there. -/
namespace Go.Proofs.YtmifejkddgcbmabGreat
open Go.RowKit
set_option linter.unusedVariables false
set_option linter.unusedSimpArgs false
attribute [local go_sem] Bel.cell Bel.fz

def shortP (l p : Bs) (a : Nat) : Bool := decide (l.length - a < p.length) && breaksP l p a

theorem ext_breaks {tx p : ByteArray} {a : Nat} (h : tx.size - a ≤ p.size) (ha : a ≤ tx.size) : ((p.extract 0 (tx.size - a)).toList == (tx.extract a tx.size).toList) = breaksP tx.data.toList p.data.toList a := by
  unfold breaksP
  have h1 : (p.extract 0 (tx.size - a)).data.toList = p.data.toList.take (tx.size - a) := ext_take h
  have h2 : (tx.extract a tx.size).data.toList = tx.data.toList.drop a := ext_drop
  have hl : (tx.data.toList.drop a).length = tx.size - a := by rw [List.length_drop, size_list]
  rw [Bool.eq_iff_iff, List.isPrefixOf_iff_prefix, List.prefix_iff_eq_take, hl, ← h1, ← h2]
  constructor
  · intro e
    have : p.extract 0 (tx.size - a) = tx.extract a tx.size := Decidable.byContradiction fun hn => by rw [str_ne hn] at e; cases e
    rw [this]
  · intro e
    refine str_eq ?_
    rw [← ba_of (p.extract 0 (tx.size - a)), ← e, ba_of]

set_option maxRecDepth 100000 in
set_option maxHeartbeats 1000000 in
theorem qshort_any (w : World) (b B : Nat) (tx : ByteArray) (q : Qs) (vo vt : Value) (op : List ByteArray) (o : Bs) (h : Qd w b B tx q vo vt op o) (hl : tx.size ≤ 262144) (ha : q.at_ ≤ tx.size) (p : ByteArray) (hp2 : p.size ≤ 100) :
    Calls Tryz.prog 76 #[.pointer (some ⟨b, 0, none⟩), .string p] w fun e w' => e = .returned (.bool (shortP tx.data.toList p.data.toList q.at_)) ∧ Below w.heap.size w w' := by
  obtain ⟨h0, h1, h2, h3, h4, h5, h6, h7, fz, hb⟩ := h.facts
  clear h
  obtain ⟨D, hD⟩ : ∃ D, D = tx.size - q.at_ := ⟨_, rfl⟩
  have hsub : (tx.size : Int) - (q.at_ : Int) = (D : Int) := by omega
  by_cases hle : D < p.size
  · have hx := ext_breaks (tx := tx) (p := p) (a := q.at_) (by omega) ha
    rw [← hD] at hx
    have hv : shortP tx.data.toList p.data.toList q.at_ = breaksP tx.data.toList p.data.toList q.at_ := by
      unfold shortP; rw [size_list, size_list, ← hD]; simp [hle]
    rw [hv]
    have t1 : (D : Int) < (p.size : Int) := by omega
    clear hv hD
    generalize breaksP tx.data.toList p.data.toList q.at_ = z at *
    go_enter Tryz.func76, Tryz.ntmps76
    go_wp2
    refine wp_region_bel (by kernel_rfl) (by kernel_rfl) ?_
    intro hne
    repeat go_big_quiet_step (fail)
    refine wpQuiet_nil ?_
    rintro _ ⟨u, rfl⟩
    have hb2 : b < u.w.heap.size := Nat.lt_of_lt_of_le hb u.h.size
    have g0 : u.w.cell? ⟨b, 0, none⟩ = some (.string tx) := (u.cell _ _ hb).trans h0
    have g1 : u.w.cell? ⟨b, 1, none⟩ = some (.int .i64 (q.at_ : Int)) := (u.cell _ _ hb).trans h1
    have HU : Hid (Below w.heap.size w u.w) := u.h
    clear h0 h1
    go_wp2
    refine wp_region_bel (by kernel_rfl) (by kernel_rfl) ?_
    intro hne2
    repeat go_big_quiet_step (fail)
    refine wpQuiet_nil ?_
    rintro _ ⟨u2, rfl⟩
    go_wp2
    go_ret
    exact ⟨rfl, HU.out.trans (u2.h.mono HU.out.size)⟩
  · have hv : shortP tx.data.toList p.data.toList q.at_ = false := by
      unfold shortP; rw [size_list, size_list, ← hD]; simp [hle]
    rw [hv]
    have t1 : ¬ (D : Int) < (p.size : Int) := by omega
    clear hv hD
    go_enter Tryz.func76, Tryz.ntmps76
    go_wp2
    refine wp_region_bel (by kernel_rfl) (by kernel_rfl) ?_
    intro hne
    repeat go_big_quiet_step (fail)
    refine wpQuiet_nil ?_
    rintro _ ⟨u, rfl⟩
    have hb2 : b < u.w.heap.size := Nat.lt_of_lt_of_le hb u.h.size
    have HU : Hid (Below w.heap.size w u.w) := u.h
    go_wp2
    refine wp_region_bel (by kernel_rfl) (by kernel_rfl) ?_
    intro hne2
    repeat go_big_quiet_step (fail)
    refine wpQuiet_nil ?_
    rintro _ ⟨u2, rfl⟩
    go_wp2
    go_ret
    exact ⟨rfl, HU.out.trans (u2.h.mono HU.out.size)⟩

end Go.Proofs.YtmifejkddgcbmabGreat
