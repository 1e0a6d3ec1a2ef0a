/- The document's reader: a character of text; how far blanks go; what must come. -/
import Derived.Test.YtmifejkddgcbmaaGreatA29
namespace Go.Proofs.YtmifejkddgcbmaaGreat
open Go.RowKit
set_option linter.unusedVariables false
set_option linter.unusedSimpArgs false
attribute [local go_sem] Bel.cell Bel.fz

theorem Qd.setAt {w : World} {b B : Nat} {tx : ByteArray} {s : St} {hh : Bool} {vo vt : Value} {op : List ByteArray} {o : Bs} (h : Qd w b B tx (okQ s hh) vo vt op o) (n : Nat) {x : Int} (hx : x = (n : Int)) : Qd (w.setCell ⟨b, 1, none⟩ (.int .i64 x)) b B tx (okQ { s with at_ := n } hh) vo vt op o :=
  h.set 1 _ (by subst hx; simp [qC, okQ])

/-- A character or a reference, put into the text. -/
def charP (l : Bs) (s : St) (o : Bs) : Rs Bs := match letterP l s with
  | .inr (p, e) => .inr (p, e)
  | .inl (x, s1) => putP s1 o x s.at_

theorem putP_at {s : St} {o x : Bs} {a n : Nat} : putP { s with at_ := n } o x a = match putP s o x a with
    | .inl (o1, s1) => .inl (o1, { s1 with at_ := n })
    | .inr (p, e) => .inr (p, e) := by
  unfold putP
  by_cases ho : o = []
  · simp only [ho, if_true]
    unfold beginP
    simp only
    by_cases hb : s.nodes = 4096 ∨ s.op = 64
    · simp only [hb, if_true]
    · simp only [hb, if_false]
      unfold growP
      split <;> rfl
  · simp only [ho, if_false]
    unfold growP
    split <;> rfl

set_option maxRecDepth 100000 in
set_option maxHeartbeats 2000000 in
theorem qchar_any (w : World) (b B : Nat) (tx : ByteArray) (s : St) (op : List ByteArray) (o : Bs) (h : QS w b B tx s op o) (ok : Ok tx s) (hl : o.length ≤ 16384) (hlt : s.at_ < tx.size) :
    Calls Tryz.prog 74 #[.pointer (some ⟨b, 0, none⟩)] w (QPost w b B tx tx.size op (charP tx.data.toList s o) id fun _ e w' => e = .returned (.tuple #[])) := by
  have hlet := letterP_next (l := tx.data.toList) (s := s) (by rw [size_list]; exact hlt)
  have HOK : Hid (Ok tx s) := ok
  obtain ⟨k1, k2, k3, k4⟩ := ok
  have hnx := fun W => rnext_any W tx s.at_ hlt (by omega)
  obtain ⟨hop, vo, vt, h⟩ := h
  have HQ : Hid (Qd w b B tx (okQ s (hasB o)) vo vt op o) := h
  have HOP : Hid (op.length = s.op) := hop
  obtain ⟨h0, h1, h2, h3, h4, h5, h6, h7, fz, hb⟩ := h.facts
  have e1 : (okQ s (hasB o)).at_ = s.at_ := rfl
  rw [e1] at h1
  unfold nbytes nlen at hnx
  by_cases hz : (nextP (tx.data.toList.drop s.at_)).2.2 = 0
  · obtain ⟨R, n, e2, hc, hn1, hn2⟩ := nextP_ok hz
    rw [if_pos hz] at hlet
    simp only [if_pos hz] at hnx
    rw [e2] at hlet hnx
    rw [List.length_drop, size_list] at hn2
    simp only [Int.toNat_natCast] at hlet hnx
    have hRs := enc_length R
    have hRp := size_pos R
    have hput := fun (W : World) (hq : QS W b B tx s op o) => qadd_at W b B tx s op o hq HOK.out hl (⟨(enc R).toArray⟩ : ByteArray) (by show 0 < ((enc R).toArray).size; rw [List.size_toArray]; omega) (by show ((enc R).toArray).size ≤ 40; rw [List.size_toArray]; omega) s.at_
    have HG : Hid (charP tx.data.toList s o = match putP s o (enc R) s.at_ with
        | .inl (o1, s1) => .inl (o1, { s1 with at_ := s.at_ + n })
        | .inr (p, e) => .inr (p, e)) := by
      show charP _ _ _ = _
      unfold charP
      rw [hlet]
      exact putP_at
    clear hlet e2 hz h hop
    go_enter Tryz.func74, Tryz.ntmps74
    go_wp2
    refine wp_region_bel (by kernel_rfl) (by kernel_rfl) ?_
    intro hne
    repeat go_big_quiet_step ((go_at_call 99; exact Calls.bel_of (hnx _)))
    refine wpQuiet_nil ?_
    rintro _ ⟨u, rfl⟩
    have HQu : Hid (Qd u.w b B tx (okQ s (hasB o)) vo vt op o) := HQ.out.below u.h
    have HTu : Hid (Turn (fun k => k = b ∨ B ≤ k) w u.w) := turn_below _ u.h (Nat.le_refl _)
    clear h0 h1 h2 h3 h4 h5 h6 h7 fz hb hnx
    obtain ⟨h0, h1, h2, h3, h4, h5, h6, h7, fz, hb⟩ := HQu.out.facts
    rw [e1] at h1
    have hp2 := hput u.w ⟨HOP.out, vo, vt, HQu.out⟩
    clear hput
    go_wp2_with fail
    refine hp2.mono ?_
    rintro e w2 ⟨-, hpost, -, hcell⟩
    cases hpp : putP s o (enc R) s.at_ with
    | inr q_ =>
      obtain ⟨p, c⟩ := q_
      rw [hpp] at hpost
      obtain ⟨⟨v, rfl⟩, ⟨hc0, q, vo2, vt2, op2, o2, hq2, he2, hp2', ha2, hol2⟩, ht2⟩ := hpost
      have hqs : q.at_ = s.at_ := by
        have h9 := hq2.facts.2.1
        rw [hcell] at h9
        have h8 : (s.at_ : Int) = (q.at_ : Int) := by injection h9 with h9; injection h9
        omega
      have HN2 : Hid (q.at_ + n ≤ tx.size) := (by omega : q.at_ + n ≤ tx.size)
      clear hqs hcell
      have HG2 : Hid (charP tx.data.toList s o = .inr (p, c)) := by show charP _ _ _ = _; rw [HG.out, hpp]
      have HQ2 : Hid (Qd (w2.setCell ⟨b, 1, none⟩ (.int .i64 ((q.at_ : Int) + (n : Int)))) b B tx { q with at_ := q.at_ + n } vo2 vt2 op2 o2) := hq2.set 1 _ (by simp [qC])
      have HT2 : Hid (Turn (fun k => k = b ∨ B ≤ k) w (w2.setCell ⟨b, 1, none⟩ (.int .i64 ((q.at_ : Int) + (n : Int))))) := (HTu.out.trans ht2).setCell (p := ⟨b, 1, none⟩) (.inl rfl) _
      have HX : Hid (c ≠ 0 ∧ q.err = c ∧ q.place = p ∧ o2.length ≤ 100000) := ⟨hc0, he2, hp2', hol2⟩
      clear h0 h1 h2 h3 h4 h5 h6 h7 fz hb hpp HG hp2
      obtain ⟨h0, h1, h2, h3, h4, h5, h6, h7, fz, hb⟩ := hq2.facts
      clear hc0 he2 hp2' hol2 hq2 ht2
      go_wp2
      go_end0
      exact QPost.no HG2.out ⟨HX.out.1, _, _, _, _, _, HQ2.out, HX.out.2.1, HX.out.2.2.1, HN2.out, HX.out.2.2.2⟩ HT2.out
    | inl q_ =>
      obtain ⟨o1, s1⟩ := q_
      rw [hpp] at hpost
      obtain ⟨rfl, ⟨hop2, vo2, vt2, hq2⟩, ht2⟩ := hpost
      clear hcell
      have HG2 : Hid (charP tx.data.toList s o = .inl (o1, { s1 with at_ := s.at_ + n })) := by show charP _ _ _ = _; rw [HG.out, hpp]
      obtain ⟨p1, -, -, -, -⟩ := putP_ok hpp
      have HQ2 : Hid (Qd (w2.setCell ⟨b, 1, none⟩ (.int .i64 ((s1.at_ : Int) + (n : Int)))) b B tx (okQ { s1 with at_ := s.at_ + n } (hasB (id o1))) vo2 vt2 op (id o1)) := hq2.setAt _ (by omega)
      have HT2 : Hid (Turn (fun k => k = b ∨ B ≤ k) w (w2.setCell ⟨b, 1, none⟩ (.int .i64 ((s1.at_ : Int) + (n : Int))))) := (HTu.out.trans ht2).setCell (p := ⟨b, 1, none⟩) (.inl rfl) _
      have HOP2 : Hid (op.length = s1.op) := hop2
      have hs1b : s1.at_ ≤ tx.size := by omega
      clear h0 h1 h2 h3 h4 h5 h6 h7 fz hb hpp HG hp2 p1
      obtain ⟨h0, h1, h2, h3, h4, h5, h6, h7, fz, hb⟩ := hq2.facts
      have e9 : (okQ s1 (hasB (id o1))).at_ = s1.at_ := rfl
      rw [e9] at h1
      clear hq2 ht2 hop2
      go_wp2
      go_end0
      exact QPost.yes HG2.out rfl ⟨HOP2.out, _, _, HQ2.out⟩ HT2.out
  · rw [if_neg hz] at hlet
    simp only [if_neg hz] at hnx
    have HG : Hid (charP tx.data.toList s o = .inr (s.at_, (nextP (tx.data.toList.drop s.at_)).2.2)) := by show charP _ _ _ = _; unfold charP; rw [hlet]
    have hbad := fun (W : World) (hq : Qd W b B tx (okQ s (hasB o)) vo vt op o) => qbad_any W b B tx _ vo vt op o hq s.at_ (nextP (tx.data.toList.drop s.at_)).2.2
    have HZ : Hid (¬ (nextP (tx.data.toList.drop s.at_)).2.2 = 0) := hz
    have t1 : ((nextP (tx.data.toList.drop s.at_)).2.2 != 0) = true := bne_iff_ne.2 hz
    clear hlet hz h hop
    generalize (nextP (tx.data.toList.drop s.at_)).2.2 = ec at *
    go_enter Tryz.func74, Tryz.ntmps74
    go_wp2
    refine wp_region_bel (by kernel_rfl) (by kernel_rfl) ?_
    intro hne
    repeat go_big_quiet_step ((go_at_call 99; exact Calls.bel_of (hnx _)))
    refine wpQuiet_nil ?_
    rintro _ ⟨u, rfl⟩
    have HQu : Hid (Qd u.w b B tx (okQ s (hasB o)) vo vt op o) := HQ.out.below u.h
    have HTu : Hid (Turn (fun k => k = b ∨ B ≤ k) w u.w) := turn_below _ u.h (Nat.le_refl _)
    clear h0 h1 h2 h3 h4 h5 h6 h7 fz hb hnx
    obtain ⟨h0, h1, h2, h3, h4, h5, h6, h7, fz, hb⟩ := HQu.out.facts
    rw [e1] at h1
    have hb2 := hbad u.w HQu.out
    clear hbad
    go_wp2_with fail
    refine hb2.mono ?_
    rintro e w2 ⟨rfl, hq2, ht2⟩
    have HT2 : Hid (Turn (fun k => k = b ∨ B ≤ k) w w2) := HTu.out.trans (ht2.mono (fun k _ e => .inl e))
    have HQ2 : Hid (Qd w2 b B tx (badQ (okQ s (hasB o)) s.at_ ec) vo vt op o) := hq2
    clear hb2 hq2 ht2
    go_wp2
    first | go_end0 | refine bodyPost_ret (results_none rfl _ _ _) rfl ?_
    exact QPost.no HG.out ⟨HZ.out, _, _, _, _, _, HQ2.out, rfl, rfl, by simp only [badQ, okQ, if_true]; omega, by omega⟩ HT2.out

end Go.Proofs.YtmifejkddgcbmaaGreat

/- The document's reader: what it looks for; remarks. -/
namespace Go.Proofs.YtmifejkddgcbmaaGreat
open Go.RowKit
set_option linter.unusedVariables false
set_option linter.unusedSimpArgs false
attribute [local go_sem] Bel.cell Bel.fz

def findA (l p : Bs) (i : Nat) : Int := match findP p (l.drop i) with
  | some j => ((i + j : Nat) : Int)
  | none => -1

theorem findP_short (p : Bs) : ∀ l : Bs, l.length < p.length → findP p l = none := by
  intro l h
  cases hf : findP p l with
  | none => rfl
  | some k => have := findP_le p l k hf; omega
theorem findA_end {l p : Bs} {i : Nat} (h : l.length < i + p.length) (hp : 0 < p.length) : findA l p i = -1 := by
  unfold findA
  rw [findP_short p _ (by rw [List.length_drop]; omega)]
theorem findA_hit {l p : Bs} {i : Nat} (h : seesP l p i = true) : findA l p i = (i : Int) := by
  unfold findA seesP at *
  have : findP p (l.drop i) = some 0 := by
    cases hd : l.drop i with
    | nil => rw [hd] at h; unfold findP; rw [if_pos h]
    | cons b r => rw [hd] at h; unfold findP; rw [if_pos h]
  rw [this]; simp
theorem findA_miss {l p : Bs} {i : Nat} (hi : i < l.length) (h : seesP l p i = false) : findA l p i = findA l p (i + 1) := by
  unfold findA seesP at *
  rw [List.drop_eq_getElem_cons hi] at h ⊢
  have : findP p (l[i] :: l.drop (i + 1)) = (findP p (l.drop (i + 1))).map (· + 1) := by
    rw [findP, if_neg (by rw [h]; decide)]
  rw [this]
  cases findP p (l.drop (i + 1)) with
  | none => rfl
  | some j => simp; omega

set_option maxRecDepth 100000 in
set_option maxHeartbeats 1000000 in
theorem qfind_any (w : World) (b B : Nat) (tx : ByteArray) (q : Qs) (vo vt : Value) (op : List ByteArray) (o : Bs) (h : Qd w b B tx q vo vt op o) (hl : tx.size ≤ 262144) (p : ByteArray) (hp : 0 < p.size) (hp2 : p.size ≤ 100) (a : Nat) (ha : a ≤ tx.size) :
    Calls Tryz.prog 96 #[.pointer (some ⟨b, 0, none⟩), .string p, .int .i64 (a : Int)] w fun e w' => e = .returned (.int .i64 (findA tx.data.toList p.data.toList a)) ∧ w' = w := by
  obtain ⟨h0, h1, h2, h3, h4, h5, h6, h7, fz, hb⟩ := h.facts
  have hZ : ∃ Z, Z = findA tx.data.toList p.data.toList a := ⟨_, rfl⟩
  obtain ⟨Z, hZ⟩ := hZ
  rw [← hZ]
  have HZ : Hid (Z = findA tx.data.toList p.data.toList a) := hZ
  clear h hZ
  go_enter Tryz.func96, Tryz.ntmps96
  go_wp2
  go_loopw [7] (fun v7 wr => ∃ i : Nat, i ≤ tx.size + 1 ∧ v7 = .int .i64 (i : Int) ∧ wr = w ∧ Hid (Z = findA tx.data.toList p.data.toList i)) (fun v7 _ => tx.size + 1 - (intOf v7).toNat)
  case atStart => exact ⟨a, by omega, rfl, rfl, HZ⟩
  case round =>
    obtain ⟨i, hi, rfl, hw, hgo⟩ := hrel
    obtain rfl := hw.symm
    clear HZ
    by_cases hle : i + p.size ≤ tx.size
    · have t1 : ((i : Int) + (p.size : Int)) ≤ (tx.size : Int) := by omega
      have hx := ext_sees hle
      cases hS : seesP tx.data.toList p.data.toList i
      · rw [hS] at hx
        have HG : Hid (Z = findA tx.data.toList p.data.toList (i + 1)) := hgo.out.trans (findA_miss (by rw [size_list]; omega) hS)
        clear hgo hS
        go_wp2
        refine ⟨⟨i + 1, by omega, by simp, trivial, HG⟩, ?_⟩
        simp [intOf]; omega
      · rw [hS] at hx
        have HG : Hid (Z = (i : Int)) := hgo.out.trans (findA_hit hS)
        clear hgo hS
        go_wp2
        go_ret
        exact ⟨congrArg _ (v_int HG.out.symm), rfl⟩
    · have t1 : ¬ ((i : Int) + (p.size : Int)) ≤ (tx.size : Int) := by omega
      have HG : Hid (Z = -1) := hgo.out.trans (findA_end (by rw [size_list, size_list]; omega) (by rw [size_list]; exact hp))
      clear hgo
      go_wp2
      go_ret
      exact ⟨congrArg _ (v_int HG.out.symm), rfl⟩

set_option maxRecDepth 100000 in
set_option maxHeartbeats 1000000 in
theorem qremark_any (w : World) (b B : Nat) (tx : ByteArray) (s : St) (op : List ByteArray) (o : Bs) (h : QS w b B tx s op o) (ok : Ok tx s) (hol : o.length ≤ 16384) (p r : ByteArray) (hp : s.at_ + p.size ≤ tx.size) (hp2 : p.size ≤ 100) (hr : 0 < r.size) (hr2 : r.size ≤ 100) :
    Calls Tryz.prog 72 #[.pointer (some ⟨b, 0, none⟩), .string p, .string r] w (QPost w b B tx tx.size op (skipP tx.data.toList p.size r.data.toList s) (fun _ => o) fun _ e w' => e = .returned (.tuple #[])) := by
  obtain ⟨hop, vo, vt, h⟩ := h
  obtain ⟨k1, k2, k3, k4⟩ := ok
  have hfi := qfind_any w b B tx _ vo vt op o h k1 r hr hr2 (s.at_ + p.size) hp
  have hbad := qbad_any w b B tx _ vo vt op o h s.at_ 4
  have HQ : Hid (Qd w b B tx (okQ s (hasB o)) vo vt op o) := h
  have HOP : Hid (op.length = s.op) := hop
  obtain ⟨h0, h1, h2, h3, h4, h5, h6, h7, fz, hb⟩ := h.facts
  have e1 : (okQ s (hasB o)).at_ = s.at_ := rfl
  rw [e1] at h1
  rw [Int.natCast_add] at hfi
  unfold findA at hfi
  clear h hop
  cases hf : findP r.data.toList (tx.data.toList.drop (s.at_ + p.size)) with
  | none =>
    simp only [hf] at hfi
    have HG : Hid (skipP tx.data.toList p.size r.data.toList s = .inr (s.at_, 4)) := by show skipP _ _ _ _ = _; unfold skipP; rw [hf]
    have hbq : badQ (okQ s (hasB o)) s.at_ 4 = { okQ s (hasB o) with place := s.at_, err := 4 } := by simp [badQ, okQ]
    rw [hbq] at hbad
    clear hf hbq
    go_enter Tryz.func72, Tryz.ntmps72
    go_wp2_with fail
    refine hfi.mono ?_
    rintro e w1 ⟨rfl, hw1⟩
    obtain rfl := hw1.symm
    go_wp2_with fail
    refine hbad.mono ?_
    rintro e w2 ⟨rfl, hq2, ht2⟩
    have HQ2 : Hid _ := hq2
    have HT2 : Hid (Turn (fun k => k = b ∨ B ≤ k) w w2) := ht2.mono (fun k _ e => .inl e)
    clear hbad hq2 ht2
    go_wp2
    first | go_end0 | refine bodyPost_ret (results_none rfl _ _ _) rfl ?_
    exact QPost.no HG.out ⟨by decide, _, _, _, _, _, HQ2.out, rfl, rfl, by simp only [okQ]; omega, by omega⟩ HT2.out
  | some k =>
    simp only [hf] at hfi
    have hk := findP_le _ _ _ hf
    rw [List.length_drop, size_list, size_list] at hk
    have HG : Hid (skipP tx.data.toList p.size r.data.toList s = .inl (((tx.data.toList.drop (s.at_ + p.size)).take k), { s with at_ := s.at_ + p.size + k + r.size })) := by
      show skipP _ _ _ _ = _; unfold skipP; rw [hf, size_list]
    clear hf hbad
    go_enter Tryz.func72, Tryz.ntmps72
    go_wp2_with fail
    refine hfi.mono ?_
    rintro e w1 ⟨rfl, hw1⟩
    obtain rfl := hw1.symm
    go_wp2
    go_end0
    exact QPost.yes HG.out rfl ⟨HOP.out, _, _, HQ.out.setAt _ (by omega)⟩ ((Turn.refl _ w).setCell (p := ⟨b, 1, none⟩) (.inl rfl) _)

end Go.Proofs.YtmifejkddgcbmaaGreat

/- The document's reader: blanks, names, what must come. -/
namespace Go.Proofs.YtmifejkddgcbmaaGreat
open Go.RowKit
set_option linter.unusedVariables false
set_option linter.unusedSimpArgs false
attribute [local go_sem] Bel.cell Bel.fz

theorem Qd.atOf {w : World} {b B : Nat} {tx : ByteArray} {q : Qs} {vo vt : Value} {op : List ByteArray} {o : Bs} (h : Qd w b B tx q vo vt op o) : atOf w b = q.at_ := by
  unfold YtmifejkddgcbmaaGreat.atOf
  rw [h.facts.2.1]; simp

theorem Qd.drew {w : World} {b B : Nat} {tx : ByteArray} {q : Qs} {vo vt : Value} {op : List ByteArray} {o : Bs} (h : Qd w b B tx q vo vt op o) : Qd w.drew b B tx q vo vt op o := ⟨h.cel, h.txt, h.opn, h.opb, h.ltb, h.leB, h.nl⟩

set_option maxRecDepth 100000 in
set_option maxHeartbeats 1000000 in
theorem qblanks_any (w : World) (b B : Nat) (tx : ByteArray) (s : St) (op : List ByteArray) (o : Bs) (h : QS w b B tx s op o) (ok : Ok tx s) :
    Calls Tryz.prog 76 #[.pointer (some ⟨b, 0, none⟩)] w fun e w' => e = .returned (.bool (decide (s.at_ < (blanksP tx.data.toList s).at_))) ∧ QS w' b B tx (blanksP tx.data.toList s) op o ∧ Turn (· = b) w w' := by
  obtain ⟨hop, vo, vt, h⟩ := h
  obtain ⟨k1, k2, k3, k4⟩ := ok
  have HOP : Hid (op.length = s.op) := hop
  have HR : Hid (Qd w b B tx (okQ s (hasB o)) vo vt op o) := h
  obtain ⟨h0, h1, h2, h3, h4, h5, h6, h7, fz, hb⟩ := h.facts
  have e0 : (okQ s (hasB o)).at_ = s.at_ := rfl
  rw [e0] at h1
  obtain ⟨E, hE⟩ : ∃ E, E = s.at_ + runN tx.data.toList (fun b => blankB b.toNat) s.at_ := ⟨_, rfl⟩
  have e1 : blanksP tx.data.toList s = { s with at_ := E } := by simp [blanksP, hE]
  rw [e1]
  have HE : Hid (E = s.at_ + runN tx.data.toList (fun b => blankB b.toNat) s.at_) := hE
  clear h hE e1 hop
  go_enter Tryz.func76, Tryz.ntmps76
  go_wp2
  go_loopw [] (fun wr => ∃ a : Nat, s.at_ ≤ a ∧ a ≤ tx.size ∧ Hid (E = a + runN tx.data.toList (fun b => blankB b.toNat) a) ∧ Hid (Qd wr b B tx (okQ { s with at_ := a } (hasB o)) vo vt op o) ∧ Hid (Turn (fun x => x = b) w wr)) (fun wr => tx.size - atOf wr b)
  case atStart => exact ⟨s.at_, by omega, k2, HE, HR, Turn.refl _ _⟩
  case round =>
    obtain ⟨a, ha0, ha1, hgo, hr, ht⟩ := hrel
    clear h0 h1 h2 h3 h4 h5 h6 h7 fz hb
    obtain ⟨h0, h1, h2, h3, h4, h5, h6, h7, fz, hb⟩ := hr.out.facts
    have ea : (okQ { s with at_ := a } (hasB o)).at_ = a := rfl
    rw [ea] at h1
    by_cases hlt : a < tx.size
    · have hbl := fun W => white_any W (tx[a]'hlt).toNat (UInt8.toNat_lt _)
      have ge := get_some hlt
      cases hc : blankB (tx[a]'hlt).toNat
      · rw [hc] at hbl
        have HEa : Hid (E = a) := by
          show E = a
          rw [hgo.out, runN_stop (fun b hb => by rw [ge] at hb; cases hb; exact hc)]; omega
        clear hgo ge hc HE HR
        go_wp2
        refine wp_region_bel (by kernel_rfl) (by kernel_rfl) ?_
        intro hne
        repeat go_big_quiet_step ((go_at_call 102; exact Calls.bel_of_same (hbl _)))
        refine wpQuiet_nil ?_
        rintro _ ⟨u, rfl⟩
        go_wp2
        go_ret
        have e2 := HEa.out
        refine ⟨congrArg _ (v_bool (by rw [e2])), ⟨HOP.out, vo, vt, ?_⟩, ht.out.then u.h ht.out.size⟩
        rw [e2]
        exact hr.out.below u.h
      · rw [hc] at hbl
        have HEa : Hid (E = (a + 1) + runN tx.data.toList (fun b => blankB b.toNat) (a + 1)) := by show E = _; rw [hgo.out, runN_step ge hc]
        clear hgo ge hc HE HR
        go_wp2
        refine wp_region_bel (by kernel_rfl) (by kernel_rfl) ?_
        intro hne
        repeat go_big_quiet_step ((go_at_call 102; exact Calls.bel_of_same (hbl _)))
        refine wpQuiet_nil ?_
        rintro _ ⟨u, rfl⟩
        go_wp2
        have hr2 : Qd (u.w.setCell ⟨b, 1, none⟩ (.int .i64 ((a : Int) + 1))) b B tx (okQ { s with at_ := a + 1 } (hasB o)) vo vt op o := (hr.out.below u.h).setAt (a + 1) (by simp)
        refine ⟨⟨a + 1, by omega, by omega, HEa, hr2, turn_set (ht.out.then u.h ht.out.size) _ _⟩, ?_⟩
        rw [hr2.atOf, hr.out.atOf]
        simp only [okQ]
        omega
    · have HEa : Hid (E = a) := by
        show E = a
        rw [hgo.out, runN_stop (fun b hb => by rw [get_no (by omega)] at hb; cases hb)]; omega
      have e3 : a = tx.size := by omega
      clear hgo HE HR
      go_wp2
      refine wp_region_bel (by kernel_rfl) (by kernel_rfl) ?_
      intro hne
      repeat go_big_quiet_step (fail)
      refine wpQuiet_nil ?_
      rintro _ ⟨u, rfl⟩
      go_wp2
      go_ret
      have e2 := HEa.out
      refine ⟨congrArg _ (v_bool (by rw [e2]; simp <;> omega)), ⟨HOP.out, vo, vt, ?_⟩, ht.out.then u.h ht.out.size⟩
      rw [e2]
      exact hr.out.below u.h

set_option maxRecDepth 100000 in
set_option maxHeartbeats 1000000 in
theorem qmust_any (w : World) (b B : Nat) (tx : ByteArray) (s : St) (op : List ByteArray) (o : Bs) (h : QS w b B tx s op o) (ok : Ok tx s) (hol : o.length ≤ 16384) (c : UInt8) :
    Calls Tryz.prog 77 #[.pointer (some ⟨b, 0, none⟩), .int .u8 (c.toNat : Int)] w (QPost w b B tx tx.size op (expectP tx.data.toList c s) (fun _ => o) fun _ e w' => e = .returned (.tuple #[])) := by
  obtain ⟨hop, vo, vt, h⟩ := h
  obtain ⟨k1, k2, k3, k4⟩ := ok
  have HOP : Hid (op.length = s.op) := hop
  have HQ : Hid (Qd w b B tx (okQ s (hasB o)) vo vt op o) := h
  have hbad := fun (W : World) (hq : Qd W b B tx (okQ s (hasB o)) vo vt op o) (p : Nat) (e : Int) => qbad_any W b B tx _ vo vt op o hq p e
  have hbq : ∀ p e, badQ (okQ s (hasB o)) p e = { okQ s (hasB o) with place := p, err := e } := fun p e => by simp [badQ, okQ]
  obtain ⟨h0, h1, h2, h3, h4, h5, h6, h7, fz, hb⟩ := h.facts
  have e0 : (okQ s (hasB o)).at_ = s.at_ := rfl
  rw [e0] at h1
  clear h hop
  by_cases ha : s.at_ < tx.size
  · have t1 : ¬ (tx.size : Int) ≤ (s.at_ : Int) := by omega
    have t2 : (s.at_ : Int) < (tx.size : Int) := by omega
    by_cases hc : tx[s.at_]'ha = c
    · have HG : Hid (expectP tx.data.toList c s = .inl ((), { s with at_ := s.at_ + 1 })) := by show expectP _ _ _ = _; simp [expectP, get_some ha, hc]
      have t3 : (((tx[s.at_]'ha).toNat : Int) != (c.toNat : Int)) = false := by rw [u8_ne]; simp [hc]
      clear hc hbad hbq
      go_enter Tryz.func77, Tryz.ntmps77
      go_wp2_with (go_region)
      go_end0
      have q1 : Qd (w.setCell ⟨b, 1, none⟩ (.int .i64 ((s.at_ : Int) + 1))) b B tx (okQ { s with at_ := s.at_ + 1 } (hasB o)) vo vt op o := HQ.out.setAt _ (by simp)
      have q2 : Turn (fun k => k = b ∨ B ≤ k) w (w.setCell ⟨b, 1, none⟩ (.int .i64 ((s.at_ : Int) + 1))) := (Turn.refl _ w).setCell (p := ⟨b, 1, none⟩) (.inl rfl) _
      exact QPost.yes HG.out rfl ⟨HOP.out, vo, vt, q1.drew.drew.drew⟩ q2.drew.drew.drew
    · have HG : Hid (expectP tx.data.toList c s = .inr (s.at_, 3)) := by show expectP _ _ _ = _; simp [expectP, get_some ha, hc]
      have t3 : (((tx[s.at_]'ha).toNat : Int) != (c.toNat : Int)) = true := by rw [u8_ne]; simp [hc]
      clear hc
      go_enter Tryz.func77, Tryz.ntmps77
      go_wp2_with (go_region)
      refine (hbad _ HQ.out.drew.drew _ _).mono ?_
      rintro e w2 ⟨rfl, hq2, ht2⟩
      rw [hbq] at hq2
      have HQ2 : Hid (Qd (w2.setCell ⟨b, 1, none⟩ (.int .i64 ((s.at_ : Int) + 1))) b B tx { okQ s (hasB o) with place := s.at_, err := 3, at_ := s.at_ + 1 } vo vt op o) := hq2.set 1 _ (by simp [qC, okQ])
      have HT2 : Hid (Turn (fun k => k = b ∨ B ≤ k) w (w2.setCell ⟨b, 1, none⟩ (.int .i64 ((s.at_ : Int) + 1)))) := ((Turn.refl _ w).drew.drew.trans (ht2.mono (fun k _ e => .inl e))).setCell (p := ⟨b, 1, none⟩) (.inl rfl) _
      clear h0 h1 h2 h3 h4 h5 h6 h7 fz hb hbad hbq
      obtain ⟨h0, h1, h2, h3, h4, h5, h6, h7, fz, hb⟩ := hq2.facts
      simp only [okQ] at h1
      clear hq2 ht2
      go_wp2_with (go_region)
      go_end0
      exact QPost.no HG.out ⟨by decide, _, _, _, _, _, HQ2.out.drew, rfl, rfl, by simp only; omega, by omega⟩ HT2.out.drew
  · have HG : Hid (expectP tx.data.toList c s = .inr (s.at_, 4)) := by show expectP _ _ _ = _; simp [expectP, get_no (Nat.le_of_not_lt ha)]
    have e9 : s.at_ = tx.size := by omega
    have HE9 : Hid (s.at_ = tx.size) := e9
    have t1 : (tx.size : Int) ≤ (s.at_ : Int) := by omega
    have t2 : ¬ (s.at_ : Int) < (tx.size : Int) := by omega
    clear e9
    go_enter Tryz.func77, Tryz.ntmps77
    go_wp2_with (go_region)
    refine (hbad _ HQ.out.drew _ _).mono ?_
    rintro e w2 ⟨rfl, hq2, ht2⟩
    rw [hbq] at hq2
    have HQ2 : Hid (Qd w2 b B tx { okQ s (hasB o) with place := tx.size, err := 4 } vo vt op o) := hq2
    have HT2 : Hid (Turn (fun k => k = b ∨ B ≤ k) w w2) := (Turn.refl _ w).drew.trans (ht2.mono (fun k _ e => .inl e))
    clear h0 h1 h2 h3 h4 h5 h6 h7 fz hb hbad hbq
    obtain ⟨h0, h1, h2, h3, h4, h5, h6, h7, fz, hb⟩ := hq2.facts
    simp only [okQ] at h1
    clear hq2 ht2
    go_wp2_with (go_region)
    go_end0
    exact QPost.no HG.out ⟨by decide, _, _, _, _, _, HQ2.out.drew, rfl, HE9.out.symm, by simp only [okQ]; omega, by omega⟩ HT2.out.drew

end Go.Proofs.YtmifejkddgcbmaaGreat
