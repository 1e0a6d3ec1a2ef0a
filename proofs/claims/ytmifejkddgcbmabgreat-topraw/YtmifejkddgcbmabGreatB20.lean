/- The document's reader: the next event. -/
import Derived.Test.YtmifejkddgcbmabGreatB19
import Derived.Deep.DeepCutAuto
namespace Go.Proofs.YtmifejkddgcbmabGreat
open Go.RowKit
set_option linter.unusedVariables false
set_option linter.unusedSimpArgs false
attribute [local go_sem] Bel.cell Bel.fz

/-- What the loop of 'Next' keeps: what stands next is known, or something is wrong. -/
def NxRel (w wr : World) (b : Nat) (tx : ByteArray) (s : St) (op : List ByteArray) (v5 : Value) : Prop :=
  (∃ kk s' o' f vo vt, v5 = .int .i64 kk ∧ nextK tx.data.toList s' = .inl (kk, s') ∧ EvSt w wr b tx (okQ s' (hasB o')) vo vt op o' ∧ o'.length ≤ 16384 ∧ Ok tx s' ∧ s'.op = s.op ∧ wordsP tx.data.toList s = wordsF tx.data.toList f s' o' ∧ tx.size - s'.at_ < f) ∨
  (∃ kk p c q vo vt op1 o1, v5 = .int .i64 kk ∧ wordsP tx.data.toList s = .inr (p, c) ∧ EvSt w wr b tx q vo vt op1 o1 ∧ c ≠ 0 ∧ q.err = c ∧ q.place = p ∧ q.at_ ≤ tx.size ∧ o1.length ≤ 100000)

theorem nextK_same {l : Bs} {s s1 : St} {k : Int} (h : nextK l s = .inl (k, s1)) : s1 = s := by
  unfold nextK at h
  cases hg : l[s.at_]? with
  | none => rw [hg] at h; cases h; rfl
  | some c =>
    rw [hg] at h
    simp only at h
    split at h
    · cases h; rfl
    · split at h
      · cases h; rfl
      · split at h
        · cases h; rfl
        · split at h
          · cases h
          · cases hd : l[s.at_ + 1]? with
            | none => rw [hd] at h; cases h
            | some d =>
              rw [hd] at h
              simp only at h
              split at h
              · cases h; rfl
              · cases h
theorem nextK_two {tx : ByteArray} {s : St} (h : nextK tx.data.toList s = .inl (2, s)) : s.at_ < tx.size := by
  refine Decidable.byContradiction fun hn => ?_
  unfold nextK at h
  rw [get_no (by omega)] at h
  cases h

theorem EvSt.alloc {w wr : World} {b : Nat} {tx : ByteArray} {q : Qs} {vo vt : Value} {op : List ByteArray} {o : Bs} (h : EvSt w wr b tx q vo vt op o) (x : Obj) : EvSt w (wr.alloc x) b tx q vo vt op o :=
  h.go (h.qd.below ((Below.refl _ _).alloc (Nat.le_refl _) _)) ((Turn.refl _ wr).alloc _)

theorem EvSt.done {w w9 : World} {b : Nat} {tx : ByteArray} {s : St} {hh : Bool} {vo vt : Value} {op : List ByteArray} (h : EvSt w w9 b tx (okQ s hh) vo vt op []) (hop : op.length = s.op) (hf : hh = false) (k : Int) (n : ByteArray) (va : Value) (t : ByteArray) :
    QS (evW w9 w.heap.size k n va t) b (evW w9 w.heap.size k n va t).heap.size tx s op [] := by
  subst hf
  have h1 := (h.ret k n va t).1
  exact ⟨hop, vo, vt, h1.rebase (Nat.le_refl _) (Nat.lt_of_lt_of_le h1.ltb h1.leB) (fun j hj => (own_block_lt h1.opn j hj).2)⟩

/-- The names that are open, made anew; what else is under way. -/
def Opened (w wx : World) (b : Nat) (tx : ByteArray) (s : St) (op2 : List ByteArray) (rn : Bs) (va : Option Addr) (ra : List Att) (vc c : Nat) : Prop :=
  (∃ B vo vt, Qd wx b B tx (okQ s false) vo vt op2 []) ∧ wx.heap[c]? = some (.cells #[.string (ba rn), .slice va ra.length vc, .bool false] 81 (0, 0)) ∧ wx.heap[w.heap.size]? = some (.cells #[.int .i64 0, .string ⟨#[]⟩, .slice none 0 0, .string ⟨#[]⟩] 66 (0, 0)) ∧ wx.ownsRow (w.heap.size + 1) 84 2 (.slice va ra.length vc) ra.length (attrCells ra) ∧ Turn (fun k => k = b) w wx

set_option maxRecDepth 100000 in
set_option maxHeartbeats 16000000 in
theorem qNext_any (w : World) (b B : Nat) (tx : ByteArray) (s : St) (op : List ByteArray) (h : QS w b B tx s op []) (ok : Ok tx s) :
    Calls Tryz.prog 30 #[.pointer (some ⟨b, 0, none⟩)] w (NxPost w b tx op (nextQ tx.data.toList op s)) := by
  have HOK : Hid (Ok tx s) := ok
  obtain ⟨k1, k2, k3, k4⟩ := ok
  have HOP : Hid (op.length = s.op) := h.1
  obtain ⟨hop, vo, vt, hq⟩ := h
  have hbw : b < w.heap.size := Nat.lt_of_lt_of_le hq.ltb hq.leB
  obtain ⟨o0, ho0⟩ : ∃ o0 : Bs, o0 = [] := ⟨_, rfl⟩
  have hq1 : Qd (w.alloc (.cells #[.int .i64 0, .string ⟨#[]⟩, .slice none 0 0, .string ⟨#[]⟩] 66)) b (w.heap.size + 1) tx (okQ s (hasB o0)) vo vt op o0 := by
    rw [ho0]
    exact (hq.below ((Below.refl _ w).alloc (Nat.le_refl _) _)).rebase (by simp) (by omega) (fun k hk => by have := (own_block_lt hq.opn k hk).2; omega)
  have HE0 : Hid (EvSt w (w.alloc (.cells #[.int .i64 0, .string ⟨#[]⟩, .slice none 0 0, .string ⟨#[]⟩] 66)) b tx (okQ s (hasB o0)) vo vt op o0) := ⟨hq1, (Turn.refl _ w).alloc _, heap_alloc_new w _, hbw⟩
  have hnx := qnext_any _ b (w.heap.size + 1) tx s op o0 ⟨hop, vo, vt, hq1⟩ HOK.out (by rw [ho0]; simp)
  have HWP : Hid (wordsP tx.data.toList s = wordsF tx.data.toList (tx.size - s.at_ + 1) s o0) := by show _ = _; unfold wordsP; rw [size_list, ho0]
  have HOL : Hid (o0.length ≤ 16384) := by show _ ≤ _; rw [ho0]; simp
  have HWN : Hid (∀ p c, nextK tx.data.toList s = .inr (p, c) → wordsP tx.data.toList s = .inr (p, c)) := fun p c hh => by
    rw [HWP.out, words_next _ _ _ _ (by rw [size_list]; exact k2), hh]
  clear hq hq1 ho0 hop
  go_enter Tryz.func30, Tryz.ntmps30
  go_wp2_with fail
  refine hnx.mono ?_
  clear hnx
  rintro e w1 ⟨ht1, hp⟩
  obtain ⟨kk, rfl⟩ : ∃ kk, e = .returned (.int .i64 kk) := by
    cases hx : nextK tx.data.toList s with
    | inl q_ => obtain ⟨k, s1⟩ := q_; rw [hx] at hp; exact ⟨_, hp.1⟩
    | inr q_ => obtain ⟨p, c⟩ := q_; rw [hx] at hp; exact ⟨_, hp.1⟩
  have HREL : Hid (NxRel w w1 b tx s op (.int .i64 kk)) := by
    have ht : Turn (fun k => k = b ∨ w.heap.size + 1 ≤ k) (w.alloc (.cells #[.int .i64 0, .string ⟨#[]⟩, .slice none 0 0, .string ⟨#[]⟩] 66)) w1 := ht1.mono (fun k _ e => .inl e)
    cases hx : nextK tx.data.toList s with
    | inl q_ =>
      obtain ⟨k, s1⟩ := q_
      rw [hx] at hp
      obtain ⟨hv, hop1, vo1, vt1, hq1⟩ := hp
      have es := nextK_same hx
      subst es
      obtain rfl : kk = k := by cases hv; rfl
      exact .inl ⟨kk, s1, o0, _, vo1, vt1, rfl, hx, HE0.out.go hq1 ht, HOL.out, HOK.out, rfl, HWP.out, by omega⟩
    | inr q_ =>
      obtain ⟨p, c⟩ := q_
      rw [hx] at hp
      obtain ⟨hv, hc0, q, vo1, vt1, op1, o1, hq1, he, hpl, hM, ho1⟩ := hp
      exact .inr ⟨kk, p, c, q, vo1, vt1, op1, o1, rfl, HWN.out p c hx, HE0.out.go hq1 ht, hc0, he, hpl, hM, ho1⟩
  clear ht1 hp HE0 HWP HOL HWN
  go_wp2
  go_loopw [5] (fun v5 wr => Hid (NxRel w wr b tx s op v5)) (fun _ wr => leftQ tx wr b)
  case atStart => exact HREL
  case round =>
    clear HREL
    rcases hrel.out with ⟨kk, s', o', f, vo, vt, rfl, hnk, hev, hol, hok', hop', hwf, hfu⟩ | ⟨kk, p, c, q, vo, vt, op1, o1, rfl, hwp, hev, hc0, he, hpl, hM, ho1⟩
    · have HEV : Hid (EvSt w wr b tx (okQ s' (hasB o')) vo vt op o') := hev
      have HOK' : Hid (Ok tx s') := hok'
      have HOP' : Hid (op.length = s'.op) := HOP.out.trans hop'.symm
      have HOS : Hid (s'.op = s.op) := hop'
      have HLEFT : Hid (leftQ tx wr b = tx.size - s'.at_ + 1) := by show _ = _; rw [hev.qd.left]; rfl
      have HNK : Hid (nextK tx.data.toList s' = .inl (kk, s')) := hnk
      obtain ⟨j1, j2, j3, j4⟩ := hok'
      obtain ⟨f, rfl⟩ : ∃ j, f = j + 1 := ⟨f - 1, by omega⟩
      by_cases hk2 : kk = 2
      · have t1 : (kk == 2) = true := by rw [hk2]; rfl
        have hal : s'.at_ < tx.size := nextK_two (by rw [hk2] at hnk; exact hnk)
        have HWF : Hid (wordsP tx.data.toList s = match withinP tx.data.toList s' o' with
            | .inr (p, e) => .inr (p, e)
            | .inl (o1, s1) => wordsF tx.data.toList f s1 o1) := by
          show _ = _
          rw [hwf, words_next _ _ _ _ (by rw [size_list]; exact j2), hnk]
          simp only [hk2, if_true]
          cases withinP tx.data.toList s' o' <;> rfl
        have hwi := qwithin_any wr b (w.heap.size + 1) tx s' op o' ⟨HOP'.out, vo, vt, hev.qd⟩ HOK'.out hol hal
        clear hnk hev hwf hk2 hrel hop'
        go_wp2_with fail
        refine (qokT HEV.out.qd).mono ?_
        rintro e w8 ⟨rfl, hw8⟩
        obtain rfl := hw8.symm
        go_wp2_with fail
        refine hwi.mono ?_
        clear hwi
        intro e w2 hp
        cases hwp : withinP tx.data.toList s' o' with
        | inr q_ =>
          obtain ⟨p, c⟩ := q_
          rw [hwp] at hp
          obtain ⟨⟨v, rfl⟩, ⟨hc0, q, vo1, vt1, op1, o1, hq1, he, hpl, hM, ho1⟩, ht2⟩ := hp
          have HE2 : Hid (EvSt w w2 b tx q vo1 vt1 op1 o1) := HEV.out.go hq1 ht2
          have HW2 : Hid (wordsP tx.data.toList s = .inr (p, c)) := by show _ = _; rw [HWF.out, hwp]
          have HR9 : Hid (c ≠ 0 ∧ q.err = c ∧ q.place = p ∧ q.at_ ≤ tx.size ∧ o1.length ≤ 100000) := ⟨hc0, he, hpl, hM, ho1⟩
          have t9 : (q.err == 0) = false := by rw [he]; exact beq_eq_false_iff_ne.2 hc0
          clear hwp hc0 he hpl hM ho1 hq1 ht2
          go_wp2_with fail
          refine (qok_any w2 b _ tx q vo1 vt1 op1 o1 HE2.out.qd).mono ?_
          rintro e w8 ⟨rfl, hw8⟩
          obtain rfl := hw8.symm
          go_wp2
          obtain ⟨hc0, he, hpl, hM, ho1⟩ := HR9.out
          refine ⟨.inr ⟨kk, p, c, q, vo1, vt1, op1, o1, rfl, HW2.out, HE2.out, hc0, he, hpl, hM, ho1⟩, ?_⟩
          rw [HE2.out.qd.left, HLEFT.out, if_neg (by rw [he]; exact hc0)]
          omega
        | inl q_ =>
          obtain ⟨o2, s2⟩ := q_
          rw [hwp] at hp
          obtain ⟨rfl, ⟨hop2, vo1, vt1, hq1⟩, ht2⟩ := hp
          obtain ⟨g1, g2, g3⟩ := withinP_ok HOK'.out hol hwp
          have HE2 : Hid (EvSt w w2 b tx (okQ s2 (hasB o2)) vo1 vt1 op o2) := HEV.out.go hq1 ht2
          have HW2 : Hid (wordsP tx.data.toList s = wordsF tx.data.toList f s2 o2) := by show _ = _; rw [HWF.out, hwp]
          have HOK2 : Hid (Ok tx s2) := g2.ok
          have HOS2 : Hid (s2.op = s.op) := g2.op.trans HOS.out
          have hnx := qnext_any w2 b (w.heap.size + 1) tx s2 op o2 ⟨hop2, vo1, vt1, hq1⟩ g2.ok g3
          have HWN : Hid (∀ p c, nextK tx.data.toList s2 = .inr (p, c) → wordsP tx.data.toList s = .inr (p, c)) := fun p c hh => by
            obtain ⟨f, rfl⟩ : ∃ j, f = j + 1 := ⟨f - 1, by omega⟩
            rw [HW2.out, words_next _ _ _ _ (by rw [size_list]; exact g2.ok.at_), hh]
          have HG1 : Hid (s'.at_ < s2.at_) := g1
          have hg3 := g3
          clear hwp hq1 ht2 hop2 g1 g2 g3 HWF
          go_wp2_with fail
          refine (qokT HE2.out.qd).mono ?_
          rintro e w8 ⟨rfl, hw8⟩
          obtain rfl := hw8.symm
          go_wp2_with fail
          refine hnx.mono ?_
          clear hnx
          rintro e w3 ⟨ht3, hp⟩
          have HT3 : Hid (Turn (fun k => k = b ∨ w.heap.size + 1 ≤ k) w2 w3) := ht3.mono (fun k _ e => .inl e)
          cases hx : nextK tx.data.toList s2 with
          | inl q_ =>
            obtain ⟨k, s3⟩ := q_
            rw [hx] at hp
            obtain ⟨rfl, hop3, vo3, vt3, hq3⟩ := hp
            have es := nextK_same hx
            subst es
            have HE3 : Hid (EvSt w w3 b tx (okQ s3 (hasB o2)) vo3 vt3 op o2) := HE2.out.go hq3 HT3.out
            have HX : Hid (nextK tx.data.toList s3 = .inl (k, s3)) := hx
            clear hx hq3 ht3 hop3
            go_wp2
            have := HG1.out
            have := HOK2.out.at_
            refine ⟨.inl ⟨k, s3, o2, f, vo3, vt3, rfl, HX.out, HE3.out, hg3, HOK2.out, HOS2.out, HW2.out, by omega⟩, ?_⟩
            rw [HE3.out.qd.left, HLEFT.out]
            simp only [okQ, if_true]
            omega
          | inr q_ =>
            obtain ⟨p, c⟩ := q_
            rw [hx] at hp
            obtain ⟨rfl, hc0, q, vo3, vt3, op3, o3, hq3, he, hpl, hM, ho3⟩ := hp
            have HE3 : Hid (EvSt w w3 b tx q vo3 vt3 op3 o3) := HE2.out.go hq3 HT3.out
            have HR9 : Hid (c ≠ 0 ∧ q.err = c ∧ q.place = p ∧ q.at_ ≤ tx.size ∧ o3.length ≤ 100000) := ⟨hc0, he, hpl, hM, ho3⟩
            have HW3 : Hid (wordsP tx.data.toList s = .inr (p, c)) := HWN.out p c hx
            clear hx hq3 ht3 hc0 he hpl hM ho3
            go_wp2
            obtain ⟨hc0, he, hpl, hM, ho3⟩ := HR9.out
            refine ⟨.inr ⟨4, p, c, q, vo3, vt3, op3, o3, rfl, HW3.out, HE3.out, hc0, he, hpl, hM, ho3⟩, ?_⟩
            rw [HE3.out.qd.left, HLEFT.out, if_neg (by rw [he]; exact hc0)]
            omega
      · have t1 : (kk == 2) = false := beq_eq_false_iff_ne.2 hk2
        have HWO : Hid (wordsP tx.data.toList s = .inl (o', s')) := by
          show _ = _
          rw [hwf, words_next _ _ _ _ (by rw [size_list]; exact j2), hnk]
          simp only [hk2, if_false]
        obtain ⟨-, hkind⟩ := nextK_kind hnk hk2 (by rw [size_list]; exact j2)
        have t4 : (kk == 4) = false := by rcases hkind with ⟨e, -⟩ | ⟨e, -⟩ | ⟨e, -⟩ <;> rw [e] <;> rfl
        obtain ⟨ta, tcap, hvt⟩ := own_slice hev.qd.txt
        obtain ⟨oa, ocap, hvo⟩ := own_slice hev.qd.opn
        subst hvt hvo
        obtain ⟨h0, h1, h2, h3, h4, h5, h6, h7, fz, hb⟩ := hev.qd.facts
        have e1 : (okQ s' (hasB o')).at_ = s'.at_ := rfl
        rw [e1] at h1
        obtain ⟨r0, r1, r2, r3, rf, rcl⟩ := cells4 hev.res
        have hrb : w.heap.size ≠ b := by omega
        have hbr : b ≠ w.heap.size := by omega
        clear hnk hwf hk2 hrel hop' hev
        by_cases ho : o' = []
        · subst ho
          have hnil := HEV.out.qd.nl rfl
          obtain ⟨rfl, rfl⟩ : ta = none ∧ tcap = 0 := by cases hnil; exact ⟨rfl, rfl⟩
          clear hnil
          rcases hkind with ⟨rfl, hat⟩ | ⟨rfl, hat, hse⟩ | ⟨rfl, hat, hse, d, hd, hbd⟩
          · rw [size_list] at hat
            by_cases hoe : op = []
            · have t5 : ¬ (0 : Int) < (op.length : Int) := by rw [hoe]; simp
              have HG : Hid (nextQ tx.data.toList op s = .inl (.none, s')) := by
                show _ = _
                unfold nextQ
                rw [HWO.out]
                simp only [ne_eq, not_true_eq_false, if_false, size_list, hat, if_true, hoe]
              have KEY : Hid _ := HEV.out.ret 0 ⟨#[]⟩ (.slice none 0 0) ⟨#[]⟩
              have KD : Hid (QS (evW wr w.heap.size 0 ⟨#[]⟩ (.slice none 0 0) ⟨#[]⟩) b (evW wr w.heap.size 0 ⟨#[]⟩ (.slice none 0 0) ⟨#[]⟩).heap.size tx s' op []) := HEV.out.done HOP'.out rfl _ _ _ _
              clear hoe hat
              go_wp2_with fail
              refine (qokT HEV.out.qd).mono ?_
              rintro e w8 ⟨rfl, hw8⟩
              obtain rfl := hw8.symm
              go_wp2
              exact bodyPost_ret (v := evNo) (by simp [results, Tryz.results30, go_sem, evV, r0, r1, r2, r3]) rfl (NxPost.yes HG.out KEY.out.2 rfl KD.out)
            · have t5 : (0 : Int) < (op.length : Int) := by have := List.length_pos_iff.2 hoe; omega
              have HG : Hid (nextQ tx.data.toList op s = .inr (tx.size, 4)) := by
                show _ = _
                unfold nextQ
                rw [HWO.out]
                simp only [ne_eq, not_true_eq_false, if_false, size_list, hat, if_true, hoe]
              have hbad := fun (W : World) (hq : Qd W b (w.heap.size + 1) tx (okQ s' (hasB [])) (.slice oa op.length ocap) (.slice none 0 0) op []) => qbad_any W b (w.heap.size + 1) tx _ _ _ op [] hq tx.size 4
              clear hoe hat
              go_wp2_with fail
              refine (qokT HEV.out.qd).mono ?_
              rintro e w8 ⟨rfl, hw8⟩
              obtain rfl := hw8.symm
              go_wp2_with fail
              refine (hbad _ HEV.out.qd).mono ?_
              rintro e w9 ⟨rfl, hq9, ht9⟩
              have HE9 : Hid (EvSt w w9 b tx _ _ _ op []) := HEV.out.go hq9 (ht9.mono (fun k _ e => .inl e))
              have KEY : Hid _ := HE9.out.ret 0 ⟨#[]⟩ (.slice none 0 0) ⟨#[]⟩
              clear hbad hq9 ht9 r0 r1 r2 r3 rf rcl
              obtain ⟨r0, r1, r2, r3, rf, rcl⟩ := cells4 HE9.out.res
              go_wp2
              exact bodyPost_ret (v := evNo) (by simp [results, Tryz.results30, go_sem, evV, r0, r1, r2, r3]) rfl (NxPost.no HG.out KEY.out.2 ⟨by decide, _, _, _, _, _, KEY.out.1, rfl, rfl, by simp only [badQ, okQ, if_true]; omega, by simp⟩)
          · have h2l := seesP_le hse (by simp)
            rw [size_list] at h2l
            have h2l' : s'.at_ + 2 ≤ tx.size := h2l
            rw [size_list] at hat
            have HV : Hid (nextQ tx.data.toList op s = match endQ tx.data.toList op s'.at_ { s' with at_ := s'.at_ + 2 } with
                | .inr (p, e) => .inr (p, e)
                | .inl (_, s2) => .inl ((.some (.inr (.inr (op.getLast?.getD ⟨#[]⟩)))), { s2 with op := s2.op - 1 })) := by
              show _ = _
              unfold nextQ
              rw [HWO.out]
              have hne : ¬ s'.at_ = tx.size := by omega
              simp only [ne_eq, not_true_eq_false, if_false, size_list, hne, hse, if_true]
              cases endQ tx.data.toList op s'.at_ { s' with at_ := s'.at_ + 2 } <;> rfl
            have HE3 : Hid (EvSt w (wr.setCell ⟨b, 1, none⟩ (.int .i64 ((s'.at_ : Int) + 2))) b tx (okQ { s' with at_ := s'.at_ + 2 } (hasB [])) (.slice oa op.length ocap) (.slice none 0 0) op []) := HEV.out.go (HEV.out.qd.setAt _ (by simp)) ((Turn.refl _ wr).setCell (p := ⟨b, 1, none⟩) (.inl rfl) _)
            have hen := qend_any _ b (w.heap.size + 1) tx { s' with at_ := s'.at_ + 2 } op [] ⟨HOP'.out, _, _, HE3.out.qd⟩ ⟨k1, h2l', j3, j4⟩ (by simp) s'.at_
            clear hse h2l
            go_wp2_with fail
            refine (qokT HEV.out.qd).mono ?_
            rintro e w8 ⟨rfl, hw8⟩
            obtain rfl := hw8.symm
            go_wp2_with fail
            refine hen.mono ?_
            clear hen h0 h1 h2 h3 h4 h5 h6 h7 fz hb r0 r1 r2 r3 rf rcl
            intro e w4 hp
            cases hep : endQ tx.data.toList op s'.at_ { s' with at_ := s'.at_ + 2 } with
            | inr q_ =>
              obtain ⟨p, c⟩ := q_
              rw [hep] at hp
              obtain ⟨⟨v, rfl⟩, ⟨hc0, q, vo1, vt1, op1, o1, hq1, he, hpl, hM, ho1⟩, ht4⟩ := hp
              have HG : Hid (nextQ tx.data.toList op s = .inr (p, c)) := by show _ = _; rw [HV.out, hep]
              have HE4 : Hid (EvSt w w4 b tx q vo1 vt1 op1 o1) := HE3.out.go hq1 ht4
              have HR9 : Hid (c ≠ 0 ∧ q.err = c ∧ q.place = p ∧ q.at_ ≤ tx.size ∧ o1.length ≤ 100000) := ⟨hc0, he, hpl, hM, ho1⟩
              have t9 : (q.err == 0) = false := by rw [he]; exact beq_eq_false_iff_ne.2 hc0
              have KEY : Hid _ := HE4.out.ret 0 ⟨#[]⟩ (.slice none 0 0) ⟨#[]⟩
              clear hep hc0 he hpl hM ho1 hq1 ht4
              obtain ⟨r0, r1, r2, r3, rf, rcl⟩ := cells4 HE4.out.res
              go_wp2_with fail
              refine (qok_any _ b _ tx q vo1 vt1 op1 o1 HE4.out.qd).mono ?_
              rintro e w8 ⟨rfl, hw8⟩
              obtain rfl := hw8.symm
              go_wp2
              obtain ⟨hc0, he, hpl, hM, ho1⟩ := HR9.out
              exact bodyPost_ret (v := evNo) (by simp [results, Tryz.results30, go_sem, evV, r0, r1, r2, r3]) rfl (NxPost.no HG.out KEY.out.2 ⟨hc0, q, vo1, vt1, op1, o1, KEY.out.1, he, hpl, hM, ho1⟩)
            | inl q_ =>
              obtain ⟨u9, s2⟩ := q_
              rw [hep] at hp
              obtain ⟨rfl, ⟨hop2, vo1, vt1, hq1⟩, ht4⟩ := hp
              have HE5 : Hid (EvSt w w4 b tx (okQ s2 (hasB [])) vo1 vt1 op []) := HE3.out.go hq1 ht4
              have hone : op ≠ [] := by
                intro e
                unfold endQ at hep
                cases hnp : nameP tx.data.toList { s' with at_ := s'.at_ + 2 } with
                | inr q_ => obtain ⟨p, e⟩ := q_; rw [hnp] at hep; cases hep
                | inl q_ =>
                  obtain ⟨n, s1⟩ := q_
                  rw [hnp, e] at hep
                  simp at hep
              have HG : Hid (nextQ tx.data.toList op s = .inl ((.some (.inr (.inr (op.getLast?.getD ⟨#[]⟩)))), { s2 with op := s2.op - 1 })) := by show _ = _; rw [HV.out, hep]
              obtain ⟨oa1, ocap1, hvo1⟩ := own_slice HE5.out.qd.opn
              subst hvo1
              obtain ⟨g, x, hoa, hlast, hcap, hgl, hgc⟩ := last_row HE5.out.qd.opn hone
              have HLX : Hid (op.getLast?.getD ⟨#[]⟩ = x) := by show _ = _; rw [hlast]; rfl
              have HOWN : Hid (w4.ownsRow 0 9 1 (.slice oa1 op.length ocap1) op.length (op.map Value.string)) := HE5.out.qd.opn
              subst hoa
              have hopl : op.length ≤ 64 := by have := HOP'.out; omega
              obtain ⟨N, hN⟩ : ∃ N, op.length = N + 1 := ⟨op.length - 1, by have := List.length_pos_iff.2 hone; omega⟩
              have HN : Hid (op.length = N + 1) := hN
              have hNl : N ≤ 63 := by omega
              obtain ⟨h0, h1, h2, h3, h4, h5, h6, h7, fz, hb⟩ := HE5.out.qd.facts
              rw [hN] at h5 hgc hcap
              rw [Nat.add_sub_cancel] at hgc
              have HOP2 : Hid (op.length = s2.op) := hop2
              have HNN : Hid (∀ W, Below w4.heap.size w4 W → ∀ j u, ((op.take N).map Value.string)[j]? = some u → ∃ ad, some (⟨g, 0, none⟩ : Addr) = some ad ∧ W.cell? (ad.add j) = some u) := fun W hb => names_news HOWN.out hb N
              have HTL : Hid (((op.take N).map Value.string).length = N * 1) := by show _ = _; rw [List.length_map, List.length_take]; omega
              have i1 : (0 : Int) ≤ (N : Int) := by omega
              have i2 : ((N : Int) + 1) - 1 = (N : Int) := by omega
              have i3 : (N : Int) < ((N + 1 : Nat) : Int) := by omega
              have i4 : ((N + 1 : Nat) : Int) - 1 = (N : Int) := by omega
              have i5 : (N : Int) ≤ (ocap1 : Int) := by omega
              have i6 : IntKind.i64.wrap (N : Int) = (N : Int) := by rw [IntKind.wrap_i64]; omega
              clear hep hq1 ht4 hop2 hlast hN hone
              obtain ⟨r0, r1, r2, r3, rf, rcl⟩ := cells4 HE5.out.res
              go_wp2_with fail
              refine (qokT HE5.out.qd).mono ?_
              rintro e w8 ⟨rfl, hw8⟩
              obtain rfl := hw8.symm
              go_wp2
              go_region
              have HE6 : Hid (EvSt w w4.drew b tx (okQ s2 (hasB [])) (.slice (some ⟨g, 0, none⟩) op.length ocap1) vt1 op []) := HE5.out.go HE5.out.qd.drew (Turn.refl _ w4).drew
              have hgl6 : g < w4.drew.heap.size := hgl
              replace HNN : Hid (∀ W, Below w4.drew.heap.size w4.drew W → ∀ j u, ((op.take N).map Value.string)[j]? = some u → ∃ ad, some (⟨g, 0, none⟩ : Addr) = some ad ∧ W.cell? (ad.add j) = some u) := fun W hb => HNN.out W ((Below.refl _ w4).drew.trans hb)
              clear h0 h1 h2 h3 h4 h5 h6 h7 fz hb r0 r1 r2 r3 rf rcl HE5 HOWN hgc hgl
              generalize w4.drew = w5 at *
              obtain ⟨h0, h1, h2, h3, h4, h5, h6, h7, fz, hb⟩ := HE6.out.qd.facts
              rw [HN.out] at h5
              have hbl : b < w5.heap.size := hb
              have HB0 : Hid (Below w5.heap.size w5 ((w5.alloc (.cells #[] 9)).drew)) := ((Below.refl _ w5).alloc (Nat.le_refl _) _).drew
              have tok1 : True := trivial
              go_wp2_with fail
              go_region_law
                (first
                  | (have _t := tok1; refine step_app (by rfl) _ _ (by rfl) Tryz.underlying46 infoS rfl (by decide) w5.heap.size (.slice (some ⟨w5.heap.size, 0, none⟩) 0 0) 0 [] (by rfl) (by exact own_of_block (own_new w5 9 1) (fun _ _ => rfl)) (some ⟨g, 0, none⟩) N ocap1 ((op.take N).map Value.string) (by rfl) HTL.out (HNN.out _ HB0.out) (names_one _) (by unfold maxLen; omega) (by omega) (by simp) ?_; intro v1 w6 hown1 hg1 _ hat1; obtain ⟨va1, vc1, hv1⟩ := own_slice hown1; subst hv1; rw [Nat.zero_add, List.nil_append] at hown1; rw [Nat.zero_add]; have HO1 : Hid (w6.ownsRow w5.heap.size 9 1 (.slice va1 N vc1) N ((op.take N).map Value.string)) := hown1; have HB6 : Hid (Below w5.heap.size w5 w6) := HB0.out.grown hg1 (by simp) (fun k hk => by simp only [Value.ownBlock, Option.some.injEq] at hk; omega); have hh6 : w6.cell? ⟨b, 5, none⟩ = some (.slice (some ⟨g, 0, none⟩) (N + 1) ocap1) := (HB6.out.cell (p := ⟨b, 5, none⟩) hbl).trans h5; have hf6 : w6.frozen? ⟨b, 5, none⟩ = false := (HB6.out.frozen (p := ⟨b, 5, none⟩) hbl).trans (fz 5); have hb6 : b < w6.heap.size := Nat.lt_of_lt_of_le hbl HB6.out.size; clear hown1 hg1 hat1 tok1 _t))
              all_goals
                have HQ7 : Hid (Qd w6 b (w.heap.size + 1) tx (okQ s2 (hasB [])) (.slice (some ⟨g, 0, none⟩) op.length ocap1) vt1 op []) := HE6.out.qd.below HB6.out
                have hne2 : (Value.slice va1 N vc1).ownBlock ≠ some b := fun e => by have := (own_block_lt HO1.out b e).1; omega
                have hopp : op.dropLast.length = N := by rw [List.length_dropLast, HN.out]; rfl
                have hown0 : w6.ownsRow 0 9 1 (.slice va1 N vc1) op.dropLast.length (op.dropLast.map Value.string) := by
                  rw [hopp, List.dropLast_eq_take, HN.out]
                  exact own_base HO1.out (fun k hk => Nat.zero_le _)
                have HQ8 : Hid (Qd (w6.setCell ⟨b, 5, none⟩ (.slice va1 N vc1)) b w6.heap.size tx (okQ { s2 with op := s2.op - 1 } false) (.slice va1 N vc1) vt1 op.dropLast []) := HQ7.out.opens hown0 hne2
                have HR8 : Hid ((w6.setCell ⟨b, 5, none⟩ (.slice va1 N vc1)).heap[w.heap.size]? = some (.cells #[.int .i64 0, .string ⟨#[]⟩, .slice none 0 0, .string ⟨#[]⟩] 66 (0, 0))) := (Below.heap_setCell _ _ _ _ hrb).trans ((HB6.out.block _ (Array.getElem?_eq_some_iff.1 HE6.out.res).1).trans HE6.out.res)
                have HT8 : Hid (Turn (fun k => k = b) w (w6.setCell ⟨b, 5, none⟩ (.slice va1 N vc1))) := (HE6.out.tb.then HB6.out HE6.out.tb.size).setCell (p := ⟨b, 5, none⟩) rfl _
                have HOP8 : Hid (op.dropLast.length = ({ s2 with op := s2.op - 1 } : St).op) := by show _ = _; rw [hopp]; have := HOP2.out; have := HN.out; simp only; omega
                clear hown0 hopp hne2 HQ7 HB6 HO1 HB0 HNN h0 h1 h2 h3 h4 h5 h6 h7 fz hb
                clear hh6 hf6 hb6
                generalize (w6.setCell ⟨b, 5, none⟩ (.slice va1 N vc1)) = w9 at *
                obtain ⟨r0, r1, r2, r3, rf, rcl⟩ := cells4 HR8.out
                have KQ : Hid _ := HQ8.out.ev HR8.out hbr 3 x (.slice none 0 0) ⟨#[]⟩
                have KT : Hid (Turn (fun k => k = b) w (evW w9 w.heap.size 3 x (.slice none 0 0) ⟨#[]⟩)) := by
                  unfold evW
                  exact (((HT8.out.setNew (p := ⟨w.heap.size, 0, none⟩) (Nat.le_refl _) _).setNew (p := ⟨w.heap.size, 1, none⟩) (Nat.le_refl _) _).setNew (p := ⟨w.heap.size, 2, none⟩) (Nat.le_refl _) _).setNew (p := ⟨w.heap.size, 3, none⟩) (Nat.le_refl _) _
                go_wp2
                exact bodyPost_ret (v := evV 3 x (.slice none 0 0) ⟨#[]⟩ false true) (by simp [results, Tryz.results30, go_sem, evV, r0, r1, r2, r3]) rfl (NxPost.yes HG.out KT.out (by rw [HLX.out]; rfl) ⟨HOP8.out, _, _, KQ.out⟩)
          · rw [size_list] at hat
            have ge := get_some hat
            rw [ge] at hd
            have hbeg : beginB (tx[s'.at_ + 1]'hat).toNat = true := by cases hd; exact hbd
            have hbg := qbegins_any wr b (w.heap.size + 1) tx s' op [] (hasB []) _ _ HEV.out.qd HOP'.out HOK'.out s'.at_
            have HV : Hid (nextQ tx.data.toList op s = match beginP s' s'.at_ with
                | .inr (p, e) => .inr (p, e)
                | .inl (_, s2) => match tagQ tx.data.toList { s2 with at_ := s2.at_ + 1 } with
                  | .inr (p, e) => .inr (p, e)
                  | .inl (r, s3) => .inl ((.some (.inr (.inl (r.1, r.2.1, r.2.2)))), (if r.2.2 then s3 else { s3 with op := s3.op + 1 }))) := by
              show _ = _
              unfold nextQ
              rw [HWO.out]
              have hne : ¬ s'.at_ = tx.size := by omega
              simp only [ne_eq, not_true_eq_false, if_false, size_list, hne, hse, Bool.false_eq_true]
              cases beginP s' s'.at_ with
              | inr q_ => obtain ⟨p, e⟩ := q_; rfl
              | inl q_ =>
                obtain ⟨u, s2⟩ := q_
                simp only
                cases tagQ tx.data.toList { s2 with at_ := s2.at_ + 1 } <;> rfl
            clear hd hbd hse ge
            go_wp2_with fail
            refine (qokT HEV.out.qd).mono ?_
            rintro e w8 ⟨rfl, hw8⟩
            obtain rfl := hw8.symm
            go_wp2_with fail
            refine hbg.mono ?_
            clear hbg
            rintro e w2 ⟨rfl, ht2, hp⟩
            have HT2 : Hid (Turn (fun k => k = b ∨ w.heap.size + 1 ≤ k) wr w2) := ht2.mono (fun k _ e => .inl e)
            cases hbp : beginP s' s'.at_ with
            | inr q_ =>
              obtain ⟨p, c⟩ := q_
              rw [hbp] at hp
              have HG : Hid (nextQ tx.data.toList op s = .inr (p, c)) := by show _ = _; rw [HV.out, hbp]
              have hcp : c = 2 ∧ p = s'.at_ := by
                unfold beginP at hbp
                split at hbp
                · cases hbp; exact ⟨rfl, rfl⟩
                · cases hbp
              obtain ⟨rfl, rfl⟩ := hcp
              have HE2 : Hid (EvSt w w2 b tx { okQ s' (hasB []) with place := s'.at_, err := 2 } (.slice oa op.length ocap) (.slice none 0 0) op []) := HEV.out.go hp HT2.out
              have KEY : Hid _ := HE2.out.ret 0 ⟨#[]⟩ (.slice none 0 0) ⟨#[]⟩
              have t9 : ((2 : Int) == 0) = false := rfl
              clear hp ht2 hbp r0 r1 r2 r3 rf rcl
              obtain ⟨r0, r1, r2, r3, rf, rcl⟩ := cells4 HE2.out.res
              go_wp2_with fail
              refine (qok_any w2 b _ tx _ _ _ op [] HE2.out.qd).mono ?_
              rintro e w8 ⟨rfl, hw8⟩
              obtain rfl := hw8.symm
              go_wp2
              exact bodyPost_ret (v := evNo) (by simp [results, Tryz.results30, go_sem, evV, r0, r1, r2, r3]) rfl (NxPost.no HG.out KEY.out.2 ⟨by decide, _, _, _, _, _, KEY.out.1, rfl, rfl, by simp only [okQ]; omega, by simp⟩)
            | inl q_ =>
              obtain ⟨u2, s2⟩ := q_
              rw [hbp] at hp
              obtain ⟨es2, hn2, hn2b⟩ := beginP_ok hbp
              have HE2 : Hid (EvSt w w2 b tx (okQ s2 (hasB [])) (.slice oa op.length ocap) (.slice none 0 0) op []) := HEV.out.go hp HT2.out
              have HS2 : Hid (s2.at_ = s'.at_ ∧ s2.op = s'.op ∧ s2.nodes = s'.nodes + 1) := by subst es2; exact ⟨rfl, rfl, rfl⟩
              have HE3 : Hid (EvSt w (w2.setCell ⟨b, 1, none⟩ (.int .i64 ((s2.at_ : Int) + 1))) b tx (okQ { s2 with at_ := s2.at_ + 1 } (hasB [])) (.slice oa op.length ocap) (.slice none 0 0) op []) := HE2.out.go (HE2.out.qd.setAt _ (by simp)) ((Turn.refl _ w2).setCell (p := ⟨b, 1, none⟩) (.inl rfl) _)
              have hok3 : Ok tx { s2 with at_ := s2.at_ + 1 } := by
                obtain ⟨q1, q2, q3⟩ := HS2.out
                exact ⟨k1, by simp only; omega, by simp only; omega, by simp only; omega⟩
              have hat2 : s2.at_ + 1 < tx.size := by have := HS2.out.1; omega
              have hbeg2 : beginB (tx[s2.at_ + 1]'hat2).toNat = true := by
                have := HS2.out.1
                simp only [this]
                exact hbeg
              have hta := qtag_any _ b (w.heap.size + 1) tx { s2 with at_ := s2.at_ + 1 } op [] ⟨HOP'.out.trans HS2.out.2.1.symm, _, _, HE3.out.qd⟩ hok3 (by simp) hat2 hbeg2
              have HBP : Hid (beginP s' s'.at_ = .inl (u2, s2)) := hbp
              have hs2b : s2.at_ ≤ 262144 := by omega
              clear hp ht2 hbp es2 hok3 hbeg2 hbeg h0 h1 h2 h3 h4 h5 h6 h7 fz hb r0 r1 r2 r3 rf rcl
              obtain ⟨h0, h1, h2, h3, h4, h5, h6, h7, fz, hb⟩ := HE2.out.qd.facts
              have e2 : (okQ s2 (hasB [])).at_ = s2.at_ := rfl
              rw [e2] at h1
              go_wp2_with fail
              refine (qokT HE2.out.qd).mono ?_
              rintro e w8 ⟨rfl, hw8⟩
              obtain rfl := hw8.symm
              go_wp2_with fail
              refine hta.mono ?_
              clear hta
              rintro e w4 ⟨hp, nn, va, vn, vc, em, rfl⟩
              cases htp : tagQ tx.data.toList { s2 with at_ := s2.at_ + 1 } with
              | inr q_ =>
                obtain ⟨p, c⟩ := q_
                rw [htp] at hp
                obtain ⟨-, ⟨hc0, q, vo1, vt1, op1, o1, hq1, he, hpl, hM, ho1⟩, ht4⟩ := hp
                have HG : Hid (nextQ tx.data.toList op s = .inr (p, c)) := by show _ = _; rw [HV.out, HBP.out]; simp only [htp]
                have HE4 : Hid (EvSt w w4 b tx q vo1 vt1 op1 o1) := HE3.out.go hq1 (ht4.mono (fun k _ e => .inl e))
                have HE5 : Hid (EvSt w (w4.alloc (.cells #[.string nn, .slice va vn vc, .bool em] 81)) b tx q vo1 vt1 op1 o1) := HE4.out.alloc _
                have HR9 : Hid (c ≠ 0 ∧ q.err = c ∧ q.place = p ∧ q.at_ ≤ tx.size ∧ o1.length ≤ 100000) := ⟨hc0, he, hpl, hM, ho1⟩
                have t9 : (q.err == 0) = false := by rw [he]; exact beq_eq_false_iff_ne.2 hc0
                have KEY : Hid _ := HE5.out.ret 0 ⟨#[]⟩ (.slice none 0 0) ⟨#[]⟩
                clear htp hc0 he hpl hM ho1 hq1 ht4 h0 h1 h2 h3 h4 h5 h6 h7 fz hb
                obtain ⟨r0, r1, r2, r3, rf, rcl⟩ := cells4 HE5.out.res
                go_wp2_with fail
                refine (qok_any _ b _ tx q vo1 vt1 op1 o1 HE5.out.qd).mono ?_
                rintro e w8 ⟨rfl, hw8⟩
                obtain rfl := hw8.symm
                go_wp2
                obtain ⟨hc0, he, hpl, hM, ho1⟩ := HR9.out
                exact bodyPost_ret (v := evNo) (by simp [results, Tryz.results30, go_sem, evV, r0, r1, r2, r3]) rfl (NxPost.no HG.out KEY.out.2 ⟨hc0, q, vo1, vt1, op1, o1, KEY.out.1, he, hpl, hM, ho1⟩)
              | inl q_ =>
                obtain ⟨r, s3⟩ := q_
                rw [htp] at hp
                obtain ⟨⟨hD, hL32, la, lcap, hv, hown⟩, ⟨hop3, vo1, vt1, hq1⟩, ht4⟩ := hp
                obtain ⟨rn, ra, rem⟩ := r
                obtain ⟨rfl, rfl, rfl, rfl, rfl⟩ : nn = ba rn ∧ va = la ∧ vn = ra.length ∧ vc = lcap ∧ em = rem := by cases hv; exact ⟨rfl, rfl, rfl, rfl, rfl⟩
                have HG : Hid (nextQ tx.data.toList op s = .inl ((.some (.inr (.inl (rn, ra, em)))), (if em then s3 else { s3 with op := s3.op + 1 }))) := by show _ = _; rw [HV.out, HBP.out]; simp only [htp]
                have HE4 : Hid (EvSt w w4 b tx (okQ s3 (hasB [])) vo1 vt1 op []) := HE3.out.go hq1 (ht4.mono (fun k _ e => .inl e))
                have HE5 : Hid (EvSt w (w4.alloc (.cells #[.string (ba rn), .slice va ra.length vc, .bool em] 81)) b tx (okQ s3 (hasB [])) vo1 vt1 op []) := HE4.out.alloc _
                have hz : w.heap.size + 1 ≤ (w2.setCell ⟨b, 1, none⟩ (.int .i64 ((s2.at_ : Int) + 1))).heap.size := HE3.out.qd.leB
                have HDL : Hid (Dist ra ∧ ra.length ≤ 32) := ⟨hD, hL32⟩
                have HO5 : Hid ((w4.alloc (.cells #[.string (ba rn), .slice va ra.length vc, .bool em] 81)).ownsRow (w.heap.size + 1) 84 2 (.slice va ra.length vc) ra.length (attrCells ra)) := own_base (own_of_block hown (fun k hk => Below.heap_alloc _ _ _ (own_block_lt hown k hk).2)) (fun k hk => Nat.le_trans hz (own_block_lt hown k hk).1)
                have HC5 : Hid ((w4.alloc (.cells #[.string (ba rn), .slice va ra.length vc, .bool em] 81)).heap[w4.heap.size]? = some (.cells #[.string (ba rn), .slice va ra.length vc, .bool em] 81 (0, 0))) := heap_alloc_new w4 _
                have hcr : w.heap.size < w4.heap.size := Nat.lt_of_lt_of_le (Nat.lt_of_succ_le hz) ht4.size
                have HOP3 : Hid (op.length = s3.op) := hop3
                clear htp hq1 ht4 hown hv hD hL32 hop3 h0 h1 h2 h3 h4 h5 h6 h7 fz hb
                go_wp2_with fail
                generalize hw5 : (w4.alloc (.cells #[.string (ba rn), .slice va ra.length vc, .bool em] 81)) = w5 at *
                have hc5l : w4.heap.size < w5.heap.size := by rw [← hw5]; simp
                clear hw5
                obtain ⟨c, hc⟩ : ∃ c, c = w4.heap.size := ⟨_, rfl⟩
                rw [← hc] at hcr HC5 hc5l ⊢
                clear hc
                obtain ⟨c0, c1, c2, cf, ccl⟩ := cells3 HC5.out
                obtain ⟨r0, r1, r2, r3, rf, rcl⟩ := cells4 HE5.out.res
                have hcr' : w.heap.size ≠ c := by omega
                have hcr2 : c ≠ w.heap.size := by omega
                have hcb : c ≠ b := by omega
                have hcb2 : b ≠ c := by omega
                refine (qokT HE5.out.qd).mono ?_
                rintro e w8 ⟨rfl, hw8⟩
                obtain rfl := hw8.symm
                cases em with
                | true =>
                  have KEY : Hid _ := HE5.out.ret 1 (ba rn) (.slice va ra.length vc) ⟨#[]⟩
                  have KD : Hid _ := HE5.out.done HOP3.out rfl 1 (ba rn) (.slice va ra.length vc) ⟨#[]⟩
                  have KO : Hid ((evW w5 w.heap.size 1 (ba rn) (.slice va ra.length vc) ⟨#[]⟩).ownsRow w.heap.size 84 2 (.slice va ra.length vc) ra.length (attrCells ra)) := own_base (own_of_block HO5.out (fun k hk => evW_other _ _ _ _ _ _ _ (by have := (own_block_lt HO5.out k hk).1; omega))) (fun k hk => by have := (own_block_lt HO5.out k hk).1; omega)
                  go_wp2
                  go_region
                  go_wp2
                  exact bodyPost_ret (v := evV 1 (ba rn) (.slice va ra.length vc) ⟨#[]⟩ true true) (by simp [results, Tryz.results30, go_sem, evV, r0, r1, r2, r3]) rfl (NxPost.yes HG.out KEY.out.2.drew ⟨HDL.out.1, HDL.out.2, va, vc, rfl, KO.out.drew⟩ ⟨KD.out.1, _, _, KD.out.2.choose_spec.choose_spec.drew⟩)
                | false =>
                  obtain ⟨oa1, ocap1, hvo1⟩ := own_slice HE5.out.qd.opn
                  subst hvo1
                  obtain ⟨h0, h1, h2, h3, h4, h5, h6, h7, fz, hb⟩ := HE5.out.qd.facts
                  have HB0 : Hid (Below w5.heap.size w5 ((w5.alloc (.cells #[] 9)).drew)) := ((Below.refl _ w5).alloc (Nat.le_refl _) _).drew
                  have HNN : Hid (∀ W, Below w5.heap.size w5 W → ∀ j u, (op.map Value.string)[j]? = some u → ∃ ad, oa1 = some ad ∧ W.cell? (ad.add j) = some u) := fun W hb j u hu => names_news HE5.out.qd.opn hb op.length j u (by rw [List.take_length]; exact hu)
                  have hopl : op.length ≤ 64 := by have := HOP'.out; omega
                  have hbl : b < w5.heap.size := hb
                  have tok1 : True := trivial
                  have tok2 : True := trivial
                  obtain ⟨⟨bw2, ow2, xw2, xl2⟩, bw3, ow3, xw3, xl3⟩ := two_rows w5 (ba rn)
                  have HW2 : Hid _ := (And.intro bw2 (And.intro ow2 (And.intro xw2 xl2)))
                  have HW3 : Hid _ := (And.intro bw3 (And.intro ow3 (And.intro xw3 xl3)))
                  clear bw2 ow2 xw2 xl2 bw3 ow3 xw3 xl3
                  go_upto_region 23 with fail
                  go_cut [] (fun wx => Opened w wx b tx { s3 with op := s3.op + 1 } (op ++ [ba rn]) rn va ra vc c)
                  case first =>
                   go_region_law
                     (first
                      | (have _t := tok1; refine step_app (by rfl) _ _ (by rfl) Tryz.underlying46 infoS rfl (by decide) w5.heap.size (.slice (some ⟨w5.heap.size, 0, none⟩) 0 0) 0 [] (by rfl) (by exact own_of_block (own_new w5 9 1) (fun _ _ => rfl)) oa1 op.length ocap1 (op.map Value.string) (by rfl) (by simp) (HNN.out _ HB0.out) (names_one _) (by unfold maxLen; omega) (by omega) (by simp; try omega) ?_; intro v1 w6 hown1 hg1 _ hat1; obtain ⟨va1, vc1, hv1⟩ := own_slice hown1; subst hv1; rw [Nat.zero_add, List.nil_append] at hown1; rw [Nat.zero_add]; have HO1 : Hid (w6.ownsRow w5.heap.size 9 1 (.slice va1 op.length vc1) op.length (op.map Value.string)) := hown1; have HB6 : Hid (Below w5.heap.size w5 w6) := HB0.out.grown hg1 (by simp; try omega) (fun k hk => by simp only [Value.ownBlock, Option.some.injEq] at hk; omega); have hh6 : w6.cell? ⟨b, 5, none⟩ = some (.slice oa1 op.length ocap1) := (HB6.out.cell (p := ⟨b, 5, none⟩) hbl).trans h5; have hc6 : w6.cell? ⟨c, 0, none⟩ = some (.string (ba rn)) := (HB6.out.cell (p := ⟨c, 0, none⟩) ccl).trans c0; clear hown1 hg1 hat1 tok1 _t)
                      | (have _t := tok1; refine step_app (by rfl) _ _ (by rfl) Tryz.underlying46 infoS rfl (by decide) w5.heap.size (.slice (some ⟨w5.heap.size, 0, none⟩) 0 0) 0 [] (by rfl) (HW2.out.2.1) oa1 op.length ocap1 (op.map Value.string) (by rfl) (by simp) (HNN.out _ HW2.out.1) (names_one _) (by unfold maxLen; omega) (by omega) (by simp; try omega) ?_; intro v1 w6 hown1 hg1 _ hat1; obtain ⟨va1, vc1, hv1⟩ := own_slice hown1; subst hv1; rw [Nat.zero_add, List.nil_append] at hown1; rw [Nat.zero_add]; have HO1 : Hid (w6.ownsRow w5.heap.size 9 1 (.slice va1 op.length vc1) op.length (op.map Value.string)) := hown1; have HB6 : Hid (Below w5.heap.size w5 w6) := HW2.out.1.grown hg1 (by simp; try omega) (fun k hk => by simp only [Value.ownBlock, Option.some.injEq] at hk; omega); have hh6 : w6.cell? ⟨b, 5, none⟩ = some (.slice oa1 op.length ocap1) := (HB6.out.cell (p := ⟨b, 5, none⟩) hbl).trans h5; have hc6 : w6.cell? ⟨c, 0, none⟩ = some (.string (ba rn)) := (HB6.out.cell (p := ⟨c, 0, none⟩) ccl).trans c0; have hx6 : Hid (w6.cell? ⟨w5.heap.size + 1, 0, none⟩ = some (.string (ba rn))) := grown_cell hg1 HW2.out.2.2.1 HW2.out.2.2.2 (by simp [Value.ownBlock]); clear hown1 hg1 hat1 tok1 _t)
                      | (have _t := tok1; refine step_app (by rfl) _ _ (by rfl) Tryz.underlying46 infoS rfl (by decide) w5.heap.size (.slice (some ⟨w5.heap.size + 1, 0, none⟩) 0 0) 0 [] (by rfl) (HW3.out.2.1) oa1 op.length ocap1 (op.map Value.string) (by rfl) (by simp) (HNN.out _ HW3.out.1) (names_one _) (by unfold maxLen; omega) (by omega) (by simp; try omega) ?_; intro v1 w6 hown1 hg1 _ hat1; obtain ⟨va1, vc1, hv1⟩ := own_slice hown1; subst hv1; rw [Nat.zero_add, List.nil_append] at hown1; rw [Nat.zero_add]; have HO1 : Hid (w6.ownsRow w5.heap.size 9 1 (.slice va1 op.length vc1) op.length (op.map Value.string)) := hown1; have HB6 : Hid (Below w5.heap.size w5 w6) := HW3.out.1.grown hg1 (by simp; try omega) (fun k hk => by simp only [Value.ownBlock, Option.some.injEq] at hk; omega); have hh6 : w6.cell? ⟨b, 5, none⟩ = some (.slice oa1 op.length ocap1) := (HB6.out.cell (p := ⟨b, 5, none⟩) hbl).trans h5; have hc6 : w6.cell? ⟨c, 0, none⟩ = some (.string (ba rn)) := (HB6.out.cell (p := ⟨c, 0, none⟩) ccl).trans c0; have hx6 : Hid (w6.cell? ⟨w5.heap.size, 0, none⟩ = some (.string (ba rn))) := grown_cell hg1 HW3.out.2.2.1 HW3.out.2.2.2 (by simp [Value.ownBlock]); clear hown1 hg1 hat1 tok1 _t)
                      | (have _t := tok2; refine step_app (by rfl) _ _ (by rfl) Tryz.underlying46 infoS rfl (by decide) w5.heap.size (.slice va1 op.length vc1) op.length (op.map Value.string) (by rfl) (by exact owns_below HO1.out ((Below.refl _ w6).alloc (Nat.le_refl _) _)) (some ⟨w6.heap.size, 0, none⟩) 1 1 [.string (ba rn)] (by rfl) (by rfl) (one_news w6 (ba rn)) (by simp [Value.oneCell']) (by unfold maxLen; omega) (by omega) (by exact Nat.le_trans HB6.out.size (by simp)) ?_; intro v2 w7 hown2 hg2 _ hat2; obtain ⟨va2, vc2, hv2⟩ := own_slice hown2; subst hv2; have HO2 : Hid (w7.ownsRow w5.heap.size 9 1 (.slice va2 (op.length + 1) vc2) (op.length + 1) (op.map Value.string ++ [.string (ba rn)])) := hown2; have HB7 : Hid (Below w5.heap.size w5 w7) := (HB6.out.alloc HB6.out.size (.cells #[.string (ba rn)] 9)).grown hg2 (Nat.le_trans HB6.out.size (by simp)) (fun k hk => (own_block_lt HO1.out k hk).1); have hh7 : w7.cell? ⟨b, 5, none⟩ = some (.slice oa1 op.length ocap1) := (HB7.out.cell (p := ⟨b, 5, none⟩) hbl).trans h5; have hc7 : w7.cell? ⟨c, 0, none⟩ = some (.string (ba rn)) := (HB7.out.cell (p := ⟨c, 0, none⟩) ccl).trans c0; have hf7 : w7.frozen? ⟨b, 5, none⟩ = false := (HB7.out.frozen (p := ⟨b, 5, none⟩) hbl).trans (fz 5); have hb7 : b < w7.heap.size := Nat.lt_of_lt_of_le hbl HB7.out.size; clear hown2 hg2 hat2 tok2 _t)
                      | (have _t := tok2; refine step_app (by rfl) _ _ (by rfl) Tryz.underlying46 infoS rfl (by decide) w5.heap.size (.slice va1 op.length vc1) op.length (op.map Value.string) (by rfl) (HO1.out) (some ⟨w5.heap.size + 1, 0, none⟩) 1 1 [.string (ba rn)] (by rfl) (by rfl) (one_at hx6.out) (by simp [Value.oneCell']) (by unfold maxLen; omega) (by omega) (HB6.out.size) ?_; intro v2 w7 hown2 hg2 _ hat2; obtain ⟨va2, vc2, hv2⟩ := own_slice hown2; subst hv2; have HO2 : Hid (w7.ownsRow w5.heap.size 9 1 (.slice va2 (op.length + 1) vc2) (op.length + 1) (op.map Value.string ++ [.string (ba rn)])) := hown2; have HB7 : Hid (Below w5.heap.size w5 w7) := (HB6.out).grown hg2 (HB6.out.size) (fun k hk => (own_block_lt HO1.out k hk).1); have hh7 : w7.cell? ⟨b, 5, none⟩ = some (.slice oa1 op.length ocap1) := (HB7.out.cell (p := ⟨b, 5, none⟩) hbl).trans h5; have hc7 : w7.cell? ⟨c, 0, none⟩ = some (.string (ba rn)) := (HB7.out.cell (p := ⟨c, 0, none⟩) ccl).trans c0; have hf7 : w7.frozen? ⟨b, 5, none⟩ = false := (HB7.out.frozen (p := ⟨b, 5, none⟩) hbl).trans (fz 5); have hb7 : b < w7.heap.size := Nat.lt_of_lt_of_le hbl HB7.out.size; clear hown2 hg2 hat2 tok2 _t)
                      | (have _t := tok2; refine step_app (by rfl) _ _ (by rfl) Tryz.underlying46 infoS rfl (by decide) w5.heap.size (.slice va1 op.length vc1) op.length (op.map Value.string) (by rfl) (HO1.out) (some ⟨w5.heap.size, 0, none⟩) 1 1 [.string (ba rn)] (by rfl) (by rfl) (one_at hx6.out) (by simp [Value.oneCell']) (by unfold maxLen; omega) (by omega) (HB6.out.size) ?_; intro v2 w7 hown2 hg2 _ hat2; obtain ⟨va2, vc2, hv2⟩ := own_slice hown2; subst hv2; have HO2 : Hid (w7.ownsRow w5.heap.size 9 1 (.slice va2 (op.length + 1) vc2) (op.length + 1) (op.map Value.string ++ [.string (ba rn)])) := hown2; have HB7 : Hid (Below w5.heap.size w5 w7) := (HB6.out).grown hg2 (HB6.out.size) (fun k hk => (own_block_lt HO1.out k hk).1); have hh7 : w7.cell? ⟨b, 5, none⟩ = some (.slice oa1 op.length ocap1) := (HB7.out.cell (p := ⟨b, 5, none⟩) hbl).trans h5; have hc7 : w7.cell? ⟨c, 0, none⟩ = some (.string (ba rn)) := (HB7.out.cell (p := ⟨c, 0, none⟩) ccl).trans c0; have hf7 : w7.frozen? ⟨b, 5, none⟩ = false := (HB7.out.frozen (p := ⟨b, 5, none⟩) hbl).trans (fz 5); have hb7 : b < w7.heap.size := Nat.lt_of_lt_of_le hbl HB7.out.size; clear hown2 hg2 hat2 tok2 _t))
                   all_goals
                    have HQ7 : Hid (Qd w7 b (w.heap.size + 1) tx (okQ s3 (hasB [])) (.slice oa1 op.length ocap1) vt1 op []) := HE5.out.qd.below HB7.out
                    have hne2 : (Value.slice va2 (op.length + 1) vc2).ownBlock ≠ some b := fun e => by have := (own_block_lt HO2.out b e).1; omega
                    have hopp : (op ++ [ba rn]).length = op.length + 1 := by simp
                    have hown0 : w7.ownsRow 0 9 1 (.slice va2 (op.length + 1) vc2) (op ++ [ba rn]).length ((op ++ [ba rn]).map Value.string) := by
                      rw [hopp, List.map_append]
                      exact own_base HO2.out (fun k hk => Nat.zero_le _)
                    have HQ8 : Hid (Qd (w7.setCell ⟨b, 5, none⟩ (.slice va2 (op.length + 1) vc2)) b w7.heap.size tx (okQ { s3 with op := s3.op + 1 } false) (.slice va2 (op.length + 1) vc2) vt1 (op ++ [ba rn]) []) := HQ7.out.opens hown0 hne2
                    have hblk : ∀ k, k < w5.heap.size → k ≠ b → (w7.setCell ⟨b, 5, none⟩ (.slice va2 (op.length + 1) vc2)).heap[k]? = w5.heap[k]? := fun k hk hkb => (Below.heap_setCell _ _ _ _ hkb).trans (HB7.out.block k hk)
                    have HC8 : Hid ((w7.setCell ⟨b, 5, none⟩ (.slice va2 (op.length + 1) vc2)).heap[c]? = some (.cells #[.string (ba rn), .slice va ra.length vc, .bool false] 81 (0, 0))) := (hblk c ccl hcb).trans HC5.out
                    have HR8 : Hid ((w7.setCell ⟨b, 5, none⟩ (.slice va2 (op.length + 1) vc2)).heap[w.heap.size]? = some (.cells #[.int .i64 0, .string ⟨#[]⟩, .slice none 0 0, .string ⟨#[]⟩] 66 (0, 0))) := (hblk _ rcl hrb).trans HE5.out.res
                    have HO8 : Hid ((w7.setCell ⟨b, 5, none⟩ (.slice va2 (op.length + 1) vc2)).ownsRow (w.heap.size + 1) 84 2 (.slice va ra.length vc) ra.length (attrCells ra)) := own_of_block HO5.out (fun k hk => hblk k (own_block_lt HO5.out k hk).2 (by have := (own_block_lt HO5.out k hk).1; omega))
                    have HT8 : Hid (Turn (fun k => k = b) w (w7.setCell ⟨b, 5, none⟩ (.slice va2 (op.length + 1) vc2))) := (HE5.out.tb.then HB7.out HE5.out.tb.size).setCell (p := ⟨b, 5, none⟩) rfl _
                    skip
                    clear hblk hown0 hopp hne2
                    go_wp2_with fail
                    go_meet
                    exact ⟨⟨_, _, _, HQ8.out⟩, HC8.out, HR8.out, HO8.out, HT8.out⟩
                  case rest =>
                   obtain ⟨⟨B9, vo9, vt9, hq8⟩, hc8, hr8, ho8, ht8⟩ := hcut
                   have HQ8 : Hid (Qd wc b B9 tx (okQ { s3 with op := s3.op + 1 } false) vo9 vt9 (op ++ [ba rn]) []) := hq8
                   have HC8 : Hid (wc.heap[c]? = some (.cells #[.string (ba rn), .slice va ra.length vc, .bool false] 81 (0, 0))) := hc8
                   have HR8 : Hid (wc.heap[w.heap.size]? = some (.cells #[.int .i64 0, .string ⟨#[]⟩, .slice none 0 0, .string ⟨#[]⟩] 66 (0, 0))) := hr8
                   have HO8 : Hid (wc.ownsRow (w.heap.size + 1) 84 2 (.slice va ra.length vc) ra.length (attrCells ra)) := ho8
                   have HT8 : Hid (Turn (fun k => k = b) w wc) := ht8
                   have HOP8 : Hid ((op ++ [ba rn]).length = ({ s3 with op := s3.op + 1 } : St).op) := by show _ = _; rw [List.length_append, HOP3.out]; rfl
                   clear hq8 hc8 hr8 ho8 ht8 h0 h1 h2 h3 h4 h5 h6 h7 fz hb c0 c1 c2 cf ccl r0 r1 r2 r3 rf rcl HNN HB0 HW2 HW3
                   obtain ⟨c0, c1, c2, cf, ccl⟩ := cells3 HC8.out
                   obtain ⟨r0, r1, r2, r3, rf, rcl⟩ := cells4 HR8.out
                   have KQ : Hid _ := HQ8.out.ev HR8.out hbr 1 (ba rn) (.slice va ra.length vc) ⟨#[]⟩
                   have KT : Hid (Turn (fun k => k = b) w (evW wc w.heap.size 1 (ba rn) (.slice va ra.length vc) ⟨#[]⟩)) := by
                     unfold evW
                     exact (((HT8.out.setNew (p := ⟨w.heap.size, 0, none⟩) (Nat.le_refl _) _).setNew (p := ⟨w.heap.size, 1, none⟩) (Nat.le_refl _) _).setNew (p := ⟨w.heap.size, 2, none⟩) (Nat.le_refl _) _).setNew (p := ⟨w.heap.size, 3, none⟩) (Nat.le_refl _) _
                   have KO : Hid ((evW wc w.heap.size 1 (ba rn) (.slice va ra.length vc) ⟨#[]⟩).ownsRow w.heap.size 84 2 (.slice va ra.length vc) ra.length (attrCells ra)) := own_base (own_of_block HO8.out (fun k hk => evW_other _ _ _ _ _ _ _ (by have := (own_block_lt HO8.out k hk).1; omega))) (fun k hk => by have := (own_block_lt HO8.out k hk).1; omega)
                   go_wp2
                   go_region
                   go_wp2
                   exact bodyPost_ret (v := evV 1 (ba rn) (.slice va ra.length vc) ⟨#[]⟩ false true) (by simp [results, Tryz.results30, go_sem, evV, r0, r1, r2, r3]) rfl (NxPost.yes HG.out KT.out.drew ⟨HDL.out.1, HDL.out.2, va, vc, rfl, KO.out.drew⟩ ⟨HOP8.out, _, _, KQ.out.drew⟩)
        · have t5 : (0 : Int) < (o'.length : Int) := by have := List.length_pos_iff.2 ho; omega
          have HG : Hid (nextQ tx.data.toList op s = .inl ((.some (.inl o')), s')) := by
            show _ = _
            unfold nextQ
            rw [HWO.out]
            simp only [ne_eq, ho, not_false_eq_true, if_true]
          have hcv := conv_own HEV.out.qd.txt
          have HE9 : Hid (EvSt w ((wr.setCell ⟨b, 6, none⟩ (.slice none 0 0)).setCell ⟨b, 7, none⟩ (.bool false)) b tx (okQ s' false) (.slice oa op.length ocap) (.slice none 0 0) op []) := HEV.out.go HEV.out.qd.told (((Turn.refl _ wr).setCell (p := ⟨b, 6, none⟩) (.inl rfl) _).setCell (p := ⟨b, 7, none⟩) (.inl rfl) _)
          have KEY : Hid _ := HE9.out.ret 2 ⟨#[]⟩ (.slice none 0 0) (ba o')
          have KD : Hid _ := HE9.out.done HOP'.out rfl 2 ⟨#[]⟩ (.slice none 0 0) (ba o')
          clear ho hkind
          go_wp2_with fail
          refine (qokT HEV.out.qd).mono ?_
          rintro e w8 ⟨rfl, hw8⟩
          obtain rfl := hw8.symm
          go_wp2
          exact bodyPost_ret (v := evV 2 ⟨#[]⟩ (.slice none 0 0) (ba o') false true) (by simp [results, Tryz.results30, go_sem, evV, ba, r0, r1, r2, r3]) rfl (NxPost.yes HG.out KEY.out.2 rfl KD.out)
    · have HEV : Hid (EvSt w wr b tx q vo vt op1 o1) := hev
      have HG : Hid (nextQ tx.data.toList op s = .inr (p, c)) := by show _ = _; unfold nextQ; rw [hwp]
      have HR9 : Hid (c ≠ 0 ∧ q.err = c ∧ q.place = p ∧ q.at_ ≤ tx.size ∧ o1.length ≤ 100000) := ⟨hc0, he, hpl, hM, ho1⟩
      have t9 : (q.err == 0) = false := by rw [he]; exact beq_eq_false_iff_ne.2 hc0
      obtain ⟨r0, r1, r2, r3, rf, rcl⟩ := cells4 hev.res
      have KEY : Hid _ := hev.ret 0 ⟨#[]⟩ (.slice none 0 0) ⟨#[]⟩
      clear hev hwp hc0 he hpl hM ho1 hrel
      by_cases hk2 : kk = 2
      · have t1 : (kk == 2) = true := by rw [hk2]; rfl
        clear hk2
        go_wp2_with fail
        refine (qok_any wr b _ tx q vo vt op1 o1 HEV.out.qd).mono ?_
        rintro e w8 ⟨rfl, hw8⟩
        obtain rfl := hw8.symm
        go_wp2_with fail
        refine (qok_any wr b _ tx q vo vt op1 o1 HEV.out.qd).mono ?_
        rintro e w8 ⟨rfl, hw8⟩
        obtain rfl := hw8.symm
        go_wp2
        obtain ⟨hc0, he, hpl, hM, ho⟩ := HR9.out
        exact bodyPost_ret (v := evNo) (by simp [results, Tryz.results30, go_sem, evV, r0, r1, r2, r3]) rfl (NxPost.no HG.out KEY.out.2 ⟨hc0, q, vo, vt, op1, o1, KEY.out.1, he, hpl, hM, ho⟩)
      · have t1 : (kk == 2) = false := beq_eq_false_iff_ne.2 hk2
        clear hk2
        go_wp2_with fail
        refine (qok_any wr b _ tx q vo vt op1 o1 HEV.out.qd).mono ?_
        rintro e w8 ⟨rfl, hw8⟩
        obtain rfl := hw8.symm
        go_wp2
        obtain ⟨hc0, he, hpl, hM, ho⟩ := HR9.out
        exact bodyPost_ret (v := evNo) (by simp [results, Tryz.results30, go_sem, evV, r0, r1, r2, r3]) rfl (NxPost.no HG.out KEY.out.2 ⟨hc0, q, vo, vt, op1, o1, KEY.out.1, he, hpl, hM, ho⟩)

end Go.Proofs.YtmifejkddgcbmabGreat
