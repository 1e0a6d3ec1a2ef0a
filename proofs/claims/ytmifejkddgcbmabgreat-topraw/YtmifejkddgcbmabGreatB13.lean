/- Attributes with a further one, in plain: the order stays. -/
import Derived.Test.YtmifejkddgcbmabGreatB10
import Derived.Test.YtmifejkddgcbmabGreatB12
namespace Go.Proofs.YtmifejkddgcbmabGreat
set_option linter.unusedVariables false
set_option linter.unusedSimpArgs false

theorem ltA_trans {a b c : Att} (h : ltA a b = true) (k : ltA b c = true) : ltA a c = true := by
  rw [ltA_eq] at *
  simp only [decide_eq_true_eq] at *
  exact List.lt_trans h k

/-- The names ahead of the place are smaller, the others are not. -/
theorem with_pair {L : List Att} {a : Att} {k : Nat} (hs : L.Pairwise fun x y => ltA x y = true) (h1 : ∀ i p, i < k → L[i]? = some p → ltA p a = true) (h2 : ∀ p, L[k]? = some p → ltA p a = false) (h3 : ∀ p, L[k]? = some p → p.1.toList ≠ a.1.toList) :
    (L.take k ++ a :: L.drop k).Pairwise (fun x y => ltA x y = true) ∧ (L.take k ++ a :: L.drop k).Perm (L ++ [a]) ∧ ∀ x ∈ L, x.1.toList ≠ a.1.toList := by
  have ht : ∀ x ∈ L.take k, ltA x a = true := fun x hx => by
    obtain ⟨i, hi, e⟩ := List.getElem_of_mem hx
    rw [List.length_take] at hi
    refine h1 i x (by omega) ?_
    rw [List.getElem_take] at e
    rw [← e, List.getElem?_eq_getElem]
  have hd : ∀ x ∈ L.drop k, ltA a x = true := fun x hx => by
    cases hg : L[k]? with
    | none =>
      rw [List.drop_eq_nil_of_le (List.getElem?_eq_none_iff.1 hg)] at hx
      cases hx
    | some p =>
      have hlt := (List.getElem?_eq_some_iff.1 hg).1
      have hpa : ltA a p = true := ltA_tri (fun e => h3 p hg e.symm) (h2 p hg)
      have e : L.drop k = p :: L.drop (k + 1) := by
        rw [List.drop_eq_getElem_cons hlt]
        rw [(List.getElem?_eq_some_iff.1 hg).2]
      rw [e] at hx
      rcases List.mem_cons.1 hx with rfl | hx
      · exact hpa
      · have hp := hs.drop (i := k)
        rw [e, List.pairwise_cons] at hp
        exact ltA_trans hpa (hp.1 x hx)
  have hsp : L = L.take k ++ L.drop k := (List.take_append_drop k L).symm
  refine ⟨?_, ?_, ?_⟩
  · rw [List.pairwise_append, List.pairwise_cons]
    refine ⟨hs.take, ⟨hd, hs.drop⟩, fun x hx y hy => ?_⟩
    rcases List.mem_cons.1 hy with rfl | hy
    · exact ht x hx
    · exact ltA_trans (ht x hx) (hd y hy)
  · have h9 : (L.take k ++ a :: L.drop k).Perm (a :: (L.take k ++ L.drop k)) := List.perm_middle
    rw [← hsp] at h9
    exact h9.trans (List.perm_append_singleton a L).symm
  · intro x hx e
    rw [hsp] at hx
    rcases List.mem_append.1 hx with hx | hx
    · have := ht x hx
      rw [ltA_eq, decide_eq_true_eq, e] at this
      exact List.lt_irrefl _ this
    · have := hd x hx
      rw [ltA_eq, decide_eq_true_eq, e] at this
      exact List.lt_irrefl _ this

/-- The document's sorted list is the program's, sorted. -/
theorem with_sort {A L : List Att} {a : Att} {k : Nat} (hA : L = sortA A) (hD : Dist A) (h1 : ∀ i p, i < k → L[i]? = some p → ltA p a = true) (h2 : ∀ p, L[k]? = some p → ltA p a = false) (h3 : ∀ p, L[k]? = some p → p.1.toList ≠ a.1.toList) :
    L.take k ++ a :: L.drop k = sortA (A ++ [a]) ∧ Dist (A ++ [a]) ∧ A.any (fun x => x.1.toList == a.1.toList) = false := by
  have hs : L.Pairwise fun x y => ltA x y = true := by rw [hA]; exact sortA_strict hD
  obtain ⟨p1, p2, p3⟩ := with_pair hs h1 h2 h3
  have hpA : L.Perm A := by rw [hA]; exact sortA_perm A
  have hno : ∀ x ∈ A, x.1.toList ≠ a.1.toList := fun x hx => p3 x (hpA.mem_iff.2 hx)
  have hD2 : Dist (A ++ [a]) := by
    unfold Dist
    rw [List.pairwise_append]
    refine ⟨hD, by simp, fun x hx y hy => ?_⟩
    rw [List.mem_singleton] at hy
    subst hy
    exact hno x hx
  refine ⟨?_, hD2, ?_⟩
  · exact uniq_sorted (lt := fun x y => ltA x y = true) ltA_irr ltA_asym _ _ ((p2.trans (hpA.append_right [a])).trans (sortA_perm _).symm) p1 (sortA_strict hD2)
  · rw [List.any_eq_false]
    intro x hx
    simpa using hno x hx

theorem with_there {A L : List Att} {a p : Att} {k : Nat} (hA : L = sortA A) (h : L[k]? = some p) (e : p.1.toList = a.1.toList) : A.any (fun x => x.1.toList == a.1.toList) = true := by
  rw [List.any_eq_true]
  refine ⟨p, ?_, by simpa using e⟩
  have hpA : L.Perm A := by rw [hA]; exact sortA_perm A
  exact hpA.mem_iff.1 (List.mem_of_getElem? h)

end Go.Proofs.YtmifejkddgcbmabGreat

/- The document's reader: an attribute. -/
namespace Go.Proofs.YtmifejkddgcbmabGreat
open Go.RowKit
set_option linter.unusedVariables false
set_option linter.unusedSimpArgs false
attribute [local go_sem] Bel.cell Bel.fz

theorem AttrsR.turn {w w' : World} {A R : Nat → Prop} {a : Option Addr} {l : List Att} (h : AttrsR w R a l) (ht : Turn A w w') (hR : ∀ k, R k → k < w.heap.size ∧ ¬ A k) : AttrsR w' R a l :=
  h.to (fun _ h => h) (fun b o hr => by
    have := ht.block b (hR b hr).1 (hR b hr).2
    simp only [World.cell?, this])

/-- What 'attr' leaves: the attributes with the further one. -/
def AttrV (w : World) (A : List Att) (a : Att) (e : Ending) (w' : World) : Prop := Dist (A ++ [a]) ∧ ∃ ma mcap, e = .returned (.slice ma (A.length + 1) mcap) ∧ w'.ownsRow w.heap.size 84 2 (.slice ma (A.length + 1) mcap) (A.length + 1) (attrCells (sortA (A ++ [a])))

theorem qokT {w : World} {b B : Nat} {tx : ByteArray} {s : St} {hh : Bool} {vo vt : Value} {op : List ByteArray} {o : Bs} (h : Qd w b B tx (okQ s hh) vo vt op o) :
    Calls Tryz.prog 17 #[.pointer (some ⟨b, 0, none⟩)] w fun e w' => e = .returned (.bool true) ∧ w' = w := qok_any w b B tx _ vo vt op o h
theorem nameOk {tx : ByteArray} {s s1 : St} {n : Bs} (ok : Ok tx s) (h : nameP tx.data.toList s = .inl (n, s1)) : Ok tx s1 := by
  have hx := nameP_ok h
  obtain ⟨k1, k2, k3, k4⟩ := ok
  obtain ⟨e, e2, -⟩ := hx
  have hle : n.length ≤ tx.data.toList.length - s.at_ := by
    rw [e2]
    refine Nat.le_trans (List.takeWhile_prefix _).length_le ?_
    rw [List.length_drop]
    exact Nat.le_refl _
  rw [size_list] at hle
  subst e
  exact ⟨k1, by simp only; omega, k3, k4⟩
theorem expectOk {tx : ByteArray} {c : UInt8} {s s1 : St} {u : Unit} (ok : Ok tx s) (h : expectP tx.data.toList c s = .inl (u, s1)) : Ok tx s1 := by
  obtain ⟨e, hle⟩ := expectP_ok h
  obtain ⟨k1, k2, k3, k4⟩ := ok
  rw [size_list] at hle
  subst e
  exact ⟨k1, by simp only; omega, k3, k4⟩

set_option maxRecDepth 100000 in
set_option maxHeartbeats 4000000 in
theorem qattr_any (w : World) (b B : Nat) (tx : ByteArray) (s : St) (op : List ByteArray) (o : Bs) (h : QS w b B tx s op o) (ok : Ok tx s) (hol : o.length ≤ 16384) (ha : s.at_ < tx.size) (hbeg : beginB (tx[s.at_]'ha).toNat = true)
    (R : Nat → Prop) (la : Option Addr) (lcap : Nat) (A L : List Att) (hL : AttrsR w R la L) (hA : L = sortA A) (hD : Dist A) (hR : ∀ k, R k → k < w.heap.size ∧ ¬ k = b) (hn : L.length ≤ 32) (hcap : L.length ≤ lcap) (hnil : L = [] → la = none ∧ lcap = 0) :
    Calls Tryz.prog 84 #[.pointer (some ⟨b, 0, none⟩), .slice la L.length lcap] w (fun e w' => QPostA (fun k => k = b) w b B tx tx.size op (attrP tx.data.toList A s) (fun _ => o) (AttrV w A) e w' ∧ ∃ sa sn sc, e = .returned (.slice sa sn sc)) := by
  have HA : Hid (L = sortA A) := hA
  have HD : Hid (Dist A) := hD
  have HAL : Hid (L.length = A.length) := by show L.length = _; rw [hA]; exact (sortA_perm A).length_eq
  have HL : Hid (∀ W, Turn (fun k => k = b) w W → AttrsR W R la L) := fun W ht => hL.turn ht hR
  have HW : Hid (∀ W a1 a2, Turn (fun k => k = b) w W → Calls Tryz.prog 109 #[.slice la L.length lcap, .agg #[.string a1, .string a2]] W (WithPost W la lcap L (a1, a2))) := fun W a1 a2 ht => qwith_any W R la lcap L (hL.turn ht hR) (fun k hk => Nat.lt_of_lt_of_le (hR k hk).1 ht.size) hn hcap hnil a1 a2
  have HOK : Hid (Ok tx s) := ok
  obtain ⟨k1, k2, k3, k4⟩ := ok
  have hnm := qname_b w b B tx s op o h HOK.out hol ha hbeg
  have hat : ∃ vo vt, Qd w b B tx (okQ s (hasB o)) vo vt op o := h.2
  obtain ⟨vo, vt, hq⟩ := hat
  have HQ : Hid (Qd w b B tx (okQ s (hasB o)) vo vt op o) := hq
  obtain ⟨h0, h1, h2, h3, h4, h5, h6, h7, fz, hb⟩ := hq.facts
  have e0 : (okQ s (hasB o)).at_ = s.at_ := rfl
  rw [e0] at h1
  clear hq hL hA hD hbeg h
  go_enter Tryz.func84, Tryz.ntmps84
  go_wp2_with fail
  refine hnm.mono ?_
  clear hnm
  intro e w1 hp
  cases hnp : nameP tx.data.toList s with
  | inr q_ =>
    obtain ⟨p, c⟩ := q_
    rw [hnp] at hp
    obtain ⟨⟨v, rfl⟩, hqe, ht1⟩ := hp
    obtain ⟨hc, q, vo1, vt1, op1, o1, hq1, he, hpl, hM, ho1⟩ := hqe
    have HG : Hid (attrP tx.data.toList A s = .inr (p, c)) := by show attrP _ _ _ = _; simp only [attrP, hnp]
    have t9 : (q.err == 0) = false := by rw [he]; exact beq_eq_false_iff_ne.2 hc
    have HQX : Hid (Qd w1 b B tx q vo1 vt1 op1 o1) := hq1
    have HTX : Hid (Turn (fun k => k = b) w w1) := ht1
    have HR9 : Hid (c ≠ 0 ∧ q.err = c ∧ q.place = p ∧ q.at_ ≤ tx.size ∧ o1.length ≤ 100000) := ⟨hc, he, hpl, hM, ho1⟩
    clear hq1 ht1 hnp hc he hpl hM ho1 h0 h1 h2 h3 h4 h5 h6 h7 fz hb
    go_wp2_with fail
    refine (qok_any w1 b B tx q vo1 vt1 op1 o1 HQX.out).mono ?_
    rintro e w8 ⟨rfl, hw8⟩
    obtain rfl := hw8.symm
    go_wp2
    go_ret
    obtain ⟨hc, he, hpl, hM, ho1⟩ := HR9.out
    exact ⟨QPostA.no HG.out ⟨hc, q, vo1, vt1, op1, o1, HQX.out, he, hpl, hM, ho1⟩ HTX.out, _, _, _, rfl⟩
  | inl q_ =>
    obtain ⟨n, s1⟩ := q_
    rw [hnp] at hp
    obtain ⟨rfl, hqs, ht1⟩ := hp
    have HS1 : Hid (QS w1 b B tx s1 op o) := hqs
    obtain ⟨hop1, vo2, vt2, hq1⟩ := hqs
    have HOP1 : Hid (op.length = s1.op) := hop1
    have HNP : Hid (nameP tx.data.toList s = .inl (n, s1)) := hnp
    have HQ1 : Hid (Qd w1 b B tx (okQ s1 (hasB o)) vo2 vt2 op o) := hq1
    have HT1 : Hid (Turn (fun k => k = b) w w1) := ht1
    have HOK1 : Hid (Ok tx s1) := nameOk HOK.out hnp
    clear hq1 ht1 hnp hop1 h0 h1 h2 h3 h4 h5 h6 h7 fz hb
    go_wp2_with fail
    refine (qokT HQ1.out).mono ?_
    rintro e w8 ⟨rfl, hw8⟩
    obtain rfl := hw8.symm
    go_wp2_with fail
    refine (HW.out w1 (ba n) ⟨#[]⟩ HT1.out).mono ?_
    rintro e w2 ⟨hb2, k2', hk2, hl2, hl2b, hcase⟩
    have HQ2 : Hid (Qd w2 b B tx (okQ s1 (hasB o)) vo2 vt2 op o) := HQ1.out.below hb2
    have HT2 : Hid (Turn (fun k => k = b) w w2) := HT1.out.then hb2 HT1.out.size
    have HBA : Hid (ba n = (ba n, (⟨#[]⟩ : ByteArray)).1) := rfl
    clear HQ1 HS1
    by_cases hlen : L.length = 32
    · have t1 : (32 : Int) ≤ (L.length : Int) := by omega
      have hA32 : A.length = 32 := by have := HAL.out; omega
      have t7 : ∃ (ma : Option Addr) (m : Nat × Nat) (fr : Bool), e = .returned (.tuple #[.slice ma m.1 m.2, .bool fr]) := by
        rcases hcase with ⟨-, rfl⟩ | ⟨-, ma, mcap, rfl, -⟩
        · exact ⟨la, (L.length, lcap), false, rfl⟩
        · exact ⟨ma, (L.length + 1, mcap), true, rfl⟩
      obtain ⟨ma, ⟨m1, m2⟩, fr, rfl⟩ := t7
      have HA32 : Hid (A.length = 32) := hA32
      clear hcase hlen hA32
      have HG : Hid (attrP tx.data.toList A s = .inr (s.at_, 2)) := by show attrP _ _ _ = _; simp only [attrP, HNP.out, HA32.out, if_true]
      go_wp2_with fail
      refine (qbad_any w2 b B tx _ vo2 vt2 op o HQ2.out s.at_ 2).mono ?_
      rintro e w3 ⟨rfl, hq3, ht3⟩
      obtain ⟨q, hqq⟩ : ∃ q, q = badQ (okQ s1 (hasB o)) s.at_ 2 := ⟨_, rfl⟩
      rw [← hqq] at hq3
      have HQX : Hid (Qd w3 b B tx q vo2 vt2 op o) := hq3
      have HTX : Hid (Turn (fun k => k = b) w w3) := HT2.out.trans ht3
      have HR9 : Hid ((2 : Int) ≠ 0 ∧ q.err = 2 ∧ q.place = s.at_ ∧ q.at_ ≤ tx.size ∧ o.length ≤ 100000) := by
        have := HOK1.out
        obtain ⟨j1, j2, j3, j4⟩ := this
        subst hqq
        exact ⟨by decide, rfl, rfl, by simp only [badQ, okQ, if_true]; omega, by omega⟩
      have t9 : (q.err == 0) = false := by rw [HR9.out.2.1]; rfl
      clear hq3 ht3 hqq
      go_wp2_with fail
      refine (qok_any w3 b B tx q vo2 vt2 op o HQX.out).mono ?_
      rintro e w8 ⟨rfl, hw8⟩
      obtain rfl := hw8.symm
      go_wp2_with fail
      refine (qok_any w3 b B tx q vo2 vt2 op o HQX.out).mono ?_
      rintro e w8 ⟨rfl, hw8⟩
      obtain rfl := hw8.symm
      go_wp2_with fail
      refine (HW.out w3 _ _ HTX.out).mono ?_
      rintro e w9 ⟨hb9, k9, hk9, hl9, hl9b, ⟨-, rfl⟩ | ⟨-, ma9, mcap9, rfl, -⟩⟩
      · go_wp2
        go_ret
        obtain ⟨hc, he, hpl, hM, ho1⟩ := HR9.out
        exact ⟨QPostA.no HG.out ⟨hc, q, vo2, vt2, op, o, HQX.out.below hb9, he, hpl, hM, ho1⟩ (HTX.out.then hb9 HTX.out.size), _, _, _, rfl⟩
      · go_wp2
        go_ret
        obtain ⟨hc, he, hpl, hM, ho1⟩ := HR9.out
        exact ⟨QPostA.no HG.out ⟨hc, q, vo2, vt2, op, o, HQX.out.below hb9, he, hpl, hM, ho1⟩ (HTX.out.then hb9 HTX.out.size), _, _, _, rfl⟩
    · have t1 : ¬ (32 : Int) ≤ (L.length : Int) := by omega
      have hA32 : ¬ A.length = 32 := by have := HAL.out; omega
      rcases hcase with ⟨⟨p2, hp2, hpe⟩, rfl⟩ | ⟨hno, ma, mcap, rfl, -⟩
      · have hany : A.any (fun x => x.1.toList == (ba n).toList) = true := with_there (a := (ba n, (⟨#[]⟩ : ByteArray))) HA.out hp2 hpe
        have HG : Hid (attrP tx.data.toList A s = .inr (s.at_, 41)) := by show attrP _ _ _ = _; simp only [attrP, HNP.out, hA32, if_false, hany, if_true]
        go_wp2_with fail
        refine (qbad_any w2 b B tx _ vo2 vt2 op o HQ2.out s.at_ 41).mono ?_
        rintro e w3 ⟨rfl, hq3, ht3⟩
        obtain ⟨q, hqq⟩ : ∃ q, q = badQ (okQ s1 (hasB o)) s.at_ 41 := ⟨_, rfl⟩
        rw [← hqq] at hq3
        have HQX : Hid (Qd w3 b B tx q vo2 vt2 op o) := hq3
        have HTX : Hid (Turn (fun k => k = b) w w3) := HT2.out.trans ht3
        have HR9 : Hid ((41 : Int) ≠ 0 ∧ q.err = 41 ∧ q.place = s.at_ ∧ q.at_ ≤ tx.size ∧ o.length ≤ 100000) := by
          have := HOK1.out
          obtain ⟨j1, j2, j3, j4⟩ := this
          subst hqq
          exact ⟨by decide, rfl, rfl, by simp only [badQ, okQ, if_true]; omega, by omega⟩
        have t9 : (q.err == 0) = false := by rw [HR9.out.2.1]; rfl
        clear hq3 ht3 hqq
        go_wp2_with fail
        refine (qok_any w3 b B tx q vo2 vt2 op o HQX.out).mono ?_
        rintro e w8 ⟨rfl, hw8⟩
        obtain rfl := hw8.symm
        go_wp2_with fail
        refine (qok_any w3 b B tx q vo2 vt2 op o HQX.out).mono ?_
        rintro e w8 ⟨rfl, hw8⟩
        obtain rfl := hw8.symm
        go_wp2_with fail
        refine (HW.out w3 _ _ HTX.out).mono ?_
        rintro e w9 ⟨hb9, k9, hk9, hl9, hl9b, ⟨-, rfl⟩ | ⟨-, ma9, mcap9, rfl, -⟩⟩
        · go_wp2
          go_ret
          obtain ⟨hc, he, hpl, hM, ho1⟩ := HR9.out
          exact ⟨QPostA.no HG.out ⟨hc, q, vo2, vt2, op, o, HQX.out.below hb9, he, hpl, hM, ho1⟩ (HTX.out.then hb9 HTX.out.size), _, _, _, rfl⟩
        · go_wp2
          go_ret
          obtain ⟨hc, he, hpl, hM, ho1⟩ := HR9.out
          exact ⟨QPostA.no HG.out ⟨hc, q, vo2, vt2, op, o, HQX.out.below hb9, he, hpl, hM, ho1⟩ (HTX.out.then hb9 HTX.out.size), _, _, _, rfl⟩
      · have hany : A.any (fun x => x.1.toList == (ba n).toList) = false := (with_sort (a := (ba n, (⟨#[]⟩ : ByteArray))) HA.out HD.out hl2 hl2b hno).2.2
        have HV : Hid (attrP tx.data.toList A s = match expectP tx.data.toList 61 s1 with
          | .inr (p, e) => .inr (p, e)
          | .inl (_, s2) => match valueP tx.data.toList s2 with
            | .inr (p, e) => .inr (p, e)
            | .inl (v, s3) => .inl ((ba n, ba v), s3)) := by show attrP _ _ _ = _; simp only [attrP, HNP.out, hA32, if_false, hany, Bool.false_eq_true]; cases expectP tx.data.toList 61 s1 <;> rfl
        have HAN : Hid (A.any (fun x => x.1.toList == (ba n).toList) = false) := hany
        clear hany hno hl2 hl2b
        go_wp2_with fail
        refine (qokT HQ2.out).mono ?_
        rintro e w8 ⟨rfl, hw8⟩
        obtain rfl := hw8.symm
        have hmu := qmust_b w2 b B tx s1 op o ⟨HOP1.out, vo2, vt2, HQ2.out⟩ HOK1.out hol 61
        go_wp2_with fail
        refine hmu.mono ?_
        clear hmu
        intro e w3 hp
        cases hxp : expectP tx.data.toList 61 s1 with
        | inr q_ =>
          obtain ⟨p, c⟩ := q_
          rw [hxp] at hp
          obtain ⟨⟨v, rfl⟩, hqe, ht3⟩ := hp
          have HG : Hid (attrP tx.data.toList A s = .inr (p, c)) := by show _ = _; rw [HV.out, hxp]
          clear hxp
          obtain ⟨hc, q, vo1, vt1, op1, o1, hq1, he, hpl, hM, ho1⟩ := hqe
          have t9 : (q.err == 0) = false := by rw [he]; exact beq_eq_false_iff_ne.2 hc
          have HQX : Hid (Qd w3 b B tx q vo1 vt1 op1 o1) := hq1
          have HTX : Hid (Turn (fun k => k = b) w w3) := HT2.out.trans ht3
          have HR9 : Hid (c ≠ 0 ∧ q.err = c ∧ q.place = p ∧ q.at_ ≤ tx.size ∧ o1.length ≤ 100000) := ⟨hc, he, hpl, hM, ho1⟩
          clear hq1 ht3 hc he hpl hM ho1
          go_wp2_with fail
          refine (qok_any w3 b B tx q vo1 vt1 op1 o1 HQX.out).mono ?_
          rintro e w8 ⟨rfl, hw8⟩
          obtain rfl := hw8.symm
          go_wp2_with fail
          refine (HW.out w3 _ _ HTX.out).mono ?_
          rintro e w9 ⟨hb9, k9, hk9, hl9, hl9b, ⟨-, rfl⟩ | ⟨-, ma9, mcap9, rfl, -⟩⟩
          · go_wp2
            go_ret
            obtain ⟨hc, he, hpl, hM, ho1⟩ := HR9.out
            exact ⟨QPostA.no HG.out ⟨hc, q, vo1, vt1, op1, o1, HQX.out.below hb9, he, hpl, hM, ho1⟩ (HTX.out.then hb9 HTX.out.size), _, _, _, rfl⟩
          · go_wp2
            go_ret
            obtain ⟨hc, he, hpl, hM, ho1⟩ := HR9.out
            exact ⟨QPostA.no HG.out ⟨hc, q, vo1, vt1, op1, o1, HQX.out.below hb9, he, hpl, hM, ho1⟩ (HTX.out.then hb9 HTX.out.size), _, _, _, rfl⟩
        | inl q_ =>
          obtain ⟨u9, s2⟩ := q_
          rw [hxp] at hp
          obtain ⟨rfl, hqs3, ht3⟩ := hp
          have HT3 : Hid (Turn (fun k => k = b) w w3) := HT2.out.trans ht3
          have HOK2 : Hid (Ok tx s2) := expectOk HOK1.out hxp
          have hva := qvalue_b w3 b B tx s2 op o hqs3 HOK2.out hol
          obtain ⟨hop3, vo3, vt3, hq3⟩ := hqs3
          have HQ3 : Hid (Qd w3 b B tx (okQ s2 (hasB o)) vo3 vt3 op o) := hq3
          have HXP : Hid (expectP tx.data.toList 61 s1 = .inl (u9, s2)) := hxp
          clear hxp hq3 ht3 HQ2
          go_wp2_with fail
          refine (qokT HQ3.out).mono ?_
          rintro e w8 ⟨rfl, hw8⟩
          obtain rfl := hw8.symm
          go_wp2_with fail
          refine hva.mono ?_
          clear hva
          rintro e w4 ⟨hp, X, rfl⟩
          cases hvp : valueP tx.data.toList s2 with
          | inr q_ =>
            obtain ⟨p, c⟩ := q_
            rw [hvp] at hp
            obtain ⟨-, hqe, ht3⟩ := hp
            have HG : Hid (attrP tx.data.toList A s = .inr (p, c)) := by show _ = _; rw [HV.out, HXP.out]; simp only [hvp]
            clear hvp
            obtain ⟨hc, q, vo1, vt1, op1, o1, hq1, he, hpl, hM, ho1⟩ := hqe
            have t9 : (q.err == 0) = false := by rw [he]; exact beq_eq_false_iff_ne.2 hc
            have HQX : Hid (Qd w4 b B tx q vo1 vt1 op1 o1) := hq1
            have HTX : Hid (Turn (fun k => k = b) w w4) := HT3.out.trans ht3
            have HR9 : Hid (c ≠ 0 ∧ q.err = c ∧ q.place = p ∧ q.at_ ≤ tx.size ∧ o1.length ≤ 100000) := ⟨hc, he, hpl, hM, ho1⟩
            clear hq1 ht3 hc he hpl hM ho1
            go_wp2_with fail
            refine (HW.out w4 _ _ HTX.out).mono ?_
            rintro e w9 ⟨hb9, k9, hk9, hl9, hl9b, ⟨-, rfl⟩ | ⟨-, ma9, mcap9, rfl, -⟩⟩
            · go_wp2
              go_ret
              obtain ⟨hc, he, hpl, hM, ho1⟩ := HR9.out
              exact ⟨QPostA.no HG.out ⟨hc, q, vo1, vt1, op1, o1, HQX.out.below hb9, he, hpl, hM, ho1⟩ (HTX.out.then hb9 HTX.out.size), _, _, _, rfl⟩
            · go_wp2
              go_ret
              obtain ⟨hc, he, hpl, hM, ho1⟩ := HR9.out
              exact ⟨QPostA.no HG.out ⟨hc, q, vo1, vt1, op1, o1, HQX.out.below hb9, he, hpl, hM, ho1⟩ (HTX.out.then hb9 HTX.out.size), _, _, _, rfl⟩
          | inl q_ =>
            obtain ⟨v, s3⟩ := q_
            rw [hvp] at hp
            obtain ⟨hv9, hqs4, ht3⟩ := hp
            obtain rfl : X = ba v := by cases hv9; rfl
            have HG : Hid (attrP tx.data.toList A s = .inl ((ba n, ba v), s3)) := by show _ = _; rw [HV.out, HXP.out]; simp only [hvp]
            have HT4 : Hid (Turn (fun k => k = b) w w4) := HT3.out.trans ht3
            obtain ⟨hop4, vo4, vt4, hq4⟩ := hqs4
            have HQ4 : Hid (Qd w4 b B tx (okQ s3 (hasB o)) vo4 vt4 op o) := hq4
            have HOP4 : Hid (op.length = s3.op) := hop4
            clear hvp hv9 hq4 ht3 HQ3 hop4
            go_wp2_with fail
            refine (HW.out w4 _ _ HT4.out).mono ?_
            rintro e w9 ⟨hb9, k9, hk9, hl9, hl9b, ⟨⟨p9, hp9, hpe9⟩, rfl⟩ | ⟨hno9, ma9, mcap9, rfl, hown9⟩⟩
            · exact absurd (with_there (a := (ba n, ba v)) HA.out hp9 hpe9) (by rw [HAN.out]; decide)
            · obtain ⟨e9, hD9, -⟩ := with_sort (a := (ba n, ba v)) HA.out HD.out hl9 hl9b hno9
              rw [e9] at hown9
              have HO9 : Hid (w9.ownsRow w4.heap.size 84 2 (.slice ma9 (L.length + 1) mcap9) (L.length + 1) (attrCells (sortA (A ++ [(ba n, ba v)])))) := hown9
              have HD9 : Hid (Dist (A ++ [(ba n, ba v)])) := hD9
              clear hown9 e9 hD9 hno9 hl9 hl9b
              go_wp2
              go_ret
              refine ⟨QPostA.yes HG.out ⟨HD9.out, ma9, mcap9, by rw [HAL.out]; rfl, ?_⟩ ⟨HOP4.out, vo4, vt4, HQ4.out.below hb9⟩ (HT4.out.then hb9 HT4.out.size), _, _, _, rfl⟩
              have := own_base HO9.out (base' := w.heap.size) (fun k hk => Nat.le_trans HT4.out.size (own_block_lt HO9.out k hk).1)
              rw [HAL.out] at this
              exact this

end Go.Proofs.YtmifejkddgcbmabGreat
