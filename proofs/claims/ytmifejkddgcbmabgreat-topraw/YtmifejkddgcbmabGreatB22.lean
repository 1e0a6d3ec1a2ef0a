/- The document's forest: what a call leaves; where as many are open as may be. -/
import Derived.Test.YtmifejkddgcbmabGreatB20
import Derived.Test.YtmifejkddgcbmabGreatB21
namespace Go.Proofs.YtmifejkddgcbmabGreat
open Go.RowKit
set_option linter.unusedVariables false
set_option linter.unusedSimpArgs false
attribute [local go_sem] Bel.cell Bel.fz

/-- What a call of 'forest' leaves. -/
def FoPost (w : World) (b : Nat) (tx : ByteArray) (d : Nat) (op : List ByteArray) (r : Rs (List (T d))) (e : Ending) (w' : World) : Prop := Turn (fun k => k = b) w w' ∧ match r with
  | .inl (x, s1) => SibV w d x e w' ∧ QS w' b w'.heap.size tx s1 op.dropLast []
  | .inr (p, c) => (∃ va vn vc, e = .returned (.slice va vn vc)) ∧ ∃ B, QE w' b B tx tx.size p c
theorem FoPost.yes {w : World} {b : Nat} {tx : ByteArray} {d : Nat} {op : List ByteArray} {r : Rs (List (T d))} {e : Ending} {w' : World} {x : List (T d)} {s1 : St} (h : r = .inl (x, s1)) (ht : Turn (fun k => k = b) w w') (hv : SibV w d x e w') (hq : QS w' b w'.heap.size tx s1 op.dropLast []) : FoPost w b tx d op r e w' := by
  subst h; exact ⟨ht, hv, hq⟩
theorem FoPost.no {w : World} {b : Nat} {tx : ByteArray} {d : Nat} {op : List ByteArray} {r : Rs (List (T d))} {w' : World} {p : Nat} {c : Int} {va : Option Addr} {vn vc B : Nat} (h : r = .inr (p, c)) (ht : Turn (fun k => k = b) w w') (hq : QE w' b B tx tx.size p c) : FoPost w b tx d op r (.returned (.slice va vn vc)) w' := by
  subst h; exact ⟨ht, ⟨_, _, _, rfl⟩, B, hq⟩
def ForAll (d : Nat) : Prop := ∀ (w : World) (b B : Nat) (tx : ByteArray) (s : St) (op : List ByteArray), QS w b B tx s op [] → Ok tx s → s.op + d = 64 →
  Calls Tryz.prog 16 #[.pointer (some ⟨b, 0, none⟩)] w (FoPost w b tx d op (forQ tx.data.toList d op s))

theorem QS.allocs {w : World} {b B : Nat} {tx : ByteArray} {s : St} {op : List ByteArray} (h : QS w b B tx s op []) (x : Obj) : QS (w.alloc x) b (w.alloc x).heap.size tx s op [] := by
  obtain ⟨h1, vo, vt, hq⟩ := h
  have hq1 := hq.below ((Below.refl _ w).alloc (Nat.le_refl _) x)
  exact ⟨h1, vo, vt, hq1.rebase (Nat.le_refl _) (Nat.lt_of_lt_of_le hq1.ltb hq1.leB) (fun k hk => (own_block_lt hq1.opn k hk).2)⟩
theorem QE.allocs {w : World} {b B : Nat} {tx : ByteArray} {M p : Nat} {c : Int} (h : QE w b B tx M p c) (x : Obj) : QE (w.alloc x) b B tx M p c := by
  obtain ⟨hc, q, vo, vt, op, o, hq, r⟩ := h
  exact ⟨hc, q, vo, vt, op, o, hq.below ((Below.refl _ w).alloc (Nat.le_refl _) x), r⟩

theorem cells4' {W : World} {x y z u : Value} : (W.alloc (.cells #[x, y, z, u] 66)).cell? ⟨W.heap.size, 0, none⟩ = some x ∧ (W.alloc (.cells #[x, y, z, u] 66)).cell? ⟨W.heap.size, 1, none⟩ = some y ∧ (W.alloc (.cells #[x, y, z, u] 66)).cell? ⟨W.heap.size, 2, none⟩ = some z ∧ (W.alloc (.cells #[x, y, z, u] 66)).cell? ⟨W.heap.size, 3, none⟩ = some u := by
  obtain ⟨h0, h1, h2, h3, -, -⟩ := cells4 (heap_alloc_new W (.cells #[x, y, z, u] 66))
  exact ⟨h0, h1, h2, h3⟩

set_option maxRecDepth 100000 in
set_option maxHeartbeats 2000000 in
theorem for_zero : ForAll 0 := by
  intro w b B tx s op h ok hop
  have hnx := qNext_any w b B tx s op h ok
  have hfull := next_full (op := op) ok (by omega)
  have hopl : op.length = s.op := h.1
  clear h
  go_enter Tryz.func16, Tryz.ntmps16
  go_wp2
  go_loopw [3] (fun v3 wr => v3 = .slice none 0 0 ∧ wr = w) (fun _ _ => 0)
  case atStart => exact ⟨rfl, rfl⟩
  case round =>
    obtain ⟨rfl, hw⟩ := hrel
    obtain rfl := hw.symm
    cases hq : nextQ tx.data.toList op s with
    | inr q_ =>
      obtain ⟨p, c⟩ := q_
      rw [hq] at hnx hfull
      have HG : Hid (forQ tx.data.toList 0 op s = .inr (p, c)) := hfull
      clear hfull hq
      go_wp2_with fail
      refine hnx.mono ?_
      rintro e w1 ⟨ht1, rfl, B1, hqe⟩
      have HT1 : Hid (Turn (fun k => k = b) w w1) := ht1
      have HQ1 : Hid (QE w1 b B1 tx tx.size p c) := hqe
      clear hnx ht1 hqe
      unfold evNo evV
      go_wp2
      go_ret
      exact FoPost.no HG.out (HT1.out.alloc _) (HQ1.out.allocs _)
    | inl q_ =>
      obtain ⟨ev, s1⟩ := q_
      rw [hq] at hnx hfull
      cases ev using ev_cases with
      | words t => exact hfull.elim
      | start n a em => exact hfull.elim
      | none =>
        have HG : Hid (forQ tx.data.toList 0 op s = .inl ([], s1)) := hfull
        clear hfull
        have hoe : op = [] := by
          unfold nextQ at hq
          cases hw : wordsP tx.data.toList s with
          | inr q_ => obtain ⟨p, e⟩ := q_; rw [hw] at hq; cases hq
          | inl q_ =>
            obtain ⟨t, s2⟩ := q_
            rw [hw] at hq
            simp only at hq
            split at hq
            · cases hq
            · split at hq
              · split at hq
                · assumption
                · cases hq
              · split at hq
                · cases he : endQ tx.data.toList op s2.at_ { s2 with at_ := s2.at_ + 2 } with
                  | inr q_ => obtain ⟨p, e⟩ := q_; rw [he] at hq; cases hq
                  | inl q_ => obtain ⟨u, s3⟩ := q_; rw [he] at hq; cases hq
                · cases hb : beginP s2 s2.at_ with
                  | inr q_ => obtain ⟨p, e⟩ := q_; rw [hb] at hq; cases hq
                  | inl q_ =>
                    obtain ⟨u, s3⟩ := q_
                    rw [hb] at hq
                    simp only at hq
                    cases htq : tagQ tx.data.toList { s3 with at_ := s3.at_ + 1 } with
                    | inr q_ => obtain ⟨p, e⟩ := q_; rw [htq] at hq; cases hq
                    | inl q_ => obtain ⟨r, s4⟩ := q_; rw [htq] at hq; cases hq
        have HOE : Hid (op = []) := hoe
        clear hq hoe
        go_wp2_with fail
        refine hnx.mono ?_
        rintro e w1 ⟨ht1, hv, hqs⟩
        have hv' : e = .returned evNo := hv
        subst hv'
        have HT1 : Hid (Turn (fun k => k = b) w w1) := ht1
        have HQ1 : Hid (QS w1 b w1.heap.size tx s1 op.dropLast []) := by
          show QS _ _ _ _ _ _ _
          have h9 : QS w1 b w1.heap.size tx s1 op [] := hqs
          rw [HOE.out] at h9 ⊢
          exact h9
        clear hnx ht1 hqs hv
        unfold evNo evV
        go_wp2
        go_ret
        exact FoPost.yes HG.out (HT1.out.alloc _) ⟨none, 0, [], fun _ => False, rfl, by simp, ⟨rfl, .inl ⟨rfl, rfl⟩⟩, ForS.nil _ _, fun k h => h.elim⟩ (HQ1.out.allocs _)
      | fin n =>
        have HG : Hid (forQ tx.data.toList 0 op s = .inl ([], s1)) := hfull
        clear hfull hq
        go_wp2_with fail
        refine hnx.mono ?_
        rintro e w1 ⟨ht1, hv, hqs⟩
        have hv' : e = .returned (evV 3 n (.slice none 0 0) ⟨#[]⟩ false true) := hv
        subst hv'
        have HT1 : Hid (Turn (fun k => k = b) w w1) := ht1
        have HQ1 : Hid (QS w1 b w1.heap.size tx s1 op.dropLast []) := hqs
        clear hnx ht1 hqs hv
        unfold evV
        go_wp2
        go_ret
        exact FoPost.yes HG.out (HT1.out.alloc _) ⟨none, 0, [], fun _ => False, rfl, by simp, ⟨rfl, .inl ⟨rfl, rfl⟩⟩, ForS.nil _ _, fun k h => h.elim⟩ (HQ1.out.allocs _)

end Go.Proofs.YtmifejkddgcbmabGreat

/- The document's forest, in plain: where a start leads. -/
namespace Go.Proofs.YtmifejkddgcbmabGreat
set_option linter.unusedVariables false
set_option linter.unusedSimpArgs false

theorem tagQ_ok {tx : ByteArray} {s s4 : St} {r : Bs × List Att × Bool} (ok : Ok tx s) (h : tagQ tx.data.toList s = .inl (r, s4)) : Step tx s s4 := by
  unfold tagQ at h
  cases h2 : nameP tx.data.toList s with
  | inr q_ => obtain ⟨p, e⟩ := q_; rw [h2] at h; cases h
  | inl q_ =>
    obtain ⟨n, s2⟩ := q_
    rw [h2] at h
    simp only at h
    have ok2 := ok.name h2
    obtain ⟨e2, -, -, -, -, -⟩ := nameP_ok h2
    cases h3 : attrsP tx.data.toList s2 with
    | inr q_ => obtain ⟨p, e⟩ := q_; rw [h3] at h; cases h
    | inl q_ =>
      obtain ⟨a, s3⟩ := q_
      rw [h3] at h
      simp only at h
      obtain ⟨g1, g2, g3, g4, g5⟩ := attrsP_ok h3 (by rw [size_list]; exact ok2.at_)
      rw [size_list] at g2
      have ok3 : Ok tx s3 := ⟨ok.len, g2, by rw [g3]; exact ok2.nodes, by rw [g4]; exact ok2.op⟩
      have b2 : s.at_ ≤ s2.at_ ∧ s2.op = s.op := by rw [e2]; exact ⟨by simp only; omega, rfl⟩
      cases h4 : tx.data.toList[s3.at_]? with
      | none => rw [h4] at h; cases h
      | some c =>
        rw [h4] at h
        simp only at h
        have hlt := (List.getElem?_eq_some_iff.1 h4).1
        rw [size_list] at hlt
        split at h
        · cases h5 : expectP tx.data.toList 62 { s3 with at_ := s3.at_ + 1 } with
          | inr q_ => obtain ⟨p, e⟩ := q_; rw [h5] at h; cases h
          | inl q_ =>
            obtain ⟨u, s5⟩ := q_
            rw [h5] at h
            cases h
            have ok5 : Ok tx { s3 with at_ := s3.at_ + 1 } := ⟨ok.len, by simp only; omega, ok3.nodes, ok3.op⟩
            have ok6 := ok5.expect h5
            obtain ⟨e5, -⟩ := expectP_ok h5
            exact ⟨by rw [e5]; simp only; omega, by rw [e5]; simp only; rw [g4]; exact b2.2, ok6⟩
        · cases h5 : expectP tx.data.toList 62 s3 with
          | inr q_ => obtain ⟨p, e⟩ := q_; rw [h5] at h; cases h
          | inl q_ =>
            obtain ⟨u, s5⟩ := q_
            rw [h5] at h
            cases h
            have ok6 := ok3.expect h5
            obtain ⟨e5, -⟩ := expectP_ok h5
            exact ⟨by rw [e5]; simp only; omega, by rw [e5]; simp only; rw [g4]; exact b2.2, ok6⟩

/-- Where a start leads; and behind all that stands in it. -/
theorem next_start {tx : ByteArray} {d : Nat} {op : List ByteArray} {s' s1 : St} {n : Bs} {a : List Att} {em : Bool} (ok : Ok tx s') (hop : s'.op + (d + 1) = 64) (hq : nextQ tx.data.toList op s' = .inl ((.some (.inr (.inl (n, a, em)))), s1)) :
    (em = true → s'.at_ < s1.at_ ∧ Step tx s' s1) ∧ (em = false → Ok tx s1 ∧ s1.op = s'.op + 1 ∧ ∀ x s6, forQ tx.data.toList d (op ++ [ba n]) s1 = .inl (x, s6) → s'.at_ < s6.at_ ∧ Step tx s' s6) := by
  unfold nextQ at hq
  cases hw : wordsP tx.data.toList s' with
  | inr q_ => obtain ⟨p, e⟩ := q_; rw [hw] at hq; cases hq
  | inl q_ =>
    obtain ⟨t, s2⟩ := q_
    rw [hw] at hq
    simp only at hq
    obtain ⟨st, -⟩ := wordsP_ok ok hw
    split at hq
    · cases hq
    · split at hq
      · split at hq <;> cases hq
      · rename_i hne
        rw [size_list] at hne
        split at hq
        · cases he : endQ tx.data.toList op s2.at_ { s2 with at_ := s2.at_ + 2 } with
          | inr q_ => obtain ⟨p, e⟩ := q_; rw [he] at hq; cases hq
          | inl q_ => obtain ⟨u, s3⟩ := q_; rw [he] at hq; cases hq
        · have hlt : s2.at_ < tx.size := by have := st.ok.at_; omega
          have hel := elem_tag (d := d) op st.ok (by rw [st.op]; exact hop) hlt
          have helok := fun t s3 h => elemP_ok (t := t) (s1 := s3) (sibs_ok tx d) st.ok (by rw [st.op]; exact hop) hlt h
          have hle := st.le
          cases hb : beginP s2 s2.at_ with
          | inr q_ => obtain ⟨p, e⟩ := q_; rw [hb] at hq; cases hq
          | inl q_ =>
            obtain ⟨u, s3⟩ := q_
            rw [hb] at hq hel
            simp only at hq hel
            obtain ⟨e3, hn3, ho3⟩ := beginP_ok hb
            cases htq : tagQ tx.data.toList { s3 with at_ := s3.at_ + 1 } with
            | inr q_ => obtain ⟨p, e⟩ := q_; rw [htq] at hq; cases hq
            | inl q_ =>
              obtain ⟨r, s4⟩ := q_
              rw [htq] at hq hel
              simp only at hq hel
              have ok3 : Ok tx { s3 with at_ := s3.at_ + 1 } := by
                have := st.ok.nodes
                have := st.ok.op
                subst e3
                exact ⟨ok.len, by simp only; omega, by simp only; omega, by simp only; omega⟩
              have st4 := tagQ_ok ok3 htq
              have hop4 : s4.op = s2.op := by rw [st4.op]; simp only; rw [e3]
              obtain ⟨rn, ra, rem⟩ := r
              cases rem with
              | true =>
                simp only [if_true] at hq hel
                cases hq
                obtain ⟨f1, f2⟩ := helok _ _ hel
                exact ⟨fun _ => ⟨by omega, st.trans f1⟩, fun e => by cases e⟩
              | false =>
                simp only [Bool.false_eq_true, if_false] at hq hel
                cases hq
                refine ⟨fun e => (by cases e), fun _ => ⟨⟨ok.len, st4.ok.at_, st4.ok.nodes, ?_⟩, ?_, fun x s6 h6 => ?_⟩⟩
                · have := st.op
                  simp only
                  omega
                · simp only; rw [hop4, st.op]
                · rw [h6] at hel
                  obtain ⟨f1, f2⟩ := helok _ _ hel
                  exact ⟨by omega, st.trans f1⟩

end Go.Proofs.YtmifejkddgcbmabGreat
