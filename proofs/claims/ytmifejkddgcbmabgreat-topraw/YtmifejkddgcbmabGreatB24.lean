/- The document's Parse, for every text: as the program's. -/
import Derived.Test.YtmifejkddgcbmabGreatB23
import Derived.Test.YtmifejkddgcbmabGreatB01
namespace Go.Proofs.YtmifejkddgcbmabGreat
open Go.RowKit
set_option linter.unusedVariables false
set_option linter.unusedSimpArgs false
attribute [local go_sem] Bel.cell Bel.fz

theorem for_top (tx : ByteArray) (hl : tx.size ≤ 262144) : forQ tx.data.toList 64 [] ⟨0, 0, 0⟩ = forestP tx.data.toList := by
  have ok : Ok tx ⟨0, 0, 0⟩ := ⟨hl, Nat.zero_le _, Nat.zero_le _, Nat.zero_le _⟩
  unfold forQ forestP
  cases hs : sibP tx.data.toList 64 ⟨0, 0, 0⟩ with
  | inr q_ => obtain ⟨p, e⟩ := q_; rfl
  | inl q_ =>
    obtain ⟨x, s⟩ := q_
    simp only
    obtain ⟨st, -⟩ := sibs_ok tx 64 _ _ _ ok rfl hs
    have hend := sib_end tx 64 _ _ _ ok rfl hs
    have hle := st.ok.at_
    unfold closeQ
    by_cases ha : s.at_ = tx.data.toList.length
    · rw [if_pos ha, if_pos rfl, if_neg (by omega)]
    · rw [size_list] at ha
      have hs2 : seesP tx.data.toList pEnd s.at_ = true := by
        rcases hend with h | h
        · exact absurd h ha
        · exact h
      rw [if_neg (by rw [size_list]; exact ha), if_pos (by rw [size_list]; omega)]
      obtain ⟨r, e1, e2⟩ := sees_head hs2
      obtain ⟨t, e3⟩ : ∃ t, r = 47 :: t := by
        cases r with
        | nil => cases e2
        | cons x t =>
          rw [List.isPrefixOf_cons_cons, Bool.and_eq_true, beq_iff_eq] at e2
          exact ⟨t, by rw [← e2.1]⟩
      subst e3
      have g0 : tx.data.toList[s.at_]? = some 60 := by
        have := congrArg (fun z => z[0]?) e1
        simpa using this
      have g1 : tx.data.toList[s.at_ + 1]? = some 47 := by
        have := congrArg (fun z => z[1]?) e1
        simpa using this
      have x1 : expectP tx.data.toList 60 s = .inl ((), { s with at_ := s.at_ + 1 }) := by
        unfold expectP
        simp [g0]
      have x2 : expectP tx.data.toList 47 { s with at_ := s.at_ + 1 } = .inl ((), { s with at_ := s.at_ + 2 }) := by
        unfold expectP
        simp [g1]
      unfold endP endQ
      simp only [x1, x2]
      cases hn : nameP tx.data.toList { s with at_ := s.at_ + 2 } with
      | inr q_ => obtain ⟨p, e⟩ := q_; rfl
      | inl q_ =>
        obtain ⟨m, s3⟩ := q_
        obtain ⟨-, -, -, -, e5, -⟩ := nameP_ok hn
        have hm : ¬ m = [] := fun e => by rw [e] at e5; simp at e5
        simp [hm]

set_option maxRecDepth 100000 in
set_option maxHeartbeats 1000000 in
theorem qparse_any (w : World) (tx : ByteArray) : Calls Tryz.prog 8 #[.string tx] w (PPost w (parseP tx.data.toList)) := by
  by_cases hl : tx.size ≤ 262144
  · have t1 : ¬ (262144 : Int) < (tx.size : Int) := by omega
    have hq : QS (w.alloc (.cells #[.string tx, .int .i64 0, .int .i64 0, .int .i64 0, .int .i64 0, .slice none 0 0, .slice none 0 0, .bool false] 49)) w.heap.size (w.heap.size + 1) tx ⟨0, 0, 0⟩ [] [] :=
      ⟨rfl, .slice none 0 0, .slice none 0 0, ⟨heap_alloc_new w _, ⟨rfl, .inl ⟨rfl, rfl⟩⟩, ⟨rfl, .inl ⟨rfl, rfl⟩⟩, fun k hk => (by cases hk), by omega, by simp, fun _ => rfl⟩⟩
    have hfo := for_all 64 _ w.heap.size (w.heap.size + 1) tx ⟨0, 0, 0⟩ [] hq ⟨hl, Nat.zero_le _, Nat.zero_le _, Nat.zero_le _⟩ rfl
    rw [for_top tx hl] at hfo
    have HPP : Hid (parseP tx.data.toList = match forestP tx.data.toList with
      | .inr (p, e) => .inr (p, e)
      | .inl (x, _) => .inl x) := by
      show parseP _ = _
      unfold parseP
      rw [if_neg (by rw [size_list]; omega)]
      cases forestP tx.data.toList <;> rfl
    clear hq
    go_enter Tryz.func8, Tryz.ntmps8
    go_wp2_with fail
    refine hfo.mono ?_
    clear hfo
    rintro e w1 ⟨ht1, hp⟩
    have HB1 : Hid (Below w.heap.size w w1) := ⟨ht1.os, ht1.tape, ht1.output, Nat.le_trans (by simp) ht1.size, fun k hk => (ht1.block k (by simp; omega) (by omega)).trans (Below.heap_alloc _ _ _ hk)⟩
    cases hf : forestP tx.data.toList with
    | inr q_ =>
      obtain ⟨p, c⟩ := q_
      rw [hf] at hp
      obtain ⟨⟨va, vn, vc, rfl⟩, B, hc, q, vo, vt, op, o, hq, he, hpl, -, -⟩ := hp
      have HG : Hid (parseP tx.data.toList = .inr (p, c)) := by show _ = _; rw [HPP.out, hf]
      have t9 : (q.err == 0) = false := by rw [he]; exact beq_eq_false_iff_ne.2 hc
      have HQ : Hid (Qd w1 w.heap.size B tx q vo vt op o) := hq
      obtain ⟨h0, h1, h2, h3, h4, h5, h6, h7, fz, hb⟩ := hq.facts
      have HE : Hid (q.err = c ∧ q.place = p) := ⟨he, hpl⟩
      clear hf hq he hpl ht1 hc
      go_wp2_with fail
      refine (qok_any w1 w.heap.size B tx q vo vt op o HQ.out).mono ?_
      rintro e w8 ⟨rfl, hw8⟩
      obtain rfl := hw8.symm
      go_wp2
      go_region
      go_wp2
      rw [HG.out]
      exact bodyPost_ret (v := .tuple #[.slice none 0 0, .int .i64 (p : Int), .int .i64 c]) (by simp [results, Tryz.results8, go_sem, HE.out.1, HE.out.2]) rfl ⟨rfl, HB1.out.drew⟩
    | inl q_ =>
      obtain ⟨x, s1⟩ := q_
      rw [hf] at hp
      obtain ⟨⟨a, cap, xs, Rf, rfl, hx, hown, hfo, hrf⟩, hqs⟩ := hp
      have HG : Hid (parseP tx.data.toList = .inl x) := by show _ = _; rw [HPP.out, hf]
      have HR : Hid (w1.ownsRow w.heap.size 34 5 (.slice a x.length cap) x.length xs ∧ ForS (TreeS w1 64) Rf xs x ∧ (∀ b, Rf b → w.heap.size ≤ b ∧ b < w1.heap.size ∧ (Value.slice a x.length cap).ownBlock ≠ some b)) := by
        have hsz : (w.alloc (.cells #[.string tx, .int .i64 0, .int .i64 0, .int .i64 0, .int .i64 0, .slice none 0 0, .slice none 0 0, .bool false] 49)).heap.size = w.heap.size + 1 := by simp
        rw [hsz] at hown hrf
        exact ⟨own_base hown (fun k hk => by have := (own_block_lt hown k hk).1; omega), hfo, fun k hk => ⟨by have := (hrf k hk).1; omega, (hrf k hk).2⟩⟩
      obtain ⟨-, vo, vt, hq⟩ := hqs
      have HQ : Hid (Qd w1 w.heap.size w1.heap.size tx (okQ s1 (hasB [])) vo vt ([] : List ByteArray).dropLast []) := hq
      clear hf hq hown hfo hrf ht1
      go_wp2_with fail
      refine (qokT HQ.out).mono ?_
      rintro e w8 ⟨rfl, hw8⟩
      obtain rfl := hw8.symm
      go_wp2
      rw [HG.out]
      exact bodyPost_ret (v := .tuple #[.slice a x.length cap, .int .i64 0, .int .i64 0]) (by simp [results, Tryz.results8, go_sem]) rfl ⟨a, cap, xs, Rf, rfl, hx, HR.out.1, HR.out.2.1, HR.out.2.2, HB1.out⟩
  · have t1 : (262144 : Int) < (tx.size : Int) := by omega
    have HG : Hid (parseP tx.data.toList = .inr (0, 2)) := by show _ = _; unfold parseP; rw [if_pos (by rw [size_list]; omega)]
    go_enter Tryz.func8, Tryz.ntmps8
    go_wp2
    rw [HG.out]
    exact bodyPost_ret (v := .tuple #[.slice none 0 0, .int .i64 0, .int .i64 2]) (by simp [results, Tryz.results8, go_sem]) rfl ⟨rfl, Below.refl _ _⟩

end Go.Proofs.YtmifejkddgcbmabGreat

/- Every raw text is a forest that can be, or a named error at a place within it: the program and the document. -/
namespace Go.Proofs.YtmifejkddgcbmabGreat
open Go.RowKit
set_option linter.unusedVariables false
set_option linter.unusedSimpArgs false

/-- What Parse tells, whichever it is. -/
def PForm (r : Pr) (L : List (T 64)) (p : Nat) (c : Int) : Prop := r = .inl L ∧ p = 0 ∧ c = 0 ∨ r = .inr (p, c) ∧ L = []
theorem pform_of (r : Pr) : ∃ L p c, PForm r L p c := by
  rcases r with L | ⟨p, c⟩
  · exact ⟨L, 0, 0, .inl ⟨rfl, rfl, rfl⟩⟩
  · exact ⟨[], p, c, .inr ⟨rfl, rfl⟩⟩
theorem ppost_both {w : World} {r : Pr} {e : Ending} {w' : World} {L : List (T 64)} {p : Nat} {c : Int} (hr : PForm r L p c) (h : PPost w r e w') :
    ∃ a cap, e = .returned (.tuple #[.slice a L.length cap, .int .i64 (p : Int), .int .i64 c]) ∧ Tc.KidsAt w' 0 w'.heap.size 64 a L ∧ L.length ≤ maxK ∧ Below w.heap.size w w' := by
  rcases hr with ⟨rfl, rfl, rfl⟩ | ⟨rfl, rfl⟩
  · exact ppost_kids h
  · obtain ⟨rfl, hb⟩ := h
    exact ⟨none, 0, rfl, fun i k hk => by simp at hk, by simp, hb⟩
theorem raw_x : parseP [120] = .inl [txtT [120]] := by kernel_rfl

set_option maxRecDepth 100000 in
set_option maxHeartbeats 8000000 in
theorem raw_walk (w : World) (tx : ByteArray) (h0 : 0 < w.heap.size) (m : Int) (hm : w.cell? ⟨0, 0, none⟩ = some (.int .i64 m)) : Calls Tryz.prog 4 #[.string tx] w fun e w' => e = .returned (.bool true) ∧ Below w.heap.size w w' := by
  obtain ⟨L, p, c, hr⟩ := pform_of (parseP tx.data.toList)
  have hmade := parse_made tx.data.toList
  have hfacts : p ≤ tx.size ∧ ∀ t ∈ L, (chk 64 t 1 0).2 = 0 := by
    rcases hr with ⟨h1, rfl, rfl⟩ | ⟨h1, rfl⟩
    · rw [h1] at hmade
      exact ⟨Nat.zero_le _, (made_chk hmade.1 hmade.2).1⟩
    · rw [h1] at hmade
      have : p ≤ tx.data.toList.length := hmade
      rw [size_list] at this
      exact ⟨this, fun t ht => by simp at ht⟩
  have HM : Hid (∀ W, Below w.heap.size w W → W.cell? ⟨0, 0, none⟩ = some (.int .i64 m)) := fun W hW => (hW.cell (p := ⟨0, 0, none⟩) h0).trans hm
  have HR : Hid (PForm (parseP tx.data.toList) L p c) := hr
  have hp := parse_any w tx h0 m hm
  have HCHK : Hid (∀ t ∈ L, (chk 64 t 1 0).2 = 0) := hfacts.2
  have hple : ¬ (tx.size : Int) < (p : Int) := by have := hfacts.1; omega
  have hp0 : ¬ (p : Int) < 0 := by omega
  clear hr hmade hfacts hm
  go_enter Tryz.func4, Tryz.ntmps4
  go_wp2_with fail
  refine hp.mono ?_
  intro e w1 hp1
  obtain ⟨a, cap, rfl, hk, hl, hb1⟩ := ppost_both HR.out hp1
  have HL : Hid (L.length ≤ maxK) := hl
  have HK1 : Hid (Tc.KidsAt w1 0 w1.heap.size 64 a L) := hk
  have HB1 : Hid (Below w.heap.size w w1) := hb1
  have hs1 := hb1.size
  have hq := qparse_any w1 tx
  clear hp hp1 hk hl hb1
  go_wp2_with fail
  refine hq.mono ?_
  intro e w2 hp2
  obtain ⟨a2, cap2, rfl, hk2, -, hb2⟩ := ppost_both HR.out hp2
  have HB12 : Hid (Below w1.heap.size w1 w2) := hb2
  have hs2 := hb2.size
  have hfo := fores_all 64 w2 0 0 a a2 L cap cap2 (HK1.out.after hb2) hk2 HL.out
  have n1 : (c != c) = false := by simp
  have n2 : ((p : Int) != (p : Int)) = false := by simp
  clear hq hp2 hk2 hb2
  go_wp2_with fail
  refine hfo.mono ?_
  rintro e w3 ⟨rfl, hb3⟩
  have HB13 : Hid (Below w1.heap.size w1 w3) := HB12.out.trans (hb3.mono hs2)
  have hl1 : L.length ≤ 1599289640401 := HL.out
  have hpd : decide (tx.size < p) = false := decide_eq_false (by omega)
  clear hfo hb3 HB12
  go_wp2
  go_loopw [9] (fun v9 wr => ∃ i : Nat, i ≤ L.length ∧ v9 = .int .i64 (i : Int) ∧ Hid (Below w1.heap.size w1 wr)) (fun v9 _ => L.length - (intOf v9).toNat)
  case atStart => exact ⟨0, by omega, rfl, HB13⟩
  case round =>
    obtain ⟨i, hi, rfl, hb⟩ := hrel
    have hsr := hb.out.size
    have hKr := HK1.out.after hb.out
    by_cases hlt : i < L.length
    · have t1 : (i : Int) < (L.length : Int) := by omega
      have t0 : (0 : Int) ≤ (i : Int) := by omega
      obtain ⟨k, hk⟩ : ∃ k, L[i]? = some k := ⟨_, List.getElem?_eq_getElem hlt⟩
      obtain ⟨b, o, kk, nm, aa, al, ac, tx2, ka', kl, kc, rfl, -, hbl, c0, c1, c2, c3, c4, hT⟩ := hKr.get hk
      have hck := Tc.Check_any 64 wr _ k 0 wr.heap.size hT (Nat.le_refl _)
      rw [HCHK.out k (List.mem_of_getElem? hk)] at hck
      clear hk hT hKr
      go_wp2_with fail
      refine hck.mono ?_
      rintro e w5 ⟨rfl, hb5⟩
      have HB5 : Hid (Below w1.heap.size w1 w5) := hb.out.trans (hb5.mono hsr)
      clear hck hb5 c0 c1 c2 c3 c4
      go_wp2
      go_roundw
      case rel => exact ⟨i + 1, by omega, by go_num, HB5⟩
      case measure => simp [intOf]; omega
    · have t1 : ¬ (i : Int) < (L.length : Int) := by omega
      have HBr : Hid (Below w.heap.size w wr) := HB1.out.trans (hb.out.mono hs1)
      have hx := parse_any wr ⟨#[120]⟩ (by have := HBr.out.size; omega) m (HM.out wr HBr.out)
      rw [show parseP (⟨#[120]⟩ : ByteArray).data.toList = .inl [txtT [120]] from raw_x] at hx
      have hsw := HBr.out.size
      clear hKr
      go_wp2_with fail
      refine hx.mono ?_
      intro e w5 hp5
      obtain ⟨a5, cap5, rfl, -, -, hb5⟩ := ppost_kids hp5
      have HB5 : Hid (Below w.heap.size w w5) := HBr.out.trans (hb5.mono hsw)
      have hlen : ([txtT [120]] : List (T 64)).length = 1 := rfl
      rw [hlen]
      clear hx hp5 hb5
      go_wp2
      go_ret
      exact ⟨rfl, HB5.out⟩

end Go.Proofs.YtmifejkddgcbmabGreat
