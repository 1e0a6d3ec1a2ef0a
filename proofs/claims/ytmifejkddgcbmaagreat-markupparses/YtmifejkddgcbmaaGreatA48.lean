/- The document's Parse, for every text: as the program's. -/
import Derived.Test.YtmifejkddgcbmaaGreatA47
namespace Go.Proofs.YtmifejkddgcbmaaGreat
open Go.RowKit
set_option linter.unusedVariables false
set_option linter.unusedSimpArgs false
attribute [local go_sem] Bel.cell Bel.fz

theorem for_top (tx : ByteArray) (hl : tx.size ≤ 262144) : forQ tx.data.toList 64 [] ⟨0, 0, 0⟩ = forestP tx.data.toList := by
  have ok : Ok tx ⟨0, 0, 0⟩ := ⟨hl, Nat.zero_le _, Nat.zero_le _, Nat.zero_le _⟩
  unfold forQ forestP
  cases hs : sibP tx.data.toList 64 ⟨0, 0, 0⟩ with
  | inr q_ => obtain ⟨p, e⟩ := q_; rfl
  | inl q_ =>
    obtain ⟨x, s⟩ := q_
    simp only
    obtain ⟨st, -⟩ := sibs_ok tx 64 _ _ _ ok rfl hs
    have hend := sib_end tx 64 _ _ _ ok rfl hs
    have hle := st.ok.at_
    unfold closeQ
    by_cases ha : s.at_ = tx.data.toList.length
    · rw [if_pos ha, if_pos rfl, if_neg (by omega)]
    · rw [size_list] at ha
      have hs2 : seesP tx.data.toList pEnd s.at_ = true := by
        rcases hend with h | h
        · exact absurd h ha
        · exact h
      rw [if_neg (by rw [size_list]; exact ha), if_pos (by rw [size_list]; omega)]
      obtain ⟨r, e1, e2⟩ := sees_head hs2
      obtain ⟨t, e3⟩ : ∃ t, r = 47 :: t := by
        cases r with
        | nil => cases e2
        | cons x t =>
          rw [List.isPrefixOf_cons_cons, Bool.and_eq_true, beq_iff_eq] at e2
          exact ⟨t, by rw [← e2.1]⟩
      subst e3
      have g0 : tx.data.toList[s.at_]? = some 60 := by
        have := congrArg (fun z => z[0]?) e1
        simpa using this
      have g1 : tx.data.toList[s.at_ + 1]? = some 47 := by
        have := congrArg (fun z => z[1]?) e1
        simpa using this
      have x1 : expectP tx.data.toList 60 s = .inl ((), { s with at_ := s.at_ + 1 }) := by
        unfold expectP
        simp [g0]
      have x2 : expectP tx.data.toList 47 { s with at_ := s.at_ + 1 } = .inl ((), { s with at_ := s.at_ + 2 }) := by
        unfold expectP
        simp [g1]
      unfold endP endQ
      simp only [x1, x2]
      cases hn : nameP tx.data.toList { s with at_ := s.at_ + 2 } with
      | inr q_ => obtain ⟨p, e⟩ := q_; rfl
      | inl q_ =>
        obtain ⟨m, s3⟩ := q_
        obtain ⟨-, -, -, -, e5, -⟩ := nameP_ok hn
        have hm : ¬ m = [] := fun e => by rw [e] at e5; simp at e5
        simp [hm]

set_option maxRecDepth 100000 in
set_option maxHeartbeats 1000000 in
theorem qparse_any (w : World) (tx : ByteArray) : Calls Tryz.prog 8 #[.string tx] w (PPost w (parseP tx.data.toList)) := by
  by_cases hl : tx.size ≤ 262144
  · have t1 : ¬ (262144 : Int) < (tx.size : Int) := by omega
    have hq : QS (w.alloc (.cells #[.string tx, .int .i64 0, .int .i64 0, .int .i64 0, .int .i64 0, .slice none 0 0, .slice none 0 0, .bool false] 48)) w.heap.size (w.heap.size + 1) tx ⟨0, 0, 0⟩ [] [] :=
      ⟨rfl, .slice none 0 0, .slice none 0 0, ⟨heap_alloc_new w _, ⟨rfl, .inl ⟨rfl, rfl⟩⟩, ⟨rfl, .inl ⟨rfl, rfl⟩⟩, fun k hk => (by cases hk), by omega, by simp, fun _ => rfl⟩⟩
    have hfo := for_all 64 _ w.heap.size (w.heap.size + 1) tx ⟨0, 0, 0⟩ [] hq ⟨hl, Nat.zero_le _, Nat.zero_le _, Nat.zero_le _⟩ rfl
    rw [for_top tx hl] at hfo
    have HPP : Hid (parseP tx.data.toList = match forestP tx.data.toList with
      | .inr (p, e) => .inr (p, e)
      | .inl (x, _) => .inl x) := by
      show parseP _ = _
      unfold parseP
      rw [if_neg (by rw [size_list]; omega)]
      cases forestP tx.data.toList <;> rfl
    clear hq
    go_enter Tryz.func8, Tryz.ntmps8
    go_wp2_with fail
    refine hfo.mono ?_
    clear hfo
    rintro e w1 ⟨ht1, hp⟩
    have HB1 : Hid (Below w.heap.size w w1) := ⟨ht1.os, ht1.tape, ht1.output, Nat.le_trans (by simp) ht1.size, fun k hk => (ht1.block k (by simp; omega) (by omega)).trans (Below.heap_alloc _ _ _ hk)⟩
    cases hf : forestP tx.data.toList with
    | inr q_ =>
      obtain ⟨p, c⟩ := q_
      rw [hf] at hp
      obtain ⟨⟨va, vn, vc, rfl⟩, B, hc, q, vo, vt, op, o, hq, he, hpl, -, -⟩ := hp
      have HG : Hid (parseP tx.data.toList = .inr (p, c)) := by show _ = _; rw [HPP.out, hf]
      have t9 : (q.err == 0) = false := by rw [he]; exact beq_eq_false_iff_ne.2 hc
      have HQ : Hid (Qd w1 w.heap.size B tx q vo vt op o) := hq
      obtain ⟨h0, h1, h2, h3, h4, h5, h6, h7, fz, hb⟩ := hq.facts
      have HE : Hid (q.err = c ∧ q.place = p) := ⟨he, hpl⟩
      clear hf hq he hpl ht1 hc
      go_wp2_with fail
      refine (qok_any w1 w.heap.size B tx q vo vt op o HQ.out).mono ?_
      rintro e w8 ⟨rfl, hw8⟩
      obtain rfl := hw8.symm
      go_wp2
      go_region
      go_wp2
      rw [HG.out]
      exact bodyPost_ret (v := .tuple #[.slice none 0 0, .int .i64 (p : Int), .int .i64 c]) (by simp [results, Tryz.results8, go_sem, HE.out.1, HE.out.2]) rfl ⟨rfl, HB1.out.drew⟩
    | inl q_ =>
      obtain ⟨x, s1⟩ := q_
      rw [hf] at hp
      obtain ⟨⟨a, cap, xs, Rf, rfl, hx, hown, hfo, hrf⟩, hqs⟩ := hp
      have HG : Hid (parseP tx.data.toList = .inl x) := by show _ = _; rw [HPP.out, hf]
      have HR : Hid (w1.ownsRow w.heap.size 40 5 (.slice a x.length cap) x.length xs ∧ ForS (TreeS w1 64) Rf xs x ∧ (∀ b, Rf b → w.heap.size ≤ b ∧ b < w1.heap.size ∧ (Value.slice a x.length cap).ownBlock ≠ some b)) := by
        have hsz : (w.alloc (.cells #[.string tx, .int .i64 0, .int .i64 0, .int .i64 0, .int .i64 0, .slice none 0 0, .slice none 0 0, .bool false] 48)).heap.size = w.heap.size + 1 := by simp
        rw [hsz] at hown hrf
        exact ⟨own_base hown (fun k hk => by have := (own_block_lt hown k hk).1; omega), hfo, fun k hk => ⟨by have := (hrf k hk).1; omega, (hrf k hk).2⟩⟩
      obtain ⟨-, vo, vt, hq⟩ := hqs
      have HQ : Hid (Qd w1 w.heap.size w1.heap.size tx (okQ s1 (hasB [])) vo vt ([] : List ByteArray).dropLast []) := hq
      clear hf hq hown hfo hrf ht1
      go_wp2_with fail
      refine (qokT HQ.out).mono ?_
      rintro e w8 ⟨rfl, hw8⟩
      obtain rfl := hw8.symm
      go_wp2
      rw [HG.out]
      exact bodyPost_ret (v := .tuple #[.slice a x.length cap, .int .i64 0, .int .i64 0]) (by simp [results, Tryz.results8, go_sem]) rfl ⟨a, cap, xs, Rf, rfl, hx, HR.out.1, HR.out.2.1, HR.out.2.2, HB1.out⟩
  · have t1 : (262144 : Int) < (tx.size : Int) := by omega
    have HG : Hid (parseP tx.data.toList = .inr (0, 2)) := by show _ = _; unfold parseP; rw [if_pos (by rw [size_list]; omega)]
    go_enter Tryz.func8, Tryz.ntmps8
    go_wp2
    rw [HG.out]
    exact bodyPost_ret (v := .tuple #[.slice none 0 0, .int .i64 0, .int .i64 2]) (by simp [results, Tryz.results8, go_sem]) rfl ⟨rfl, Below.refl _ _⟩

end Go.Proofs.YtmifejkddgcbmaaGreat

/- alike of two forests that are the same: true, and nothing that was there is changed. -/
namespace Go.Proofs.YtmifejkddgcbmaaGreat
open Go.RowKit
set_option linter.unusedVariables false
set_option linter.unusedSimpArgs false
attribute [local go_sem] Bel.cell Bel.fz

def AlikeAll (d : Nat) : Prop := ∀ (w : World) (L : List (T d)) (a a2 : Option Addr) (c c2 : Nat) (xs xs2 : List Value) (R R2 : Nat → Prop), L.length ≤ 600000 → (∀ b, R b → b < w.heap.size) → (∀ b, R2 b → b < w.heap.size) → w.ownsRow 0 40 5 (.slice a L.length c) L.length xs → ForS (TreeS w d) R xs L → w.ownsRow 0 40 5 (.slice a2 L.length c2) L.length xs2 → ForS (TreeS w d) R2 xs2 L →
  Calls Tryz.prog 10 #[.slice a L.length c, .slice a2 L.length c2] w fun e w' => e = .returned (.bool true) ∧ Below w.heap.size w w'

set_option maxRecDepth 100000 in
set_option maxHeartbeats 2000000 in
theorem alike_zero : AlikeAll 0 := by
  intro w L a a2 c c2 xs xs2 R R2 hl hR hR2 ho hf ho2 hf2
  have hL : L = [] := by
    cases L with
    | nil => rfl
    | cons t r =>
      obtain ⟨-, -, Rk, h3, -, -⟩ := hf
      obtain ⟨u, -, -, h⟩ := h3 0 t rfl
      exact h.elim
  subst hL
  clear ho hf ho2 hf2 hl hR hR2
  go_enter Tryz.func10, Tryz.ntmps10
  go_wp2
  go_loopw [5] (fun v5 wr => v5 = .int .i64 0 ∧ wr = w) (fun _ _ => 0)
  case atStart => exact ⟨rfl, rfl⟩
  case round =>
    obtain ⟨rfl, hw⟩ := hrel
    obtain rfl := hw.symm
    go_wp2
    go_ret
    exact ⟨rfl, Below.refl _ _⟩

theorem two_new (w : World) (o1 o2 : Obj) : ((w.alloc o1).alloc o2).heap[w.heap.size + 1]? = some o2 := by
  have := heap_alloc_new (w.alloc o1) o2
  rw [show (w.alloc o1).heap.size = w.heap.size + 1 by simp] at this
  exact this
/-- A tree of a row, by its cells. -/
theorem row_tree {w : World} {d : Nat} {L : List (T (d + 1))} {a : Option Addr} {c : Nat} {xs : List Value} {R : Nat → Prop} (ho : w.ownsRow 0 40 5 (.slice a L.length c) L.length xs) (hf : ForS (TreeS w (d + 1)) R xs L) {i : Nat} {t : T (d + 1)} (ht : L[i]? = some t) :
    ∃ g S aa ac ka kc, a = some ⟨g, 0, none⟩ ∧ g < w.heap.size ∧ L.length ≤ c ∧ w.cell? ⟨g, i * 5, none⟩ = some (.int .i64 t.kind) ∧ w.cell? ⟨g, i * 5 + 1, none⟩ = some (.string t.name) ∧ w.cell? ⟨g, i * 5 + 2, none⟩ = some (.slice aa t.attrs.length ac) ∧ w.cell? ⟨g, i * 5 + 3, none⟩ = some (.string t.text) ∧ w.cell? ⟨g, i * 5 + 4, none⟩ = some (.slice ka t.kids.length kc) ∧ TreeS w (d + 1) S (tv t.kind t.name aa t.attrs.length ac t.text ka t.kids.length kc) t ∧ ∀ b, S b → R b := by
  obtain ⟨h1, h2, Rk, h3, h4, h5⟩ := hf
  obtain ⟨u, e1, e2, e3⟩ := h3 i t ht
  obtain ⟨r1, r2, r3⟩ := row_cell ho
  have e3' := e3
  obtain ⟨aa, ac, ka, kc, ys, Rf, rfl, -⟩ := e3'
  have hj : ∀ j v, (tv t.kind t.name aa t.attrs.length ac t.text ka t.kids.length kc)[j]? = some v → j < 5 → ∃ g, a = some ⟨g, 0, none⟩ ∧ g < w.heap.size ∧ w.cell? ⟨g, i * 5 + j, none⟩ = some v := fun j v hv hj => by
    obtain ⟨g, q1, -, q2, q3⟩ := r3 (i * 5 + j) v (by rw [e2 j hj]; exact hv)
    exact ⟨g, q1, q2, q3⟩
  obtain ⟨g, rfl, hg, c0⟩ := hj 0 _ rfl (by omega)
  obtain ⟨_, q1, -, c1⟩ := hj 1 _ rfl (by omega)
  cases q1
  obtain ⟨_, q2, -, c2⟩ := hj 2 _ rfl (by omega)
  cases q2
  obtain ⟨_, q3, -, c3⟩ := hj 3 _ rfl (by omega)
  cases q3
  obtain ⟨_, q4, -, c4⟩ := hj 4 _ rfl (by omega)
  cases q4
  exact ⟨g, _, aa, ac, ka, kc, rfl, hg, r1, c0, c1, c2, c3, c4, e3, fun b hb => h4 i b (List.getElem?_eq_some_iff.1 ht).1 hb⟩

theorem tree_parts {w : World} {d : Nat} {S Q : Nat → Prop} {t : T (d + 1)} {aa ka : Option Addr} {ac kc : Nat} (h : TreeS w (d + 1) S (tv t.kind t.name aa t.attrs.length ac t.text ka t.kids.length kc) t) (hQ : ∀ b, S b → Q b) :
    t.attrs.length ≤ 32 ∧ t.kids.length ≤ 600000 ∧ w.ownsRow 0 55 2 (.slice aa t.attrs.length ac) t.attrs.length (attrCells t.attrs) ∧ ∃ ys Rf, w.ownsRow 0 40 5 (.slice ka t.kids.length kc) t.kids.length ys ∧ ForS (TreeS w d) Rf ys t.kids ∧ ∀ b, Rf b → Q b := by
  obtain ⟨a', ac', ka', kc', ys, Rf, ev, l1, l2, o4, o5, f6, f7, f8, f9⟩ := h
  simp only [tv, Array.mk.injEq, List.cons.injEq, Value.slice.injEq, true_and, and_true] at ev
  obtain ⟨⟨rfl, rfl⟩, rfl, rfl⟩ := ev
  exact ⟨l1, l2, o4, ys, Rf, o5, f6, fun b hb => hQ b (f7 b hb)⟩

set_option maxRecDepth 100000 in
set_option maxHeartbeats 4000000 in
theorem alike_succ (d : Nat) (ih : AlikeAll d) : AlikeAll (d + 1) := by
  intro w L a a2 c c2 xs xs2 R R2 hl hR hR2 ho hf ho2 hf2
  have H1 : Hid (∀ W, Below w.heap.size w W → W.ownsRow 0 40 5 (.slice a L.length c) L.length xs ∧ ForS (TreeS W (d + 1)) R xs L) := fun W hb => ⟨owns_below ho hb, hf.to (fun b hb' => hb.block b (hR b hb')) (fun _ h => h)⟩
  have H2 : Hid (∀ W, Below w.heap.size w W → W.ownsRow 0 40 5 (.slice a2 L.length c2) L.length xs2 ∧ ForS (TreeS W (d + 1)) R2 xs2 L) := fun W hb => ⟨owns_below ho2 hb, hf2.to (fun b hb' => hb.block b (hR2 b hb')) (fun _ h => h)⟩
  have HR : Hid (∀ b, R b → b < w.heap.size) := hR
  have HR2 : Hid (∀ b, R2 b → b < w.heap.size) := hR2
  clear ho hf ho2 hf2 hR hR2
  go_enter Tryz.func10, Tryz.ntmps10
  go_wp2
  go_loopw [5] (fun v5 wr => ∃ i : Nat, i ≤ L.length ∧ v5 = .int .i64 (i : Int) ∧ Hid (Below w.heap.size w wr)) (fun v5 _ => L.length - (intOf v5).toNat)
  case atStart => exact ⟨0, by omega, rfl, Below.refl _ _⟩
  case round =>
    obtain ⟨i, hi, rfl, hbw⟩ := hrel
    by_cases hlt : i < L.length
    · have t1 : (i : Int) < (L.length : Int) := by omega
      obtain ⟨t, ht⟩ : ∃ t, L[i]? = some t := ⟨_, List.getElem?_eq_getElem hlt⟩
      obtain ⟨g, S, aa, ac, ka, kc, rfl, hg, hcc, c0, c1, c2, c3, c4, hT, hSR⟩ := row_tree (H1.out wr hbw.out).1 (H1.out wr hbw.out).2 ht
      obtain ⟨g2, S2, aa2, ac2, ka2, kc2, rfl, hg2, hcc2, d0, d1, d2, d3, d4, hT2, hSR2⟩ := row_tree (H2.out wr hbw.out).1 (H2.out wr hbw.out).2 ht
      have HK : Hid (t.attrs.length ≤ 32 ∧ t.kids.length ≤ 600000 ∧ wr.ownsRow 0 55 2 (.slice aa t.attrs.length ac) t.attrs.length (attrCells t.attrs) ∧ ∃ ys Rf, wr.ownsRow 0 40 5 (.slice ka t.kids.length kc) t.kids.length ys ∧ ForS (TreeS wr d) Rf ys t.kids ∧ ∀ b, Rf b → b < w.heap.size) := tree_parts hT (fun b hb => HR.out b (hSR b hb))
      have HK2 : Hid (t.attrs.length ≤ 32 ∧ t.kids.length ≤ 600000 ∧ wr.ownsRow 0 55 2 (.slice aa2 t.attrs.length ac2) t.attrs.length (attrCells t.attrs) ∧ ∃ ys Rf, wr.ownsRow 0 40 5 (.slice ka2 t.kids.length kc2) t.kids.length ys ∧ ForS (TreeS wr d) Rf ys t.kids ∧ ∀ b, Rf b → b < w.heap.size) := tree_parts hT2 (fun b hb => HR2.out b (hSR2 b hb))
      have hbs := hbw.out.size
      have t0 : (0 : Int) ≤ (i : Int) := by omega
      clear hT hT2 ht hSR hSR2
      go_upto_region 6 with fail
      go_cut [6, 7] (fun s6 s7 wx => ∃ x y : Nat, s6 = .pointer (some ⟨x, 0, none⟩) ∧ s7 = .pointer (some ⟨y, 0, none⟩) ∧ wx.heap[x]? = some (.cells #[.int .i64 t.kind, .string t.name, .slice aa t.attrs.length ac, .string t.text, .slice ka t.kids.length kc] 40 (0, 0)) ∧ wx.heap[y]? = some (.cells #[.int .i64 t.kind, .string t.name, .slice aa2 t.attrs.length ac2, .string t.text, .slice ka2 t.kids.length kc2] 40 (0, 0)) ∧ Hid (Below wr.heap.size wr wx))
      case first =>
        go_region
        · go_wp2_with fail
          go_meet
          exact ⟨_, _, rfl, rfl, (Below.heap_alloc _ _ _ (by simp)).trans (heap_alloc_new _ _), (two_new _ _ _), (((Below.refl _ wr).alloc (Nat.le_refl _) _).alloc (by simp) _).drew⟩
        · go_wp2_with fail
          go_meet
          exact ⟨_, _, rfl, rfl, (two_new _ _ _), (Below.heap_alloc _ _ _ (by simp)).trans (heap_alloc_new _ _), (((Below.refl _ wr).alloc (Nat.le_refl _) _).alloc (by simp) _).drew⟩
      case rest =>
        obtain ⟨x, y, rfl, rfl, hx, hy, hbx⟩ := hcut
        obtain ⟨l1, l2, o4, ys, Rf, o5, f6, f7⟩ := HK.out
        obtain ⟨-, -, o42, ys2, Rf2, o52, f62, f72⟩ := HK2.out
        have hkid := ih wc t.kids ka ka2 kc kc2 ys ys2 Rf Rf2 l2 (fun b hb => by have := f7 b hb; have := hbx.out.size; omega) (fun b hb => by have := f72 b hb; have := hbx.out.size; omega) (owns_below o5 hbx.out) (f6.to (fun b hb => hbx.out.block b (by have := f7 b hb; omega)) (fun _ h => h)) (owns_below o52 hbx.out) (f62.to (fun b hb => hbx.out.block b (by have := f72 b hb; omega)) (fun _ h => h))
        have HX : Hid (wc.heap[x]? = some (.cells #[.int .i64 t.kind, .string t.name, .slice aa t.attrs.length ac, .string t.text, .slice ka t.kids.length kc] 40 (0, 0))) := hx
        have HY : Hid (wc.heap[y]? = some (.cells #[.int .i64 t.kind, .string t.name, .slice aa2 t.attrs.length ac2, .string t.text, .slice ka2 t.kids.length kc2] 40 (0, 0))) := hy
        have HO4 : Hid (wc.ownsRow 0 55 2 (.slice aa t.attrs.length ac) t.attrs.length (attrCells t.attrs)) := owns_below o4 hbx.out
        have HBWC : Hid (Below w.heap.size w wc) := hbw.out.trans (hbx.out.mono hbs)
        have hws : w.heap.size ≤ wc.heap.size := HBWC.out.size
        have HO42 : Hid (wc.ownsRow 0 55 2 (.slice aa2 t.attrs.length ac2) t.attrs.length (attrCells t.attrs)) := owns_below o42 hbx.out
        have n1 : (t.kind != t.kind) = false := by simp
        have n2 : (t.name.toList == t.name.toList) = true := by simp
        have n3 : (t.text.toList == t.text.toList) = true := by simp
        have n4 : ((t.attrs.length : Int) != (t.attrs.length : Int)) = false := by simp
        have x5 : ∀ v : Array Value, ∀ W : World, ∀ c : Nat, W.heap[c]? = some (.cells v 40 (0, 0)) → ∀ j u, v[j]? = some u → W.cell? ⟨c, j, none⟩ = some u := fun v W c h j u hu => by simp [World.cell?, h, hu]
        have p0 := x5 _ _ _ hx 0 _ rfl
        have p1 := x5 _ _ _ hx 1 _ rfl
        have p2 := x5 _ _ _ hx 2 _ rfl
        have p3 := x5 _ _ _ hx 3 _ rfl
        have p4 := x5 _ _ _ hx 4 _ rfl
        have q0 := x5 _ _ _ hy 0 _ rfl
        have q1 := x5 _ _ _ hy 1 _ rfl
        have q2 := x5 _ _ _ hy 2 _ rfl
        have q3 := x5 _ _ _ hy 3 _ rfl
        have q4 := x5 _ _ _ hy 4 _ rfl
        have xl := (Array.getElem?_eq_some_iff.1 hx).1
        have yl := (Array.getElem?_eq_some_iff.1 hy).1
        clear x5 hx hy o4 o42 o5 o52 f6 f62 f7 f72 c0 c1 c2 c3 c4 d0 d1 d2 d3 d4 HK HK2
        go_wp2_with fail
        refine hkid.mono ?_
        rintro e w5 ⟨rfl, hb5⟩
        clear hkid
        have HB5 : Hid (Below wc.heap.size wc w5) := hb5
        clear hb5
        go_wp2
        go_loopw [8] (fun v8 wr2 => ∃ j : Nat, j ≤ t.attrs.length ∧ v8 = .int .i64 (j : Int) ∧ Hid (Below wc.heap.size wc wr2)) (fun v8 _ => t.attrs.length - (intOf v8).toNat)
        case atStart => exact ⟨0, by omega, rfl, HB5⟩
        case round =>
          obtain ⟨j, hj, rfl, hb2⟩ := hrel
          have z2 := (hb2.out.cell (p := ⟨x, 2, none⟩) xl).trans p2
          have y2 := (hb2.out.cell (p := ⟨y, 2, none⟩) yl).trans q2
          by_cases hjl : j < t.attrs.length
          · have u1 : (j : Int) < (t.attrs.length : Int) := by omega
            obtain ⟨pr, hpr⟩ : ∃ pr, t.attrs[j]? = some pr := ⟨_, List.getElem?_eq_getElem hjl⟩
            obtain ⟨gb, go, rfl, ⟨-, -, gl⟩, gc0, gc1⟩ := (attrs_row HO4.out rfl).1 j pr hpr
            obtain ⟨gb2, go2, rfl, ⟨-, -, gl2⟩, gc20, gc21⟩ := (attrs_row HO42.out rfl).1 j pr hpr
            have k0 := (hb2.out.cell (p := ⟨gb, go + j * 2, none⟩) gl).trans gc0
            have k1 := (hb2.out.cell (p := ⟨gb, go + j * 2 + 1, none⟩) gl).trans gc1
            have m0 := (hb2.out.cell (p := ⟨gb2, go2 + j * 2, none⟩) gl2).trans gc20
            have m1 := (hb2.out.cell (p := ⟨gb2, go2 + j * 2 + 1, none⟩) gl2).trans gc21
            have n5 : (pr.1.toList == pr.1.toList) = true := by simp
            have n6 : (pr.2.toList == pr.2.toList) = true := by simp
            have j0 : (0 : Int) ≤ (j : Int) := by omega
            clear hpr gc0 gc1 gc20 gc21
            go_wp2
            go_region
            go_wp2
            refine ⟨⟨j + 1, by omega, by simp, hb2.out.drew⟩, ?_⟩
            simp [intOf]; omega
          · have u1 : ¬ (j : Int) < (t.attrs.length : Int) := by omega
            have HBW : Hid (Below w.heap.size w wr) := HBWC.out.trans (hb2.out.mono hws)
            go_wp2
            refine ⟨⟨i + 1, by omega, by simp, HBW⟩, ?_⟩
            simp [intOf]; omega
    · have t1 : ¬ (i : Int) < (L.length : Int) := by omega
      go_wp2
      go_ret
      exact ⟨rfl, hbw.out⟩

theorem alike_all : ∀ d : Nat, AlikeAll d
  | 0 => alike_zero
  | d + 1 => alike_succ d (alike_all d)

end Go.Proofs.YtmifejkddgcbmaaGreat
