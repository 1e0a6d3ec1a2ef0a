/- counted: a list of numbers, told one by one. -/
import Derived.Test.YtjkgjckkglfokaaHo
namespace Go.Proofs.Ytjkgjckkglfokaa
open Go.RowKit Go.Shelf
set_option linter.unusedVariables false
attribute [local go_sem] Oper.semAt_some

/-- Numbers lie in memory, in blocks of K. -/
def NumsAt (w : World) (K : Nat → Prop) (a : Option Addr) (L : List Int) : Prop := ∀ i x, L[i]? = some x → ∃ g o, a = some ⟨g, o, none⟩ ∧ K g ∧ g < w.heap.size ∧ w.cell? ⟨g, o + i, none⟩ = some (.int .i64 x)
theorem NumsAt.tn {A K : Nat → Prop} {w w' : World} {a : Option Addr} {L : List Int} (h : NumsAt w K a L) (ht : Tn A w w') (hA : ∀ b, K b → ¬ A b) : NumsAt w' K a L := fun i x hx => by
  obtain ⟨g, o, h1, h2, h3, h4⟩ := h i x hx
  exact ⟨g, o, h1, h2, Nat.lt_of_lt_of_le h3 ht.size, (World.cell?_of_block (w := w) (a := ⟨g, o + i, none⟩) (ht.block g h3 (hA g h2))).trans h4⟩
theorem take_pre {β : Type} {l : List β} {k : Nat} {x : β} (h : l[k]? = some x) : l.take k ++ [x] = l.take (k + 1) ∧ l.take k ++ [x] <+: l := by
  obtain ⟨h1, h2⟩ := List.getElem?_eq_some_iff.1 h
  have e : l.take k ++ [x] = l.take (k + 1) := by rw [List.take_succ_eq_append_getElem h1, h2]
  exact ⟨e, by rw [e]; exact List.take_prefix _ _⟩

/-- On the way of an iterator without a range of its own. -/
structure Way {α : Type} (J : Inv α) (C0 T R : Nat → Prop) (Sq : World → Prop) (W : World) (s : List α) (X : World) (C : Nat → Prop) : Prop where
  j : J s C X
  sub : ∀ b, C b → C0 b ∨ W.heap.size ≤ b
  tn : Tn (fun b => T b ∨ C0 b) W X
  sq : Sq X

set_option maxRecDepth 100000 in
set_option maxHeartbeats 2000000 in
theorem counted_seq {xs : List Int} {a : Option Addr} {cap lb nb cb : Nat} {K : Nat → Prop} (hl : xs.length < 4611686018427387904) (hK : ¬ K cb) (h1 : lb ≠ cb) (h2 : nb ≠ cb) :
    IsSeq Try.prog 41 #[.pointer (some ⟨lb, 0, none⟩), .pointer (some ⟨nb, 0, none⟩)] encI xs (fun b => b = lb ∨ b = nb ∨ b = cb ∨ ∃ g o, a = some ⟨g, o, none⟩ ∧ K g ∧ xs ≠ [] ∧ b = g) (fun b => b = cb) (fun W => IsC W lb #[.slice a xs.length cap] ∧ IsC W nb #[.pointer (some ⟨cb, 0, none⟩)] ∧ (∃ k, IsC W cb #[.int .i64 k]) ∧ NumsAt W K a xs) := by
  have stab : ∀ W W' A, (IsC W lb #[.slice a xs.length cap] ∧ IsC W nb #[.pointer (some ⟨cb, 0, none⟩)] ∧ (∃ k, IsC W cb #[.int .i64 k]) ∧ NumsAt W K a xs) → Tn A W W' → ¬ A lb → ¬ A nb → (∀ g o, a = some ⟨g, o, none⟩ → K g → xs ≠ [] → ¬ A g) → (∃ k, IsC W' cb #[.int .i64 k]) → (IsC W' lb #[.slice a xs.length cap] ∧ IsC W' nb #[.pointer (some ⟨cb, 0, none⟩)] ∧ (∃ k, IsC W' cb #[.int .i64 k]) ∧ NumsAt W' K a xs) := by
    rintro W W' A ⟨q1, q2, q3, q4⟩ ht a1 a2 a3 hk
    refine ⟨q1.tn ht a1, q2.tn ht a2, hk, fun i x hx => ?_⟩
    obtain ⟨g, o, e1, e2, e3, e4⟩ := q4 i x hx
    exact ⟨g, o, e1, e2, Nat.lt_of_lt_of_le e3 ht.size, (World.cell?_of_block (w := W) (a := ⟨g, o + i, none⟩) (ht.block g e3 (a3 g o e1 e2 (by rintro rfl; simp at hx)))).trans e4⟩
  refine ⟨fun b hb => .inr (.inr (.inl hb)), fun W h b hb => ?_, fun W W' A h ht hA => ?_, ?_⟩
  · rcases hb with rfl | rfl | rfl | ⟨g, o, e1, e2, e3, rfl⟩
    · exact h.1.lt
    · exact h.2.1.lt
    · obtain ⟨k, hk⟩ := h.2.2.1; exact hk.lt
    · obtain ⟨x, r, rfl⟩ := List.exists_cons_of_ne_nil e3
      obtain ⟨g', o', e4, -, e5, -⟩ := h.2.2.2 0 x rfl
      rw [e1] at e4
      cases e4
      exact e5
  · obtain ⟨k, hk⟩ := h.2.2.1
    exact stab W W' A h ht (hA _ (.inl rfl)) (hA _ (.inr (.inl rfl))) (fun g o e1 e2 e3 => hA _ (.inr (.inr (.inr ⟨g, o, e1, e2, e3, rfl⟩)))) ⟨k, hk.tn ht (hA _ (.inr (.inr (.inl rfl))))⟩
  · intro W l J Jx C0 D hq stJ stJx hY h0 hd hdT
    obtain ⟨Sq, hSq⟩ : ∃ Sq : World → Prop, Sq = fun W => IsC W lb #[.slice a xs.length cap] ∧ IsC W nb #[.pointer (some ⟨cb, 0, none⟩)] ∧ (∃ k, IsC W cb #[.int .i64 k]) ∧ NumsAt W K a xs := ⟨_, rfl⟩
    have hq' : Sq W := by rw [hSq]; exact hq
    have HSq : Hid (Sq = fun W => IsC W lb #[.slice a xs.length cap] ∧ IsC W nb #[.pointer (some ⟨cb, 0, none⟩)] ∧ (∃ k, IsC W cb #[.int .i64 k]) ∧ NumsAt W K a xs) := hSq
    have HY : Hid (RoundOk Try.prog l encI xs J Jx) := hY
    have HD : Hid (∀ b, C0 b → ¬ (b = lb ∨ b = nb ∨ b = cb ∨ ∃ g o, a = some ⟨g, o, none⟩ ∧ K g ∧ xs ≠ [] ∧ b = g)) := hd
    have HSJ : Hid (Stb D J ∧ Stb D Jx) := ⟨stJ, stJx⟩
    have HST : Hid (∀ W W' A, (IsC W lb #[.slice a xs.length cap] ∧ IsC W nb #[.pointer (some ⟨cb, 0, none⟩)] ∧ (∃ k, IsC W cb #[.int .i64 k]) ∧ NumsAt W K a xs) → Tn A W W' → ¬ A lb → ¬ A nb → (∀ g o, a = some ⟨g, o, none⟩ → K g → xs ≠ [] → ¬ A g) → (∃ k, IsC W' cb #[.int .i64 k]) → (IsC W' lb #[.slice a xs.length cap] ∧ IsC W' nb #[.pointer (some ⟨cb, 0, none⟩)] ∧ (∃ k, IsC W' cb #[.int .i64 k]) ∧ NumsAt W' K a xs)) := stab
    have HLW : Hid (lb < W.heap.size ∧ nb < W.heap.size ∧ cb < W.heap.size ∧ (∀ g o, a = some ⟨g, o, none⟩ → K g → xs ≠ [] → g < W.heap.size)) := by
      obtain ⟨k, hk⟩ := hq.2.2.1
      refine ⟨hq.1.lt, hq.2.1.lt, hk.lt, fun g o e1 e2 e3 => ?_⟩
      obtain ⟨x, r, rfl⟩ := List.exists_cons_of_ne_nil e3
      obtain ⟨g', o', e4, -, e5, -⟩ := hq.2.2.2 0 x rfl
      rw [e1] at e4
      cases e4
      exact e5
    have HW0 : Hid (Way J C0 (fun b => b = cb) (fun _ => True) Sq W [] W C0) := ⟨h0, fun _ h => .inl h, Tn.refl _ _, hq'⟩
    have hxs : (xs.length : Int) < 4611686018427387904 := by omega
    have hro : Fence.wide.round = none := rfl
    have hmo : Try.prog.follows Departure.mixedOrders = true := by kernel_rfl
    have hn1 : ∀ b w, (Op.unary UnOp.not (.bool b)).run Try.prog w = .ok (.bool (!b)) w := fun b _ => by cases b <;> kernel_rfl
    have HDT : Hid (∀ b, D b → ¬ b = cb) := hdT
    clear hdT hY hd stJ stJx h0 hq hq' hSq stab
    refine callsIn_of_wp Try.func41 rfl trivial ?_ rfl
    simp only [Try.ntmps41, List.size_toArray, List.length_cons, List.length_nil, Nat.reduceAdd, Nat.reduceSub, Array.replicate_succ, Array.replicate_zero, List.push_toArray, List.append_toArray, List.nil_append, List.cons_append]
    gi_wp2
    gi_loopw [4] (fun i wr => ∃ k : Nat, k ≤ xs.length ∧ i = .int .i64 (k : Int) ∧ Hid (∃ C, Way J C0 (fun b => b = cb) (fun _ => True) Sq W (xs.take k) wr C)) (fun i _ => xs.length - (intOf i).toNat)
    case atStart => exact ⟨0, Nat.zero_le _, rfl, ⟨_, HW0.out⟩⟩
    case round =>
      clear HW0
      obtain ⟨k, hk, rfl, HWk⟩ := hrel
      obtain ⟨C, hway⟩ := HWk.out
      have hsq := hway.sq
      rw [HSq.out] at hsq
      obtain ⟨q1, q2, ⟨c, q3⟩, q4⟩ := hsq
      have c1 : wr.cell? ⟨lb, 0, none⟩ = some (.slice a xs.length cap) := q1.cell 0
      have c2 : wr.cell? ⟨nb, 0, none⟩ = some (.pointer (some ⟨cb, 0, none⟩)) := q2.cell 0
      have c3 : wr.cell? ⟨cb, 0, none⟩ = some (.int .i64 c) := q3.cell 0
      have f3 := q3.frozen 0
      by_cases hlt : k < xs.length
      · have hx := List.getElem?_eq_getElem hlt
        obtain ⟨g, o, ha, hg1, hg2, hg3⟩ := q4 k _ hx
        obtain ⟨e1, e2⟩ := take_pre hx
        generalize xs[k] = x at *
        subst ha
        have hne : xs ≠ [] := by rintro rfl; simp at hlt
        have hgc : g ≠ cb := fun e => hK (e ▸ hg1)
        have hk1 : (k : Int) < (xs.length : Int) := by omega
        have hcl := q3.lt
        have hll := q1.lt
        have hnl := q2.lt
        have HQ3 : Hid (IsC wr cb #[.int .i64 c]) := q3
        have HE : Hid (xs.take k ++ [x] = xs.take (k + 1) ∧ xs.take k ++ [x] <+: xs) := ⟨e1, e2⟩
        have HWY : Hid (Way J C0 (fun b => b = cb) (fun _ => True) Sq W (xs.take k) wr C) := hway
        clear q1 q2 q3 q4 e1 e2 hway HWk hx
        obtain ⟨X1, hX1⟩ : ∃ X1, (wr.setCell ⟨cb, 0, none⟩ (.int .i64 (IntKind.i64.wrap (c + 1)))).drew = X1 := ⟨_, rfl⟩
        have t1 : Tn (fun b => b = cb) wr X1 := by rw [← hX1]; exact ((Tn.refl (fun b => b = cb) wr).set (p := ⟨cb, 0, none⟩) (.inl rfl) _).drew
        have d1 : X1.cell? ⟨lb, 0, none⟩ = some (.slice (some ⟨g, o, none⟩) xs.length cap) := (World.cell?_of_block (w := wr) (a := ⟨lb, 0, none⟩) (t1.block lb hll h1)).trans c1
        have d3 : X1.cell? ⟨g, o + k, none⟩ = some (.int .i64 x) := (World.cell?_of_block (w := wr) (a := ⟨g, o + k, none⟩) (t1.block g hg2 hgc)).trans hg3
        have hg2' : g < X1.heap.size := Nat.lt_of_lt_of_le hg2 t1.size
        have hll' : lb < X1.heap.size := Nat.lt_of_lt_of_le hll t1.size
        have HSX : Hid (Sq X1) := by
          have := HWY.out.sq
          show Sq X1
          rw [HSq.out] at this ⊢
          refine HST.out wr X1 _ this t1 h1 h2 (fun g' o' e _ _ e2 => hgc (by cases e; exact e2)) ⟨IntKind.i64.wrap (c + 1), ?_⟩
          obtain ⟨t, ht⟩ := HQ3.out
          exact ⟨t, by rw [← hX1]; show (wr.setCell _ _).heap[cb]? = _; simp [World.setCell, Array.getElem?_modify, ht]⟩
        have hCc : ∀ b, C b → ¬ (b = cb) := fun b hb e => by
          rcases HWY.out.sub b hb with h | h
          · exact HD.out b h (.inr (.inr (.inl e)))
          · have := HLW.out.2.2.1; omega
        have hJ1 : J (xs.take k) C X1 := HSJ.out.1.2 _ _ _ _ _ HWY.out.j t1 (fun b hb => hb.elim (hCc b) (HDT.out b))
        have hX := HY.out _ x C X1 HE.out.2 hJ1
        unfold encI at hX
        obtain ⟨fn, tmps, assign, body, hy2, hR⟩ := hX
        have HX1 : Hid ((wr.setCell ⟨cb, 0, none⟩ (.int .i64 (IntKind.i64.wrap (c + 1)))).drew = X1) := hX1
        have HT1 : Hid (Tn (fun b => b = cb ∨ C0 b) W X1) := HWY.out.tn.trans t1 (fun _ _ h => .inl h)
        have HSU : Hid (∀ b, C b → C0 b ∨ W.heap.size ≤ b) := HWY.out.sub
        clear hX1 t1 hJ1 hCc
        gi_wp2_with fail
        gi_region_with_o (fail)
        all_goals (
          rw [HX1.out]
          clear c1 c2 c3 f3 hg3 hcl hll hnl HQ3 HWY HX1
          gi_wp2_with fail
          refine ⟨rfl, RoundIn.mono (F := Fence.wide) hR ?_⟩
          rintro e Y ⟨C', tY, hC', hJ2⟩
          obtain ⟨bv, rfl, hJ3⟩ := yes_no hJ2
          have HYW : Hid (Tn (fun b => b = cb ∨ C0 b) W Y ∧ Sq Y ∧ (∀ b, C' b → C0 b ∨ W.heap.size ≤ b) ∧ (bv = true → J (xs.take (k + 1)) C' Y) ∧ (bv = false → Jx (xs.take (k + 1)) C' Y)) := by
            have hs1 := HT1.out.size
            refine ⟨HT1.out.trans tY (fun i hi h => (HSU.out i h).elim .inr (fun h => by omega)), ?_, fun b hb => ?_, by rw [← HE.out.1]; exact hJ3.1, by rw [← HE.out.1]; exact hJ3.2⟩
            · have hq := HSX.out
              rw [HSq.out] at hq ⊢
              have nC : ∀ b, b < W.heap.size → (b = lb ∨ b = nb ∨ b = cb ∨ ∃ g' o', (some (⟨g, o, none⟩ : Addr)) = some ⟨g', o', none⟩ ∧ K g' ∧ xs ≠ [] ∧ b = g') → ¬ C b := fun b hb h hc => (HSU.out b hc).elim (fun h' => HD.out b h' h) (fun h' => by omega)
              obtain ⟨c', hc'⟩ := hq.2.2.1
              exact HST.out X1 Y _ hq tY (nC _ HLW.out.1 (.inl rfl)) (nC _ HLW.out.2.1 (.inr (.inl rfl))) (fun g' o' e1 e2 e3 => nC _ (HLW.out.2.2.2 g' o' e1 e2 e3) (.inr (.inr (.inr ⟨g', o', e1, e2, e3, rfl⟩)))) ⟨c', hc'.tn tY (nC _ HLW.out.2.2.1 (.inr (.inr (.inl rfl))))⟩
            · rcases hC' b hb with h | h
              · exact HSU.out b h
              · exact .inr (by omega)
          clear hJ2 hJ3 tY hC' hR
          cases bv with
          | true =>
            have HG : Hid (∃ C, Way J C0 (fun b => b = cb) (fun _ => True) Sq W (xs.take (k + 1)) Y C) := ⟨C', HYW.out.2.2.2.1 rfl, HYW.out.2.2.1, HYW.out.1, HYW.out.2.1⟩
            clear HYW
            gi_wp2
            go_roundw
            case rel => exact ⟨k + 1, by omega, by go_num, HG⟩
            case measure => simp [intOf]; omega
          | false =>
            have HG : Hid (Tn (fun b => b = cb ∨ C0 b) W Y ∧ Sq Y ∧ (∀ b, C' b → C0 b ∨ W.heap.size ≤ b) ∧ Jx (xs.take (k + 1)) C' Y) := ⟨HYW.out.1, HYW.out.2.1, HYW.out.2.2.1, HYW.out.2.2.2.2 rfl⟩
            clear HYW
            gi_wp2
            refine bodyPost_ret (results_none rfl _ _ _) rfl ?_
            exact ⟨⟨_, rfl⟩, HG.out.1, by have h := HG.out.2.1; rw [HSq.out] at h; exact h, C', HG.out.2.2.1, .inr ⟨_, List.take_prefix _ _, HG.out.2.2.2⟩⟩)
      · obtain rfl : k = xs.length := by omega
        have HWY : Hid (Way J C0 (fun b => b = cb) (fun _ => True) Sq W (xs.take xs.length) wr C) := hway
        clear q1 q2 q3 q4 hway HWk
        gi_wp2
        go_end0
        exact ⟨⟨_, rfl⟩, HWY.out.tn, by have h := HWY.out.sq; rw [HSq.out] at h; exact h, C, HWY.out.sub, .inl (by have := HWY.out.j; rwa [List.take_length] at this)⟩

end Go.Proofs.Ytjkgjckkglfokaa
