/- slices.All, Values, Backward over items: what they go through. -/
import Derived.Test.YtiggpbjgnododaaRng
import Derived.Test.YtiggpbjgnododaaTm
namespace Go.Proofs.Ytiggpbjgnododaa.T
open Go.RowKit Go.Shelf
set_option linter.unusedVariables false
attribute [local go_sem] Oper.semAt_some

/-- Items of a slice, wherever it begins, in a block of K. -/
def Seg (w : World) (K : Nat → Prop) (a : Option Addr) (L : List (Int × Int)) : Prop :=
  ∀ i y, L[i]? = some y → ∃ g off, a = some ⟨g, off, none⟩ ∧ K g ∧ g < w.heap.size ∧ w.cell? ⟨g, off + i * 2, none⟩ = some (.int .i64 y.1) ∧ w.cell? ⟨g, off + i * 2 + 1, none⟩ = some (.int .i64 y.2)

theorem Seg.kept {w w' : World} {K : Nat → Prop} {a : Option Addr} {L : List (Int × Int)} (h : Seg w K a L) (hs : w.heap.size ≤ w'.heap.size) (hk : ∀ g, K g → g < w.heap.size → w'.heap[g]? = w.heap[g]?) : Seg w' K a L := by
  intro i y hy
  obtain ⟨g, off, h1, h2, h3, h4, h5⟩ := h i y hy
  exact ⟨g, off, h1, h2, by omega, (World.cell?_of_block (w := w) (a := ⟨g, off + i * 2, none⟩) (hk g h2 h3)).trans h4, (World.cell?_of_block (w := w) (a := ⟨g, off + i * 2 + 1, none⟩) (hk g h2 h3)).trans h5⟩

theorem Seg.below {w w' : World} {K : Nat → Prop} {a : Option Addr} {L : List (Int × Int)} (h : Seg w K a L) (hb : Below w.heap.size w w') : Seg w' K a L := h.kept hb.size (fun g _ hg => hb.block g hg)
theorem Seg.kp {w w' : World} {N C : Nat} {K : Nat → Prop} {a : Option Addr} {L : List (Int × Int)} (h : Seg w K a L) (hb : Kp N K C w w') : Seg w' K a L := h.kept hb.size (fun g hK hg => by
  rw [hb.keep g w.heap[g] (Array.getElem?_eq_getElem hg) (.inl hK), Array.getElem?_eq_getElem hg])

def enum (L : List (Int × Int)) : List (Nat × (Int × Int)) := L.mapIdx fun i x => (i, x)
theorem enum_at {L : List (Int × Int)} {i : Nat} {y : Int × Int} (h : L[i]? = some y) : (enum L)[i]? = some (i, y) := by simp [enum, h]
theorem enum_length (L : List (Int × Int)) : (enum L).length = L.length := by simp [enum]

theorem take_pre {β : Type} {l : List β} {k : Nat} {x : β} (h : l[k]? = some x) : l.take k ++ [x] = l.take (k + 1) ∧ l.take k ++ [x] <+: l := by
  obtain ⟨h1, h2⟩ := List.getElem?_eq_some_iff.1 h
  have e : l.take k ++ [x] = l.take (k + 1) := by rw [List.take_succ_eq_append_getElem h1, h2]
  exact ⟨e, by rw [e]; exact List.take_prefix _ _⟩

def enc2 (x : Nat × (Int × Int)) : Array Value := #[.int .i64 (x.1 : Int), .agg #[.int .i64 x.2.1, .int .i64 x.2.2]]
def enc1 (x : Int × Int) : Array Value := #[.agg #[.int .i64 x.1, .int .i64 x.2]]

set_option maxRecDepth 100000 in
set_option maxHeartbeats 2000000 in
theorem all_iter (N : Nat) (K M : Nat → Prop) (bx cap : Nat) (a : Option Addr) (L : List (Int × Int)) (W : World) (hl : L.length ≤ 1048576) (hbx : W.cell? ⟨bx, 0, none⟩ = some (.slice a L.length cap)) (hs : Seg W K a L) :
    Iter N K M 76 #[.pointer (some ⟨bx, 0, none⟩)] enc2 (enum L) W := by
  intro l J Jx hJ hJx hY h0
  have hl' : (L.length : Int) ≤ 1048576 := by omega
  have HY : Hid (∀ pre x X, pre ++ [x] <+: enum L → J pre X → YieldAt Fence.wide 0 Try.prog l (enc2 x) X fun e Y => (e = .returned (.bool true) ∧ J (pre ++ [x]) Y ∧ Kp N K (N + 2) X Y) ∨ (e = .returned (.bool false) ∧ Jx (pre ++ [x]) Y ∧ Kp N K (N + 2) X Y)) := hY
  have HJ : Hid (∀ s X Y, J s X → Stab (N + 2) M X Y → J s Y) := hJ
  have hro : Fence.wide.round = none := rfl
  clear hY hJ hJx
  refine callsIn_of_wp Try.func76 rfl trivial ?_ rfl
  simp only [Try.ntmps76, List.size_toArray, List.length_cons, List.length_nil, Nat.reduceAdd, Nat.reduceSub, Array.replicate_succ, Array.replicate_zero, List.push_toArray, List.append_toArray, List.nil_append, List.cons_append]
  gi_wp2
  gi_loopw [7] (fun i wr => ∃ k : Nat, k ≤ L.length ∧ i = .int .i64 (k : Int) ∧ Hid (J ((enum L).take k) wr) ∧ Hid (Seg wr K a L)) (fun i _ => L.length - (intOf i).toNat)
  case atStart => exact ⟨0, Nat.zero_le _, rfl, h0, hs⟩
  case round =>
    obtain ⟨k, hk, rfl, hJk, hSk⟩ := hrel
    by_cases hlt : k < L.length
    · have hy := List.getElem?_eq_getElem hlt
      obtain ⟨g, off, rfl, hg1, hg2, hg3, hg4⟩ := hSk.out k _ hy
      obtain ⟨e1, e2⟩ := take_pre (enum_at hy)
      generalize L[k] = y at *
      have hk1 : (k : Int) < (L.length : Int) := by omega
      have hk2 : (0 : Int) ≤ (k : Int) := by omega
      have HE : Hid ((enum L).take k ++ [(k, y)] = (enum L).take (k + 1)) := e1
      have hX := HY.out _ (k, y) (wr.alloc (.cells #[.int .i64 y.1, .int .i64 y.2] 28)) e2 (HJ.out _ _ _ hJk.out (Stab.below (bel1 _ _)))
      have HX2 : Hid (Seg (wr.alloc (.cells #[.int .i64 y.1, .int .i64 y.2] 28)) K (some ⟨g, off, none⟩) L) := hSk.out.below (bel1 _ _)
      unfold enc2 at hX
      dsimp only at hX
      obtain ⟨fn, tmps, assign, body, hy2, hR⟩ := hX
      clear e1 e2 hy
      gi_wp2
      refine ⟨rfl, hR.mono ?_⟩
      rintro e W3 (⟨rfl, hJ3, hk3⟩ | ⟨rfl, hJx3, hk3⟩)
      · have J3 : Hid (J ((enum L).take (k + 1)) W3) := by rw [HE.out] at hJ3; exact hJ3
        have S3 : Hid (Seg W3 K (some ⟨g, off, none⟩) L) := HX2.out.kp hk3
        clear hJ3 hk3 hR
        gi_wp2
        go_roundw
        case rel => exact ⟨k + 1, by omega, by simp, J3, S3⟩
        case measure => simp [intOf]; omega
      · have J3 : Hid (Jx ((enum L).take (k + 1)) W3) := by rw [HE.out] at hJx3; exact hJx3
        clear hJx3 hk3 hR
        gi_wp2
        refine bodyPost_ret (results_none rfl _ _ _) rfl ?_
        exact ⟨⟨_, rfl⟩, .inr ⟨_, List.take_prefix _ _, J3.out⟩⟩
    · obtain rfl : k = L.length := by omega
      have J3 : Hid (J (enum L) wr) := by have := hJk.out; rw [List.take_of_length_le (by rw [enum_length]; omega)] at this; exact this
      clear hJk
      gi_wp2
      go_end0
      exact ⟨⟨_, rfl⟩, .inl J3.out⟩

set_option maxRecDepth 100000 in
set_option maxHeartbeats 2000000 in
theorem values_iter (N : Nat) (K M : Nat → Prop) (bx cap : Nat) (a : Option Addr) (L : List (Int × Int)) (W : World) (hl : L.length ≤ 1048576) (hbx : W.cell? ⟨bx, 0, none⟩ = some (.slice a L.length cap)) (hs : Seg W K a L) :
    Iter N K M 113 #[.pointer (some ⟨bx, 0, none⟩)] enc1 L W := by
  intro l J Jx hJ hJx hY h0
  have hl' : (L.length : Int) ≤ 1048576 := by omega
  have HY : Hid (∀ pre x X, pre ++ [x] <+: L → J pre X → YieldAt Fence.wide 0 Try.prog l (enc1 x) X fun e Y => (e = .returned (.bool true) ∧ J (pre ++ [x]) Y ∧ Kp N K (N + 2) X Y) ∨ (e = .returned (.bool false) ∧ Jx (pre ++ [x]) Y ∧ Kp N K (N + 2) X Y)) := hY
  have HJ : Hid (∀ s X Y, J s X → Stab (N + 2) M X Y → J s Y) := hJ
  have hro : Fence.wide.round = none := rfl
  clear hY hJ hJx
  refine callsIn_of_wp Try.func113 rfl trivial ?_ rfl
  simp only [Try.ntmps113, List.size_toArray, List.length_cons, List.length_nil, Nat.reduceAdd, Nat.reduceSub, Array.replicate_succ, Array.replicate_zero, List.push_toArray, List.append_toArray, List.nil_append, List.cons_append]
  gi_wp2
  gi_loopw [7] (fun i wr => ∃ k : Nat, k ≤ L.length ∧ i = .int .i64 (k : Int) ∧ Hid (J (L.take k) wr) ∧ Hid (Seg wr K a L)) (fun i _ => L.length - (intOf i).toNat)
  case atStart => exact ⟨0, Nat.zero_le _, rfl, h0, hs⟩
  case round =>
    obtain ⟨k, hk, rfl, hJk, hSk⟩ := hrel
    by_cases hlt : k < L.length
    · have hy := List.getElem?_eq_getElem hlt
      obtain ⟨g, off, rfl, hg1, hg2, hg3, hg4⟩ := hSk.out k _ hy
      obtain ⟨e1, e2⟩ := take_pre hy
      generalize L[k] = y at *
      have hk1 : (k : Int) < (L.length : Int) := by omega
      have hk2 : (0 : Int) ≤ (k : Int) := by omega
      have HE : Hid (L.take k ++ [y] = L.take (k + 1)) := e1
      have hX := HY.out _ y (wr.alloc (.cells #[.int .i64 y.1, .int .i64 y.2] 28)) e2 (HJ.out _ _ _ hJk.out (Stab.below (bel1 _ _)))
      have HX2 : Hid (Seg (wr.alloc (.cells #[.int .i64 y.1, .int .i64 y.2] 28)) K (some ⟨g, off, none⟩) L) := hSk.out.below (bel1 _ _)
      unfold enc1 at hX
      obtain ⟨fn, tmps, assign, body, hy2, hR⟩ := hX
      clear e1 e2 hy
      gi_wp2
      refine ⟨rfl, hR.mono ?_⟩
      rintro e W3 (⟨rfl, hJ3, hk3⟩ | ⟨rfl, hJx3, hk3⟩)
      · have J3 : Hid (J (L.take (k + 1)) W3) := by rw [HE.out] at hJ3; exact hJ3
        have S3 : Hid (Seg W3 K (some ⟨g, off, none⟩) L) := HX2.out.kp hk3
        clear hJ3 hk3 hR
        gi_wp2
        go_roundw
        case rel => exact ⟨k + 1, by omega, by simp, J3, S3⟩
        case measure => simp [intOf]; omega
      · have J3 : Hid (Jx (L.take (k + 1)) W3) := by rw [HE.out] at hJx3; exact hJx3
        clear hJx3 hk3 hR
        gi_wp2
        refine bodyPost_ret (results_none rfl _ _ _) rfl ?_
        exact ⟨⟨_, rfl⟩, .inr ⟨_, List.take_prefix _ _, J3.out⟩⟩
    · obtain rfl : k = L.length := by omega
      have J3 : Hid (J L wr) := by have := hJk.out; rw [List.take_of_length_le (by omega)] at this; exact this
      clear hJk
      gi_wp2
      go_end0
      exact ⟨⟨_, rfl⟩, .inl J3.out⟩

set_option maxRecDepth 100000 in
set_option maxHeartbeats 2000000 in
theorem backward_iter (N : Nat) (K M : Nat → Prop) (bx cap : Nat) (a : Option Addr) (L : List (Int × Int)) (W : World) (hl : L.length ≤ 1048576) (hbx : W.heap[bx]? = some (.cells #[.slice a L.length cap] 31 (0, 0))) (hbk : K bx ∨ N ≤ bx) (hs : Seg W K a L) :
    Iter N K M 114 #[.pointer (some ⟨bx, 0, none⟩)] enc2 (enum L).reverse W := by
  intro l J Jx hJ hJx hY h0
  have hl' : (L.length : Int) ≤ 1048576 := by omega
  have HY : Hid (∀ pre x X, pre ++ [x] <+: (enum L).reverse → J pre X → YieldAt Fence.wide 0 Try.prog l (enc2 x) X fun e Y => (e = .returned (.bool true) ∧ J (pre ++ [x]) Y ∧ Kp N K (N + 2) X Y) ∨ (e = .returned (.bool false) ∧ Jx (pre ++ [x]) Y ∧ Kp N K (N + 2) X Y)) := hY
  have hbc : W.cell? ⟨bx, 0, none⟩ = some (.slice a L.length cap) := cell_of (cur := [.slice a L.length cap]) hbx 0
  have Hbx : Hid (W.heap[bx]? = some (.cells #[.slice a L.length cap] 31 (0, 0))) := hbx
  have Hbk : Hid (∀ X Y, Kp N K (N + 2) X Y → X.heap[bx]? = some (.cells #[.slice a L.length cap] 31 (0, 0)) → Y.heap[bx]? = some (.cells #[.slice a L.length cap] 31 (0, 0))) := fun X Y hk hX => by
    rcases hbk with h | h
    · exact hk.keep bx _ hX (.inl h)
    · exact hk.keep bx _ hX (.inr (.inl ⟨h, _, _, _, rfl, by decide⟩))
  clear hY hJ hJx hbx hbk
  refine callsIn_of_wp Try.func114 rfl trivial ?_ rfl
  simp only [Try.ntmps114, List.size_toArray, List.length_cons, List.length_nil, Nat.reduceAdd, Nat.reduceSub, Array.replicate_succ, Array.replicate_zero, List.push_toArray, List.append_toArray, List.nil_append, List.cons_append]
  gi_wp2
  gi_loopw [3] (fun i wr => ∃ k : Nat, k ≤ L.length ∧ i = .int .i64 ((L.length : Int) - 1 - (k : Int)) ∧ Hid (J ((enum L).reverse.take k) wr) ∧ Hid (Seg wr K a L) ∧ Hid (wr.heap[bx]? = some (.cells #[.slice a L.length cap] 31 (0, 0)))) (fun i _ => (intOf i + 1).toNat)
  case atStart => exact ⟨0, Nat.zero_le _, by simp, h0, hs, Hbx⟩
  case round =>
    obtain ⟨k, hk, rfl, hJk, hSk, hBk⟩ := hrel
    by_cases hlt : k < L.length
    · obtain ⟨m, hm⟩ : ∃ m : Nat, (L.length : Int) - 1 - (k : Int) = (m : Int) := ⟨L.length - 1 - k, by omega⟩
      have hml : m < L.length := by omega
      have hy := List.getElem?_eq_getElem hml
      obtain ⟨g, off, rfl, hg1, hg2, hg3, hg4⟩ := hSk.out m _ hy
      have hrev : (enum L).reverse[k]? = some (m, L[m]) := by
        rw [List.getElem?_reverse (by rw [enum_length]; exact hlt), enum_length, show L.length - 1 - k = m by omega]
        exact enum_at hy
      obtain ⟨e1, e2⟩ := take_pre hrev
      generalize L[m] = y at *
      have hm1 : (m : Int) < (L.length : Int) := by omega
      have hm2 : (0 : Int) ≤ (m : Int) := by omega
      have hbc' : wr.cell? ⟨bx, 0, none⟩ = some (.slice (some ⟨g, off, none⟩) L.length cap) := cell_of (cur := [.slice (some ⟨g, off, none⟩) L.length cap]) hBk.out 0
      have HE : Hid ((enum L).reverse.take k ++ [(m, y)] = (enum L).reverse.take (k + 1)) := e1
      have hX := HY.out _ (m, y) wr e2 hJk.out
      have Hm : Hid ((L.length : Int) - 1 - (k : Int) = (m : Int)) := hm
      unfold enc2 at hX
      dsimp only at hX
      obtain ⟨fn, tmps, assign, body, hy2, hR⟩ := hX
      rw [hm]
      clear e1 e2 hy hrev hm
      gi_wp2
      refine ⟨rfl, hR.mono ?_⟩
      rintro e W3 (⟨rfl, hJ3, hk3⟩ | ⟨rfl, hJx3, hk3⟩)
      · have J3 : Hid (J ((enum L).reverse.take (k + 1)) W3) := by rw [HE.out] at hJ3; exact hJ3
        have S3 : Hid (Seg W3 K (some ⟨g, off, none⟩) L) := hSk.out.kp hk3
        have B3 : Hid (W3.heap[bx]? = some (.cells #[.slice (some ⟨g, off, none⟩) L.length cap] 31 (0, 0))) := Hbk.out _ _ hk3 hBk.out
        clear hJ3 hk3 hR
        gi_wp2
        go_roundw
        case rel => exact ⟨k + 1, by omega, v_int (by have := Hm.out; omega), J3, S3, B3⟩
        case measure => simp [intOf]
      · have J3 : Hid (Jx ((enum L).reverse.take (k + 1)) W3) := by rw [HE.out] at hJx3; exact hJx3
        clear hJx3 hk3 hR
        gi_wp2
        refine bodyPost_ret (results_none rfl _ _ _) rfl ?_
        exact ⟨⟨_, rfl⟩, .inr ⟨_, List.take_prefix _ _, J3.out⟩⟩
    · have hm : (L.length : Int) - 1 - (k : Int) = -1 := by omega
      have J3 : Hid (J (enum L).reverse wr) := by have := hJk.out; rw [List.take_of_length_le (by rw [List.length_reverse, enum_length]; omega)] at this; exact this
      rw [hm]
      clear hJk hm
      gi_wp2
      go_end0
      exact ⟨⟨_, rfl⟩, .inl J3.out⟩

end Go.Proofs.Ytiggpbjgnododaa.T
