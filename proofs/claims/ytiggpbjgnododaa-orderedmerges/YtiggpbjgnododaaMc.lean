/- Lists copied: the law's own copy of lists of lists. -/
import Derived.Test.YtiggpbjgnododaaMs
namespace Go.Proofs.Ytiggpbjgnododaa.T
open Go.RowKit Go.Shelf
set_option linter.unusedVariables false
attribute [local go_sem] Bel.cell

theorem infoL : InfoOf Try.prog 31 (.slice none 0 0) 1 24 := by unfold InfoOf; kernel_rfl

/-- append onto a row of one's own, however long. -/
theorem wpList_mkL {W X : World} {ops : Array Oper} {rest : List Oper} {o : Oper} {ac : Act} {Q : Exit → Act → World → Prop} (hgd : o.guard = none) (s x : Operand)
    (ho : o.op = .call { callee := .builtin .append, args := #[s, x], argTypes := #[31, 31] }) (v : Value) (n : Nat) (xs : List Value) (h : Mk W X v n xs) (hs : ac.eval s = v) (a : Option Addr) (m c : Nat) (news : List Value) (hx : ac.eval x = .slice a m c) (hl : news.length = m * 2)
    (hnews : ∀ j u, news[j]? = some u → ∃ ad, a = some ad ∧ X.cell? (ad.add j) = some u) (h1 : ∀ u ∈ news, u.oneCell' = true) (h63 : n + m ≤ 8796093022208)
    (hK : ∀ v' w', Mk W w' v' (n + m) (xs ++ news) → wpList Try.prog ops Q rest (ac.put o.dst v') w') : wpList Try.prog ops Q (o :: rest) ac X :=
  wpList_app hgd s x ho Try.underlying31 infoE rfl (by decide) W.heap.size v n xs hs h.own a m c news hx hl hnews h1 (by unfold maxLen; omega) (by omega) h.bel.size
    (fun v' w' k1 k2 _ _ => hK v' w' (h.grown k1 k2))

/-- A row of slices under way, each a row of its own. -/
structure Cp (w wr : World) (v : Value) (i : Nat) (vs : List Value) (LL : List (List (Int × Int))) : Prop where
  bel : Below w.heap.size w wr
  own : wr.ownsRow w.heap.size 31 1 v i vs
  each : ∀ (j : Nat) L, LL[j]? = some L → ∃ ra rc, vs[j]? = some (.slice ra L.length rc) ∧ wr.ownsRow w.heap.size 28 2 (.slice ra L.length rc) L.length (cellsOf L)

theorem Cp.new (w : World) : Cp w (w.alloc (.cells #[] 31)) (.slice (some ⟨w.heap.size, 0, none⟩) 0 0) 0 [] [] := ⟨bel1 w _, own_new w 31 1, fun j L hL => by simp at hL⟩

theorem own_ne {w : World} {B B' : Nat} {v u : Value} {n m : Nat} {xs ys : List Value} (h : w.ownsRow B 31 1 v n xs) (k : w.ownsRow B' 28 2 u m ys) : ∀ b, u.ownBlock = some b → v.ownBlock ≠ some b := by
  intro b hb hv
  rcases h.2 with ⟨rfl, _⟩ | ⟨g, c, cur, rfl, _, hh, _⟩
  · cases hv
  · rcases k.2 with ⟨rfl, _⟩ | ⟨g', c', cur', rfl, _, hh', _⟩
    · cases hb
    · simp only [Value.ownBlock, Option.some.injEq] at hb hv
      subst hb hv
      rw [hh] at hh'
      simp at hh'

theorem Cp.below {w X Y : World} {v : Value} {i : Nat} {vs : List Value} {LL : List (List (Int × Int))} (h : Cp w X v i vs LL) (hb : Below X.heap.size X Y) : Cp w Y v i vs LL :=
  ⟨h.bel.trans (hb.mono h.bel.size), own_of_block h.own (fun k hk => hb.block k (own_block_lt h.own k hk).2), fun j L hL => by
    obtain ⟨ra, rc, e1, e2⟩ := h.each j L hL
    exact ⟨ra, rc, e1, own_of_block e2 (fun k hk => hb.block k (own_block_lt e2 k hk).2)⟩⟩

theorem Cp.step {w X Y Z : World} {v v' : Value} {i : Nat} {vs : List Value} {LL : List (List (Int × Int))} {L : List (Int × Int)} {ra : Option Addr} {rc : Nat} (h : Cp w X v i vs LL) (hi : LL.length = i) (hM : Mk X Y (.slice ra L.length rc) L.length (cellsOf L))
    (h1 : Z.ownsRow w.heap.size 31 1 v' (i + 1) (vs ++ [.slice ra L.length rc])) (h2 : Y.grownBy Z v.ownBlock) : Cp w Z v' (i + 1) (vs ++ [.slice ra L.length rc]) (LL ++ [L]) := by
  have hY := h.below hM.bel
  have hvl : vs.length = i := by have := h.own.1; omega
  refine ⟨hY.bel.trans ⟨h2.os, h2.tape, h2.output, h2.size, fun k hk => h2.block k (by have := hY.bel.size; omega) (fun e => by have := (own_block_lt hY.own k e.symm).1; omega)⟩, h1, fun j L' hL' => ?_⟩
  by_cases hj : j < LL.length
  · rw [List.getElem?_append_left hj] at hL'
    obtain ⟨xa, xc, e1, e2⟩ := hY.each j L' hL'
    exact ⟨xa, xc, by rw [List.getElem?_append_left (by omega)]; exact e1, own_of_block e2 (fun k hk => h2.block k (own_block_lt e2 k hk).2 (fun e => own_ne hY.own e2 k hk e.symm))⟩
  · rw [List.getElem?_append_right (by omega)] at hL'
    have hj0 : j = LL.length := by
      have := (List.getElem?_eq_some_iff.1 hL').1
      simp at this
      omega
    subst hj0
    simp at hL'
    subst hL'
    refine ⟨ra, rc, by rw [List.getElem?_append_right (by omega)]; simp [hvl, hi], ?_⟩
    have e2 : Y.ownsRow w.heap.size 28 2 (.slice ra L.length rc) L.length (cellsOf L) := own_base hM.own (fun k hk => by have := (own_block_lt hM.own k hk).1; have := h.bel.size; omega)
    exact own_of_block e2 (fun k hk => h2.block k (own_block_lt e2 k hk).2 (fun e => own_ne hY.own e2 k hk e.symm))

theorem Cp.sll {w X : World} {a : Option Addr} {n cap : Nat} {vs : List Value} {LL : List (List (Int × Int))} (h : Cp w X (.slice a n cap) n vs LL) (hl : LL.length = n) : Sll X a n cap LL := by
  obtain ⟨h1, h2, h3⟩ := row_cell h.own
  refine ⟨hl, fun i L hL => ?_, h1, ?_, ?_⟩
  · obtain ⟨ra, rc, e1, e2⟩ := h.each i L hL
    obtain ⟨g, e, _, hg, hc⟩ := h3 i _ e1
    exact ⟨g, 0, ra, rc, e, hg, by rw [Nat.zero_add]; exact hc, Sl.of_own e2⟩
  · rcases h.own.2 with ⟨e, _⟩ | ⟨g, cap', cur, e, _, _, k1, k2, _⟩
    · simp only [Value.slice.injEq] at e; omega
    · simp only [Value.slice.injEq, true_and] at e; omega
  · intro e0
    subst e0
    rcases h.own.2 with ⟨e, _⟩ | ⟨g, cap', cur, e, _⟩
    · simp only [Value.slice.injEq] at e; omega
    · simp only [Value.slice.injEq] at e; simp at e

theorem one_at {w : World} {b : Nat} {x : Value} (h : IsCells w b #[x]) : ∀ j u, ([x] : List Value)[j]? = some u → ∃ ad, (some ⟨b, 0, none⟩ : Option Addr) = some ad ∧ w.cell? (ad.add j) = some u := by
  intro j u hu
  refine ⟨_, rfl, ?_⟩
  rw [addr_add, Nat.zero_add, h.cell]
  simpa using hu

set_option maxRecDepth 100000 in
set_option maxHeartbeats 2000000 in
theorem copied_any (w : World) (a : Option Addr) (n cap : Nat) (LL : List (List (Int × Int))) (h : Sll w a n cap LL) (hn : n ≤ 5864062014805) (hll : ∀ (i : Nat) L, LL[i]? = some L → L.length ≤ 8796093022208) :
    Calls Try.prog 17 #[.slice a n cap] w fun e w' => ∃ ra rc, e = .returned (.slice ra n rc) ∧ Below w.heap.size w w' ∧ Sll w' ra n rc LL := by
  have hn' : (n : Int) ≤ 5864062014805 := by omega
  have HS : Hid (Sll w a n cap LL) := h
  have HLL : Hid (∀ (i : Nat) L, LL[i]? = some L → L.length ≤ 8796093022208) := hll
  clear h hll
  go_enter Try.func17, Try.ntmps17
  go_wp2
  go_loopw [3, 4] (fun vr vi wr => ∃ (i oc : Nat) (oa : Option Addr) (vs : List Value), i ≤ n ∧ vi = .int .i64 (i : Int) ∧ vr = .slice oa i oc ∧ Hid (Cp w wr (.slice oa i oc) i vs (LL.take i))) (fun _ vi _ => n - (intOf vi).toNat)
  case atStart => exact ⟨0, 0, _, [], by omega, rfl, rfl, (by show Cp _ _ _ _ _ _; simpa using Cp.new w)⟩
  case round =>
    obtain ⟨i, oc, oa, vs, hi, rfl, rfl, hC⟩ := hrel
    by_cases hlt : i < n
    · have hy := List.getElem?_eq_getElem (l := LL) (i := i) (by have := HS.out.len; omega)
      generalize LL[i]'(by have := HS.out.len; omega) = L at *
      obtain ⟨g, off, la, lc, rfl, hg1, hg2', hg3⟩ := HS.out.ls i L hy
      have hg2 : (wr.alloc (.cells #[] 28)).cell? ⟨g, off + i, none⟩ = some (.slice la L.length lc) := ((hC.out.bel.alloc hC.out.bel.size (.cells #[] 28)).cell (p := ⟨g, _, none⟩) hg1).trans hg2'
      have hg4 : wr.cell? ⟨g, off + i, none⟩ = some (.slice la L.length lc) := (hC.out.bel.cell (p := ⟨g, _, none⟩) hg1).trans hg2'
      have hi1 : (i : Int) < (n : Int) := by omega
      have hi2 : (0 : Int) ≤ (i : Int) := by omega
      have hb := HLL.out i L hy
      have HY : Hid (LL[i]? = some L) := hy
      have Hsrc : Hid (∀ j u, (cellsOf L)[j]? = some u → ∃ ad, la = some ad ∧ (wr.alloc (.cells #[] 28)).cell? (ad.add j) = some u) := cells_src hg3.sg (hC.out.bel.alloc hC.out.bel.size _)
      have Hlen : Hid ((cellsOf L).length = L.length * 2) := cellsOf_length L
      have h1 := cellsOf_one L
      have hne := World.new_ne wr ⟨g, off + i, none⟩ hg4
      clear hy hg2' hg3
      go_wp2_with (first
        | (at_builtin; refine wpList_mkL rfl _ _ rfl _ 0 [] (Mk.new wr) rfl la L.length lc (cellsOf L) rfl Hlen.out Hsrc.out h1 (by omega) ?_; intro v1 w1 m1; rw [Nat.zero_add, List.nil_append] at m1; obtain ⟨ra, rc, rfl⟩ := own_slice m1.own; have M1 : Hid (Mk wr w1 (.slice ra L.length rc) L.length (cellsOf L)) := m1; clear m1)
        | (at_builtin; refine wpList_app rfl _ _ rfl Try.underlying48 infoL rfl (by decide) w.heap.size _ i vs rfl ((hC.out.below M1.out.bel).below (bel1 w1 _)).own _ 1 1 [.slice ra L.length rc] rfl rfl (one_at (isCells_new w1 _ _)) (by intro u hu; simp at hu; subst hu; rfl) (by unfold maxLen; omega) (by omega) ((hC.out.below M1.out.bel).below (bel1 w1 _)).bel.size ?_; intro v3 w3 k1 k2 _ _; obtain ⟨oa', oc', rfl⟩ := own_slice k1; have C1 : Hid (Cp w w3 (.slice oa' (i + 1) oc') (i + 1) (vs ++ [.slice ra L.length rc]) (LL.take (i + 1))) := (by show Cp _ _ _ _ _ _; rw [← (take_pre HY.out).1]; exact hC.out.step (by rw [List.length_take, HS.out.len]; omega) (M1.out.alloc _) k1 k2); clear k1 k2))
      go_roundw
      case rel => exact ⟨i + 1, oc', oa', _, by omega, by go_num, rfl, C1⟩
      case measure => simp [intOf]; omega
    · go_wp2
      go_ret
      obtain rfl : i = n := by omega
      have := hC.out
      rw [List.take_of_length_le (by have := HS.out.len; omega)] at this
      exact ⟨oa, oc, rfl, this.bel, this.sll HS.out.len⟩

end Go.Proofs.Ytiggpbjgnododaa.T
