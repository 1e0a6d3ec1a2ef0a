/- Copied: a forest in memory of its own, with room behind its lists. -/
import Derived.Test.YtmifejkddgcbmaaGreatC01
import Derived.Test.YtmifejkddgcbmaaGreatB08
import Derived.Deep.RegionLaw
namespace Go.Proofs.YtmifejkddgcbmaaGreat
open Go.RowKit
set_option linter.unusedVariables false
set_option linter.unusedSimpArgs false

def CpyAll (n : Nat) : Prop := ∀ (w : World) (lo : Nat) (ka : Option Addr) (L : List (T n)) (cap : Nat), Tc.KidsAt w lo w.heap.size n ka L → L.length ≤ maxK →
  Calls Tryz.prog 14 #[.slice ka L.length cap] w fun e w' => ∃ a' cap', e = .returned (.slice a' L.length cap') ∧ Tc.KidsAt w' w.heap.size w'.heap.size n a' L ∧ L.length ≤ cap' ∧ Below w.heap.size w w'

theorem Tc.KidsAt.mono {w : World} {lo hi lo' hi' n : Nat} {ka : Option Addr} {L : List (T n)} (h : Tc.KidsAt w lo hi n ka L) (h1 : lo' ≤ lo) (h2 : hi ≤ hi') : Tc.KidsAt w lo' hi' n ka L := fun i k hk => by
  obtain ⟨b, o, u, g1, g2, g3, g4, g5, g6⟩ := h i k hk
  exact ⟨b, o, u, g1, by omega, by omega, g4, g5, g6.mono h1 h2⟩

/-- What the box holds behind the two stores. -/
theorem tree_copied {wr w3 w4 w5 w6 : World} {m : Nat} {k : T (m + 1)} {a1 a5 : Option Addr} {cap1 cap5 : Nat} {v2 v4 : Value} (hown : w3.ownsRow (wr.heap.size + 1) 55 2 (.slice a1 k.attrs.length cap1) k.attrs.length (attrCells k.attrs)) (hw4 : w4 = w3.setCell ⟨wr.heap.size, 2, none⟩ v2)
    (hk : Tc.KidsAt w5 w4.heap.size w5.heap.size m a5 k.kids) (hb : Below w4.heap.size w4 w5) (hw6 : w6 = w5.setCell ⟨wr.heap.size, 4, none⟩ v4) (hs : wr.heap.size + 1 ≤ w3.heap.size) (hal : k.attrs.length ≤ maxA) (hkl : k.kids.length ≤ maxK) (hc5 : k.kids.length ≤ cap5) :
    TreeAt w6 wr.heap.size w6.heap.size (m + 1) #[.int .i64 k.kind, .string k.name, .slice a1 k.attrs.length cap1, .string k.text, .slice a5 k.kids.length cap5] k := by
  have hs4 : w4.heap.size = w3.heap.size := by rw [hw4]; simp [World.setCell]
  have hs6 : w6.heap.size = w5.heap.size := by rw [hw6]; simp [World.setCell]
  have hs5 := hb.size
  have f4 : ∀ b o, b ≠ wr.heap.size → w4.cell? ⟨b, o, none⟩ = w3.cell? ⟨b, o, none⟩ := fun b o h => by rw [hw4]; exact World.cell?_of_block (w := w3) (a := ⟨b, o, none⟩) (Below.heap_setCell _ _ _ _ h)
  have f6 : ∀ b o, b ≠ wr.heap.size → w6.cell? ⟨b, o, none⟩ = w5.cell? ⟨b, o, none⟩ := fun b o h => by rw [hw6]; exact World.cell?_of_block (w := w5) (a := ⟨b, o, none⟩) (Below.heap_setCell _ _ _ _ h)
  obtain ⟨h1, h2, h3⟩ := attrs_row hown rfl
  refine ⟨a1, cap1, a5, cap5, rfl, hal, hkl, h3, hc5, (h1.to (R' := fun b => wr.heap.size ≤ b ∧ b < w6.heap.size) (fun b hb' => ⟨by omega, by omega⟩) (fun b o hb' => ?_)).toAt, ?_⟩
  · rw [f6 b o (by omega), hb.cell (p := ⟨b, o, none⟩) (by show b < _; omega), f4 b o (by omega)]
  · exact (Tc.KidsAt.of_cells hk (fun b o hb1 hb2 => f6 b o (by omega))).mono (by omega) (by omega)

set_option maxRecDepth 100000 in
set_option maxHeartbeats 4000000 in
theorem copied_n (n : Nat) (ih : ∀ m, n = m + 1 → CpyAll m) : CpyAll n := by
  intro w lo ka L cap hk hl
  have HK : Hid (Tc.KidsAt w lo w.heap.size n ka L) := hk
  have HIH : Hid (∀ m, n = m + 1 → CpyAll m) := ih
  unfold maxK at hl
  clear hk ih
  have tok1 : True := trivial
  obtain ⟨iT, hiT0, hiT1, hiT2, hiT3⟩ := infoT.parts
  go_enter Tryz.func14, Tryz.ntmps14
  go_wp2_with (at_make; have _t := tok1; refine wpList_make_own _ rfl _ _ 22 rfl w.heap.size 40 iT _ 5 Tryz.underlying22 hiT0 hiT1 hiT2 .i64 .i64 _ (L.length + 2) rfl rfl (by first | rfl | simp | omega) (by rw [hiT3]; omega) (by unfold maxLen; omega) (Nat.le_refl _) ?_; intro w1 hown1 hg1; have HST : Hid (OutSt w w1 n ([] : List (T n)) 0 (some ⟨w.heap.size, 0, none⟩) (L.length + 2) []) := OutSt.made hown1 ((Below.refl _ w).grown hg1 (Nat.le_refl _) (fun k hk => by cases hk)); clear hown1 hg1 tok1 _t hiT0 hiT1 hiT2 hiT3)
  go_loopw [3, 4] (fun lv v wr => ∃ (i : Nat) (la : Option Addr) (lcap : Nat) (xs : List Value), i ≤ L.length ∧ v = .int .i64 (i : Int) ∧ lv = .slice la i lcap ∧ Hid (OutSt w wr n (L.take i) i la lcap xs)) (fun _ v _ => L.length - (intOf v).toNat)
  case atStart => exact ⟨0, _, _, _, Nat.zero_le _, rfl, rfl, HST⟩
  case round =>
    obtain ⟨i, la, lcap, xs, hi, rfl, rfl, hst⟩ := hrel
    clear HST
    have hbs := hst.out.bel.size
    by_cases hlt : i < L.length
    · have t1 : (i : Int) < (L.length : Int) := by omega
      have t0 : (0 : Int) ≤ (i : Int) := by omega
      obtain ⟨k, hk⟩ : ∃ k, L[i]? = some k := ⟨_, List.getElem?_eq_getElem hlt⟩
      obtain ⟨b, o, kk, nm, aa, al, ac, tx, kA, kl, kc, rfl, -, hbl, c0, c1, c2, c3, c4, hT⟩ := (HK.out.after hst.out.bel).get hk
      obtain ⟨m, rfl⟩ : ∃ m, n = m + 1 := by
        cases n with
        | zero => exact hT.elim
        | succ m => exact ⟨m, rfl⟩
      obtain ⟨aa', ac', kA', kc', he, hal, hkl, hac, hkc, hat, hkd⟩ := id hT
      simp only [tv, Array.mk.injEq, List.cons.injEq, Value.int.injEq, Value.string.injEq, Value.slice.injEq, true_and, and_true] at he
      obtain ⟨rfl, rfl, ⟨rfl, rfl, rfl⟩, rfl, rfl, rfl, rfl⟩ := he
      unfold maxA at hal
      have hkl2 : k.kids.length ≤ 1599289640401 := hkl
      obtain ⟨wA, hwA⟩ : ∃ wA, wA = wr.alloc (.cells #[.int .i64 k.kind, .string k.name, .slice aa k.attrs.length ac, .string k.text, .slice kA k.kids.length kc] 40) := ⟨_, rfl⟩
      have hsA : wA.heap.size = wr.heap.size + 1 := by rw [hwA]; simp
      have hbA : Below wr.heap.size wr wA := by rw [hwA]; exact (Below.refl _ _).alloc (Nat.le_refl _) _
      have hbox : IsCells wA wr.heap.size #[.int .i64 k.kind, .string k.name, .slice aa k.attrs.length ac, .string k.text, .slice kA k.kids.length kc] := by rw [hwA]; exact isCells_new wr _ 40
      have HWA : Hid (wA = wr.alloc (.cells #[.int .i64 k.kind, .string k.name, .slice aa k.attrs.length ac, .string k.text, .slice kA k.kids.length kc] 40)) := hwA
      have HSA : Hid (wA.heap.size = wr.heap.size + 1) := hsA
      have HBA : Hid (Below wr.heap.size wr wA) := hbA
      have HBX : Hid (IsCells wA wr.heap.size #[.int .i64 k.kind, .string k.name, .slice aa k.attrs.length ac, .string k.text, .slice kA k.kids.length kc]) := hbox
      have HAT : Hid (AttrsAt wr lo wr.heap.size aa k.attrs) := hat
      have HKD : Hid (Tc.KidsAt wr lo wr.heap.size m kA k.kids) := hkd
      have HTK : Hid (L.take (i + 1) = L.take i ++ [k]) := take_more hk
      have d0 : wA.cell? ⟨wr.heap.size, 0, none⟩ = some (.int .i64 k.kind) := hbox.cell 0
      have d1 : wA.cell? ⟨wr.heap.size, 1, none⟩ = some (.string k.name) := hbox.cell 1
      have d2 : wA.cell? ⟨wr.heap.size, 2, none⟩ = some (.slice aa k.attrs.length ac) := hbox.cell 2
      have d3 : wA.cell? ⟨wr.heap.size, 3, none⟩ = some (.string k.text) := hbox.cell 3
      have d4 : wA.cell? ⟨wr.heap.size, 4, none⟩ = some (.slice kA k.kids.length kc) := hbox.cell 4
      have df := hbox.frozen
      clear hwA hsA hbA hbox hat hkd hk hT
      go_upto_region 6 with fail
      rw [← HWA.out]
      clear HWA c0 c1 c2 c3 c4
      have HN : Hid (∀ W, Below wr.heap.size wr W → ∀ j u, (attrCells k.attrs)[j]? = some u → ∃ ad, aa = some ad ∧ W.cell? (ad.add j) = some u) := fun W hW => (HAT.out.of_cells (fun b o _ hb => hW.cell (p := ⟨b, o, none⟩) hb)).news
      have hal1 : (k.attrs.length : Int) ≤ 4398046511104 := by omega
      have hwr : IntKind.i64.wrap ((k.attrs.length : Int) + 1) = (k.attrs.length : Int) + 1 := by rw [IntKind.wrap_i64]; omega
      obtain ⟨iA, hiA0, hiA1, hiA2, hiA3⟩ := infoA.parts
      obtain ⟨w2, hmk, hown2, hg2⟩ := run_make_own (P := Tryz.prog) wA.drew (wr.heap.size + 1) 38 55 iA _ 2 Tryz.underlying38 hiA0 hiA1 hiA2 .i64 .i64 (k.attrs.length + 1) (by rw [hiA3]; omega) (by unfold maxLen; omega) (by have := HSA.out; simp; omega)
      have hdz : wA.drew.heap.size = wr.heap.size + 1 := HSA.out
      rw [show ((k.attrs.length + 1 : Nat) : Int) = (k.attrs.length : Int) + 1 from by omega, hdz] at hmk
      rw [hdz] at hown2
      have HO2 : Hid (w2.ownsRow (wr.heap.size + 1) 55 2 (.slice (some ⟨wr.heap.size + 1, 0, none⟩) 0 (k.attrs.length + 1)) 0 []) := hown2
      have HB2 : Hid (Below wr.heap.size wr w2) := (HBA.out.drew).grown hg2 (by omega) (fun k hk => by cases hk)
      have HX2 : Hid (IsCells w2 wr.heap.size #[.int .i64 k.kind, .string k.name, .slice aa k.attrs.length ac, .string k.text, .slice kA k.kids.length kc]) := HBX.out.of_block (hg2.block _ (by omega) (fun e => by cases e))
      have hc2 : w2.cell? ⟨wr.heap.size, 2, none⟩ = some (.slice aa k.attrs.length ac) := HX2.out.cell 2
      have HS2 : Hid (wr.heap.size + 1 ≤ w2.heap.size) := by have := hg2.size; rw [hdz] at this; exact this
      clear hown2 hg2 hiA0 hiA1 hiA2 hiA3 hdz
      have tok3 : True := trivial
      clear d0 d1 d3 d4
      go_region_law (first
          | (have _t := tok3; refine step_app (by rfl) _ _ (by rfl) Tryz.underlying38 infoA rfl (by decide) (wr.heap.size + 1) _ 0 [] (by rfl) HO2.out aa k.attrs.length ac (attrCells k.attrs) (by rfl) (attrCells_length _) (HN.out w2 HB2.out) (attrCells_one _) (by unfold maxLen; omega) (by omega) HS2.out ?_; intro v3 w3 hown3 hg3 _ hat3; obtain ⟨va3, vc3, hv3⟩ := own_slice hown3; subst hv3; rw [Nat.zero_add, List.nil_append] at hown3; rw [Nat.zero_add]; have HO3 : Hid (w3.ownsRow (wr.heap.size + 1) 55 2 (.slice va3 k.attrs.length vc3) k.attrs.length (attrCells k.attrs)) := hown3; have HB3 : Hid (Below wr.heap.size wr w3) := HB2.out.grown hg3 (by have := HS2.out; omega) (fun j hj => by have := (own_block_lt HO2.out j hj).1; omega); have HX3 : Hid (IsCells w3 wr.heap.size #[.int .i64 k.kind, .string k.name, .slice aa k.attrs.length ac, .string k.text, .slice kA k.kids.length kc]) := HX2.out.of_block (hg3.block _ (by have := HS2.out; omega) (fun e => by have := (own_block_lt HO2.out _ e.symm).1; omega)); have HS3 : Hid (wr.heap.size + 1 ≤ w3.heap.size) := Nat.le_trans HS2.out hg3.size; have hc3 : w3.cell? ⟨wr.heap.size, 2, none⟩ = some (.slice aa k.attrs.length ac) := HX3.out.cell 2; have hf3 : w3.frozen? ⟨wr.heap.size, 2, none⟩ = false := HX3.out.frozen 2; clear hown3 hg3 hat3 tok3 _t))
      all_goals
        obtain ⟨w4, hw4⟩ : ∃ w4, w4 = w3.setCell ⟨wr.heap.size, 2, none⟩ (.slice va3 k.attrs.length vc3) := ⟨_, rfl⟩
        have HB4 : Hid (Below wr.heap.size wr w4) := by rw [hw4]; exact HB3.out.setCell (p := ⟨wr.heap.size, 2, none⟩) (Nat.le_refl _) _
        have hx4 : IsCells w4 wr.heap.size #[.int .i64 k.kind, .string k.name, .slice va3 k.attrs.length vc3, .string k.text, .slice kA k.kids.length kc] := by rw [hw4]; exact HX3.out.set 2 _
        have hs4 : wr.heap.size < w4.heap.size := hx4.lt
        have e4 : w4.cell? ⟨wr.heap.size, 4, none⟩ = some (.slice kA k.kids.length kc) := hx4.cell 4
        have hcall := HIH.out m rfl w4 lo kA k.kids kc (HKD.out.after HB4.out) hkl
        have HW4 : Hid (w4 = w3.setCell ⟨wr.heap.size, 2, none⟩ (.slice va3 k.attrs.length vc3)) := hw4
        have HX4 : Hid (IsCells w4 wr.heap.size #[.int .i64 k.kind, .string k.name, .slice va3 k.attrs.length vc3, .string k.text, .slice kA k.kids.length kc]) := hx4
        rw [← hw4]
        clear hw4 hx4 hmk hc2 hc3 hf3 d2 df
        go_wp2_with fail
        refine hcall.mono ?_
        rintro e w5 ⟨a5, cap5, rfl, hk5, hc5, hb5⟩
        have hx5 : IsCells w5 wr.heap.size #[.int .i64 k.kind, .string k.name, .slice va3 k.attrs.length vc3, .string k.text, .slice kA k.kids.length kc] := HX4.out.of_block (hb5.block _ hs4)
        have g4 : w5.cell? ⟨wr.heap.size, 4, none⟩ = some (.slice kA k.kids.length kc) := hx5.cell 4
        have gf : w5.frozen? ⟨wr.heap.size, 4, none⟩ = false := hx5.frozen 4
        obtain ⟨w6, hw6⟩ : ∃ w6, w6 = w5.setCell ⟨wr.heap.size, 4, none⟩ (.slice a5 k.kids.length cap5) := ⟨_, rfl⟩
        have hx6 : IsCells w6 wr.heap.size #[.int .i64 k.kind, .string k.name, .slice va3 k.attrs.length vc3, .string k.text, .slice a5 k.kids.length cap5] := by rw [hw6]; exact hx5.set 4 _
        have HB6 : Hid (Below wr.heap.size wr w6) := by rw [hw6]; exact (HB4.out.trans (hb5.mono (Nat.le_of_lt hs4))).setCell (p := ⟨wr.heap.size, 4, none⟩) (Nat.le_refl _) _
        have HTR : Hid (TreeAt w6 wr.heap.size w6.heap.size (m + 1) #[.int .i64 k.kind, .string k.name, .slice va3 k.attrs.length vc3, .string k.text, .slice a5 k.kids.length cap5] k) := tree_copied HO3.out HW4.out hk5 hb5 hw6 HS3.out hal hkl hc5
        have q0 : w6.cell? ⟨wr.heap.size, 0, none⟩ = some (.int .i64 k.kind) := hx6.cell 0
        have q1 : w6.cell? ⟨wr.heap.size, 1, none⟩ = some (.string k.name) := hx6.cell 1
        have q2 : w6.cell? ⟨wr.heap.size, 2, none⟩ = some (.slice va3 k.attrs.length vc3) := hx6.cell 2
        have q3 : w6.cell? ⟨wr.heap.size, 3, none⟩ = some (.string k.text) := hx6.cell 3
        have q4 : w6.cell? ⟨wr.heap.size, 4, none⟩ = some (.slice a5 k.kids.length cap5) := hx6.cell 4
        have HW6 : Hid (w6 = w5.setCell ⟨wr.heap.size, 4, none⟩ (.slice a5 k.kids.length cap5)) := hw6
        have hs6 := HB6.out.size
        clear hw6 hx6 hx5 hk5 hc5 hb5 hcall e4 HX4 HW4 HB4
        go_upto_region 8 with fail
        rw [← HW6.out]
        clear HW6 g4 gf
        have tok4 : True := trivial
        go_wp2_with (at_builtin; have _t := tok4; refine wpList_app rfl _ _ rfl Tryz.underlying22 infoT rfl (by decide) w.heap.size (.slice la i lcap) i xs rfl (own_of_block hst.out.own (fun j hj => (Below.heap_alloc _ _ _ (by have := (own_block_lt hst.out.own j hj).2; omega)).trans (HB6.out.block j (own_block_lt hst.out.own j hj).2))) (some ⟨w6.heap.size, 0, none⟩) 1 1 [.int .i64 k.kind, .string k.name, .slice va3 k.attrs.length vc3, .string k.text, .slice a5 k.kids.length cap5] rfl rfl (news_new w6 #[.int .i64 k.kind, .string k.name, .slice va3 k.attrs.length vc3, .string k.text, .slice a5 k.kids.length cap5] 40) (tree_one _ _ _ _ _ _ _ _ _) (by unfold maxLen; omega) (by omega) (by simp; omega) ?_; intro v7 w7 hown7 hg7 _ hat7; clear tok4 _t; obtain ⟨la', lcap', hv7⟩ := own_slice hown7; subst hv7; have HST7 : Hid (OutSt w w7 (m + 1) (L.take i ++ [k]) (i + 1) la' lcap' (xs ++ [.int .i64 k.kind, .string k.name, .slice va3 k.attrs.length vc3, .string k.text, .slice a5 k.kids.length cap5])) := hst.out.step HTR.out HB6.out hown7 hg7 (by simpa using hat7); clear hown7 hg7 hat7 HTR HB6 hst)
        go_roundw
        case rel => exact ⟨i + 1, la', lcap', _, by omega, by go_num, rfl, by rw [HTK.out]; exact HST7⟩
        case measure => simp [intOf]; omega
    · have hie : i = L.length := by omega
      subst hie
      clear hlt
      have hd := hst.out.done
      rw [List.take_length] at hd
      go_wp2
      go_ret
      exact ⟨la, lcap, rfl, hd.1, hd.2, hst.out.bel⟩

theorem copied_any : ∀ n, CpyAll n
  | 0 => copied_n 0 (fun m h => by cases h)
  | n + 1 => copied_n (n + 1) (fun m h => by cases h; exact copied_any n)

end Go.Proofs.YtmifejkddgcbmaaGreat
