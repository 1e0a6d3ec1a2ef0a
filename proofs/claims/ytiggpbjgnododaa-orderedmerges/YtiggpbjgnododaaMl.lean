/- OrderedMerges walked. -/
import Derived.Test.YtiggpbjgnododaaMc
namespace Go.Proofs.Ytiggpbjgnododaa.T
open Go.RowKit Go.Shelf
set_option linter.unusedVariables false
attribute [local go_sem] Bel.cell

theorem ex_merge : mergeL [[(2, 0)], [(1, 0)]] = [(1, 0), (2, 0)] ∧ mergeE [[(2, 0)], [(1, 0)]] = 0 := by
  have h1 : allRise [[(2, 0)], [(1, 0)]] = true := by decide
  have h2 : mgs [[((2 : Int), (0 : Int))], [(1, 0)]] = [(1, 0), (2, 0)] := by
    rw [show [[((2 : Int), (0 : Int))], [(1, 0)]] = [[(2, 0)]] ++ [[(1, 0)]] from rfl, mgs_snoc, mgs_one, mg_gt _ _ (by decide), mg_nil_right]
  have h3 : ¬ 8192 < tot [[((2 : Int), (0 : Int))], [(1, 0)]] := by decide
  unfold mergeL mergeE madeL madeE
  rw [if_neg h3, if_neg h3, if_pos h1, if_pos h1, h2]
  exact ⟨rfl, rfl⟩

theorem mergeL_le (LL : List (List (Int × Int))) : (mergeL LL).length ≤ 8192 := by
  unfold mergeL madeL
  split
  · simp
  · split
    · rw [mgs_length]; omega
    · simp
theorem bothL_le (A B : List (Int × Int)) : (bothL A B).length ≤ 8192 := by
  unfold bothL madeL
  split
  · simp
  · split
    · have := com_le A B; omega
    · simp

/-- A row that is written over: its cells, whatever they are. -/
def Wr (W1 X : World) (a : Option Addr) (n cap : Nat) : Prop := 0 < n → ∃ g cs, a = some ⟨g, 0, none⟩ ∧ W1.heap.size ≤ g ∧ IsCells X g cs ∧ cs.size = cap * 2

theorem Wr.of_mk {W X : World} {a : Option Addr} {n cap : Nat} {xs : List Value} (h : Mk W X (.slice a n cap) n xs) : Wr W X a n cap := fun hn => by
  obtain ⟨g, cur, e, hb, hh, _, _, hl, _⟩ := full_of_own h.own hn
  exact ⟨g, cur.toArray, e, hb, ⟨28, hh⟩, by simpa using hl⟩
theorem Wr.below {W X Y : World} {a : Option Addr} {n cap : Nat} (h : Wr W X a n cap) (hb : Below X.heap.size X Y) : Wr W Y a n cap := fun hn => by
  obtain ⟨g, cs, e, h1, h2, h3⟩ := h hn
  exact ⟨g, cs, e, h1, h2.of_block (hb.block g h2.lt), h3⟩

theorem sl_one {w : World} {b : Nat} {x : Int × Int} (h : IsCells w b #[.int .i64 x.1, .int .i64 x.2]) : Sl w (some ⟨b, 0, none⟩) 1 1 [x] := by
  refine ⟨rfl, fun i y hy => ?_, Nat.le_refl _, by unfold maxLen; omega, (by intro h; cases h)⟩
  match i with
  | 0 =>
    simp at hy
    subst hy
    exact ⟨b, 0, rfl, trivial, h.lt, h.cell 0, h.cell 1⟩
  | i + 1 => simp at hy

/-- The law's own example. -/
theorem ex_any (w : World) : Calls Try.prog 18 #[.func (.func 9) #[] #[], .slice (some ⟨w.heap.size + 1 + 1, 0, none⟩) 2 2]
    (((w.alloc (.cells #[.int .i64 2, .int .i64 0] 28)).alloc (.cells #[.int .i64 1, .int .i64 0] 28)).alloc (.cells #[.slice (some ⟨w.heap.size, 0, none⟩) 1 1, .slice (some ⟨w.heap.size + 1, 0, none⟩) 1 1] 31))
    fun e w' => ∃ oa oc, e = .returned (.tuple #[.slice oa 2 oc, .int .i64 0]) ∧ Below w.heap.size w w' ∧ ∃ g, oa = some ⟨g, 0, none⟩ ∧ w'.cell? ⟨g, 0, none⟩ = some (.int .i64 1) := by
  have i0 : IsCells (((w.alloc (.cells #[.int .i64 2, .int .i64 0] 28)).alloc (.cells #[.int .i64 1, .int .i64 0] 28)).alloc (.cells #[.slice (some ⟨w.heap.size, 0, none⟩) 1 1, .slice (some ⟨w.heap.size + 1, 0, none⟩) 1 1] 31)) w.heap.size #[.int .i64 2, .int .i64 0] := ((isCells_new w _ _).alloc _).alloc _
  have i1 : IsCells (((w.alloc (.cells #[.int .i64 2, .int .i64 0] 28)).alloc (.cells #[.int .i64 1, .int .i64 0] 28)).alloc (.cells #[.slice (some ⟨w.heap.size, 0, none⟩) 1 1, .slice (some ⟨w.heap.size + 1, 0, none⟩) 1 1] 31)) (w.heap.size + 1) #[.int .i64 1, .int .i64 0] := by
    have h := (isCells_new (w.alloc (.cells #[.int .i64 2, .int .i64 0] 28)) #[.int .i64 1, .int .i64 0] 28).alloc (.cells #[.slice (some ⟨w.heap.size, 0, none⟩) 1 1, .slice (some ⟨w.heap.size + 1, 0, none⟩) 1 1] 31)
    simpa using h
  have i2 : IsCells (((w.alloc (.cells #[.int .i64 2, .int .i64 0] 28)).alloc (.cells #[.int .i64 1, .int .i64 0] 28)).alloc (.cells #[.slice (some ⟨w.heap.size, 0, none⟩) 1 1, .slice (some ⟨w.heap.size + 1, 0, none⟩) 1 1] 31)) (w.heap.size + 1 + 1) #[.slice (some ⟨w.heap.size, 0, none⟩) 1 1, .slice (some ⟨w.heap.size + 1, 0, none⟩) 1 1] := by
    have h := isCells_new ((w.alloc (.cells #[.int .i64 2, .int .i64 0] 28)).alloc (.cells #[.int .i64 1, .int .i64 0] 28)) #[.slice (some ⟨w.heap.size, 0, none⟩) 1 1, .slice (some ⟨w.heap.size + 1, 0, none⟩) 1 1] 31
    simpa using h
  have hb : Below w.heap.size w (((w.alloc (.cells #[.int .i64 2, .int .i64 0] 28)).alloc (.cells #[.int .i64 1, .int .i64 0] 28)).alloc (.cells #[.slice (some ⟨w.heap.size, 0, none⟩) 1 1, .slice (some ⟨w.heap.size + 1, 0, none⟩) 1 1] 31)) :=
    (((Below.refl _ _).alloc (Nat.le_refl _) _).alloc (by simp) _).alloc (by simp; omega) _
  have hm := merge_any _ _ 2 2 _ (sll_two i2 (sl_one (x := (2, 0)) i0) (sl_one (x := (1, 0)) i1)) (by omega)
  rw [ex_merge.1, ex_merge.2] at hm
  refine hm.mono ?_
  rintro e w' ⟨oa, oc, rfl, m⟩
  refine ⟨oa, oc, rfl, hb.trans (m.bel.mono hb.size), ?_⟩
  obtain ⟨_, _, hc⟩ := row_cell m.own
  obtain ⟨g, e, _, _, h⟩ := hc 0 _ rfl
  exact ⟨g, e, h⟩

set_option maxRecDepth 100000 in
set_option maxHeartbeats 4000000 in
theorem merges_walk (w : World) (a x y : Option Addr) (n nx ny cap cx cy : Nat) (LL : List (List (Int × Int))) (A B : List (Int × Int)) (h : Sll w a n cap LL) (hA : Sl w x nx cx A) (hB : Sl w y ny cy B) (hn : n ≤ 5864062014805) (hll : ∀ (i : Nat) L, LL[i]? = some L → L.length ≤ 8796093022208) (hnx : nx ≤ 8796093022208) (hny : ny ≤ 8796093022208) :
    Calls Try.prog 5 #[.slice a n cap, .slice x nx cx, .slice y ny cy] w fun e w' => e = .returned (.bool true) ∧ Below w.heap.size w w' := by
  have hn' : (n : Int) ≤ 5864062014805 := by omega
  have HS : Hid (Sll w a n cap LL) := h
  have HA : Hid (Sl w x nx cx A) := hA
  have HB : Hid (Sl w y ny cy B) := hB
  have HLL : Hid (∀ (i : Nat) L, LL[i]? = some L → L.length ≤ 8796093022208) := hll
  have h17 := copied_any w a n cap LL h hn hll
  have Hla : Hid ((cellsOf A).length = nx * 2) := by show _ = _; rw [cellsOf_length, hA.len]
  have Hlb : Hid ((cellsOf B).length = ny * 2) := by show _ = _; rw [cellsOf_length, hB.len]
  have H1a := cellsOf_one A
  have H1b := cellsOf_one B
  clear h hA hB hll
  go_enter Try.func5, Try.ntmps5
  go_wp2_with fail
  refine h17.mono ?_
  rintro e w1 ⟨ia, ic, rfl, b1, s1⟩
  have h18 := merge_any w1 ia n ic LL s1 (by omega)
  have HB1 : Hid (Below w.heap.size w w1) := b1
  have HS1 : Hid (Sll w1 ia n ic LL) := s1
  have hml := mergeL_le LL
  obtain ⟨code, Hcode⟩ : ∃ c, Hid (mergeE LL = c) := ⟨_, rfl⟩
  obtain ⟨nl, Hnl⟩ : ∃ c, Hid ((mergeL LL).length = c) := ⟨_, rfl⟩
  rw [Hcode.out, Hnl.out] at h18
  rw [Hnl.out] at hml
  clear h17 b1 s1
  go_wp2_with fail
  refine h18.mono ?_
  rintro e w2 ⟨la, lc, rfl, m2⟩
  have M2 : Hid (Mk w1 w2 (.slice la nl lc) nl (cellsOf (mergeL LL))) := m2
  have HB2 : Hid (Below w.heap.size w w2) := HB1.out.trans (m2.bel.mono HB1.out.size)
  have h19 := rmerge_any w2 a n cap LL (HS.out.below HB2.out) (by omega) HLL.out
  rw [Hcode.out, Hnl.out] at h19
  clear h18 m2
  go_wp2_with fail
  refine h19.mono ?_
  rintro e w3 ⟨ra, rc, rfl, m3⟩
  have M3 : Hid (Mk w2 w3 (.slice ra nl rc) nl (cellsOf (mergeL LL))) := m3
  have HB3 : Hid (Below w.heap.size w w3) := HB2.out.trans (m3.bel.mono HB2.out.size)
  clear h19 m3
  have Hsa : Hid (∀ X, Below w.heap.size w X → ∀ j u, (cellsOf A)[j]? = some u → ∃ ad, x = some ad ∧ X.cell? (ad.add j) = some u) := fun X hX => cells_src HA.out.sg hX
  have Hsb : Hid (∀ X, Below w.heap.size w X → ∀ j u, (cellsOf B)[j]? = some u → ∃ ad, y = some ad ∧ X.cell? (ad.add j) = some u) := fun X hX => cells_src HB.out.sg hX
  go_wp2_with (first
    | (at_builtin; refine wpList_mkL rfl _ _ rfl _ 0 [] (Mk.new w3) rfl x nx cx (cellsOf A) rfl Hla.out (Hsa.out _ (HB3.out.alloc HB3.out.size _)) H1a (by omega) ?_; intro v4 w4 m4; rw [Nat.zero_add, List.nil_append] at m4; obtain ⟨xa, xc, rfl⟩ := own_slice m4.own; have M4 : Hid (Mk w3 w4 (.slice xa nx xc) nx (cellsOf A)) := m4; clear m4)
    | (at_builtin; refine wpList_mkL rfl _ _ rfl _ 0 [] (Mk.new w4) rfl y ny cy (cellsOf B) rfl Hlb.out (Hsb.out _ ((HB3.out.trans (M4.out.bel.mono HB3.out.size)).alloc (Nat.le_trans HB3.out.size M4.out.bel.size) _)) H1b (by omega) ?_; intro v5 w5 m5; rw [Nat.zero_add, List.nil_append] at m5; obtain ⟨ya, yc, rfl⟩ := own_slice m5.own; have M5 : Hid (Mk w4 w5 (.slice ya ny yc) ny (cellsOf B)) := m5; clear m5)
    | fail)
  have h20 := both_any w5 xa ya nx ny xc yc A B ((Sl.of_own M4.out.own).below M5.out.bel) (Sl.of_own M5.out.own)
  have HB5 : Hid (Below w3.heap.size w3 w5) := M4.out.bel.trans (M5.out.bel.mono M4.out.bel.size)
  obtain ⟨code2, Hcode2⟩ : ∃ c, Hid (bothE A B = c) := ⟨_, rfl⟩
  obtain ⟨nb, Hnb⟩ : ∃ c, Hid ((bothL A B).length = c) := ⟨_, rfl⟩
  have hbl := bothL_le A B
  rw [Hcode2.out, Hnb.out] at h20
  rw [Hnb.out] at hbl
  refine h20.mono ?_
  rintro e w6 ⟨ua, uc, rfl, m6⟩
  have M6 : Hid (Mk w5 w6 (.slice ua nb uc) nb (cellsOf (bothL A B))) := m6
  have HB6 : Hid (Below w3.heap.size w3 w6) := HB5.out.trans (m6.bel.mono HB5.out.size)
  have HB6w : Hid (Below w.heap.size w w6) := HB3.out.trans (HB6.out.mono HB3.out.size)
  have h21 := rboth_any w6 x y nx ny cx cy A B (HA.out.below HB6w.out) (HB.out.below HB6w.out)
  rw [Hcode2.out, Hnb.out] at h21
  clear h20 m6 Hsa Hsb
  go_wp2_with fail
  refine h21.mono ?_
  rintro e w7 ⟨va, vc, rfl, m7⟩
  have M7 : Hid (Mk w6 w7 (.slice va nb vc) nb (cellsOf (bothL A B))) := m7
  have HB7 : Hid (Below w3.heap.size w3 w7) := HB6.out.trans (m7.bel.mono HB6.out.size)
  have h15a := items_same w7 la ra lc rc (mergeL LL) nl Hnl.out (by omega) ((sg_of_own M2.out.own Hnl.out).below (M3.out.bel.trans (HB7.out.mono M3.out.bel.size))) ((sg_of_own M3.out.own Hnl.out).below HB7.out)
  clear h21 m7
  go_wp2_with fail
  refine h15a.mono ?_
  rintro e w8 ⟨rfl, j8, rfl⟩
  clear h15a
  have h15b := items_same (w7.drewN j8) ua va uc vc (bothL A B) nb Hnb.out (by omega) ((sg_of_own M6.out.own Hnb.out).below (bel_drewN' M7.out.bel _)) ((sg_of_own M7.out.own Hnb.out).below (bel_drewN' (Below.refl _ _) _))
  go_wp2_with fail
  refine h15b.mono ?_
  rintro e w9 ⟨rfl, j9, rfl⟩
  clear h15b
  have HB9 : Hid (Below w1.heap.size w1 ((w7.drewN j8).drewN j9)) := bel_drewN' (bel_drewN' (M2.out.bel.trans ((M3.out.bel.trans (HB7.out.mono M3.out.bel.size)).mono M2.out.bel.size)) _) _
  have HWr : Hid (Wr w1 ((w7.drewN j8).drewN j9) la nl lc) := (Wr.of_mk M2.out).below (bel_drewN' (bel_drewN' (M3.out.bel.trans (HB7.out.mono M3.out.bel.size)) _) _)
  have hlc : nl ≤ lc := (capm_of M2.out.own).1
  generalize (w7.drewN j8).drewN j9 = W9 at *
  go_wp2
  clear Hcode Hcode2 M3 M4 M5 M6 M7 HB3 HB5 HB6 HB6w HB7 Hla Hlb H1a H1b hbl hnx hny HB2
  go_loopw [16] (fun vi wr => ∃ i : Nat, i ≤ nl ∧ vi = .int .i64 (i : Int) ∧ Hid (Below w1.heap.size w1 wr) ∧ Hid (Wr w1 wr la nl lc)) (fun vi _ => nl - (intOf vi).toNat)
  case atStart => exact ⟨0, by omega, rfl, HB9, HWr⟩
  case round =>
    obtain ⟨i, hi, rfl, hBl, hWr⟩ := hrel
    have hml' : (nl : Int) ≤ 8192 := by omega
    by_cases hlt : i < nl
    · obtain ⟨g, cs, rfl, hgb, hgc, hgs⟩ := hWr.out (by omega)
      have hi1 : (i : Int) < (nl : Int) := by omega
      have hi2 : (0 : Int) ≤ (i : Int) := by omega
      have c1 : wr.cell? ⟨g, i * 2, none⟩ = some (cs[i * 2]'(by omega)) := by rw [hgc.cell]; exact Array.getElem?_eq_getElem _
      have c2 : wr.cell? ⟨g, i * 2 + 1, none⟩ = some (cs[i * 2 + 1]'(by omega)) := by rw [hgc.cell]; exact Array.getElem?_eq_getElem _
      have f1 : wr.frozen? ⟨g, i * 2, none⟩ = false := hgc.frozen _
      have f2 : wr.frozen? ⟨g, i * 2 + 1, none⟩ = false := hgc.frozen _
      generalize cs[i * 2]'(by omega) = u1 at *
      generalize cs[i * 2 + 1]'(by omega) = u2 at *
      have Hgc : Hid (IsCells wr g cs) := hgc
      have Hgs : Hid (cs.size = lc * 2) := hgs
      have Hgb : Hid (w1.heap.size ≤ g) := hgb
      clear hgc hgs hgb
      go_wp2
      go_roundw
      case rel => exact ⟨i + 1, by omega, by go_num, (hBl.out.setCell (p := ⟨g, _, none⟩) Hgb.out _).setCell (p := ⟨g, _, none⟩) Hgb.out _, fun _ => ⟨g, _, rfl, Hgb.out, (Hgc.out.set _ _).set _ _, by simpa using Hgs.out⟩⟩
      case measure => simp [intOf]; omega
    · clear hWr HWr
      go_wp2
      go_loopw [17] (fun vi wr => ∃ i : Nat, i ≤ n ∧ vi = .int .i64 (i : Int) ∧ Hid (Below w1.heap.size w1 wr)) (fun vi _ => n - (intOf vi).toNat)
      case atStart => exact ⟨0, by omega, rfl, hBl⟩
      case round =>
        obtain ⟨k, hk, rfl, hBk⟩ := hrel
        by_cases hkn : k < n
        · have hy := List.getElem?_eq_getElem (l := LL) (i := k) (by have := HS.out.len; omega)
          generalize LL[k]'(by have := HS.out.len; omega) = L at *
          obtain ⟨g, off, ra1, rc1, rfl, hg1, hg2', hg3⟩ := HS.out.ls k L hy
          obtain ⟨g', off', ra2, rc2, rfl, hh1, hh2', hh3⟩ := HS1.out.ls k L hy
          have hbw : Below w.heap.size w wr := HB1.out.trans (hBk.out.mono HB1.out.size)
          have c1 : wr.cell? ⟨g, off + k, none⟩ = some (.slice ra1 L.length rc1) := (hbw.cell (p := ⟨g, _, none⟩) hg1).trans hg2'
          have c2 : wr.cell? ⟨g', off' + k, none⟩ = some (.slice ra2 L.length rc2) := (hBk.out.cell (p := ⟨g', _, none⟩) hh1).trans hh2'
          have hgl : g < wr.heap.size := Nat.lt_of_lt_of_le hg1 hbw.size
          have hhl : g' < wr.heap.size := Nat.lt_of_lt_of_le hh1 hBk.out.size
          have h15 := fun (u : Bel wr) => items_same u.w ra2 ra1 rc2 rc1 L L.length rfl (HLL.out k L hy) ((hh3.sg.below hBk.out).below u.h) ((hg3.sg.below hbw).below u.h)
          have hk1 : (k : Int) < (n : Int) := by omega
          have hk2 : (0 : Int) ≤ (k : Int) := by omega
          clear hy hg2' hh2' hg3 hh3 hbw
          generalize L.length = l at *
          go_wp2
          refine wp_region_bel (by kernel_rfl) (by kernel_rfl) ?_
          intro hne
          repeat go_big_quiet_step ((exact Calls.bel_of ((h15 _).mono fun e w' ⟨he, m, hm⟩ => ⟨he, by rw [hm]; exact bel_drewN' (Below.refl _ _) _⟩)))
          refine wpQuiet_nil ?_
          rintro _ ⟨u, rfl⟩
          have HBu : Hid (Below w1.heap.size w1 u.w) := hBk.out.trans (u.h.mono hBk.out.size)
          go_wp2
          go_roundw
          case rel => exact ⟨k + 1, by omega, by go_num, HBu⟩
          case measure => simp [intOf]; omega
        · have h22 := mergeN_any wr
          go_wp2_with fail
          refine h22.mono ?_
          rintro e w10 ⟨rfl, b10⟩
          have h23 := bothN_any w10
          have HB10 : Hid (Below w1.heap.size w1 w10) := hBk.out.trans (b10.mono hBk.out.size)
          clear h22 b10
          go_wp2_with fail
          refine h23.mono ?_
          rintro e w11 ⟨rfl, b11⟩
          have HB11 : Hid (Below w1.heap.size w1 w11) := HB10.out.trans (b11.mono HB10.out.size)
          clear h23 b11
          have h18b := ex_any w11
          go_wp2_with fail
          refine h18b.mono ?_
          rintro e w12 ⟨oa, oc, rfl, b12, hg⟩
          obtain ⟨g, rfl, hg1⟩ := hg
          have HB12 : Hid (Below w1.heap.size w1 w12) := HB11.out.trans (b12.mono HB11.out.size)
          clear h18b b12
          go_wp2
          go_ret
          exact ⟨rfl, HB1.out.trans (HB12.out.mono HB1.out.size)⟩

end Go.Proofs.Ytiggpbjgnododaa.T
