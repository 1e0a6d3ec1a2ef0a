/- Siblings, as the reader reads them. -/
import Derived.Test.YtmifejkddgcbmaaGreatA22
namespace Go.Proofs.YtmifejkddgcbmaaGreat
open Go.RowKit
set_option linter.unusedVariables false
set_option linter.unusedSimpArgs false
attribute [local go_sem] Bel.cell Bel.fz

theorem sib_app {W : Nat} {w3 w4 : World} {o : Obj} {d : Nat} {v v' : Value} {acc : List (T d)} {xs : List Value} {Rf S : Nat → Prop} {u : Array Value} {t : T d} (hf : ForS (TreeS w3 d) Rf xs acc) (hr : ∀ k, Rf k → W ≤ k ∧ k < w3.heap.size ∧ v.ownBlock ≠ some k) (hu : TreeS w3 d S u t)
    (hS : ∀ k, S k → W ≤ k ∧ k < w3.heap.size ∧ v.ownBlock ≠ some k ∧ ¬ Rf k) (hg : (w3.alloc o).grownBy w4 v.ownBlock) (hat : v'.ownBlock = v.ownBlock ∨ v'.ownBlock = some (w3.alloc o).heap.size) :
    ForS (TreeS w4 d) (fun k => Rf k ∨ S k) (xs ++ u.toList) (acc ++ [t]) ∧ ∀ k, (Rf k ∨ S k) → W ≤ k ∧ k < w4.heap.size ∧ v'.ownBlock ≠ some k := by
  have hsz : (w3.alloc o).heap.size = w3.heap.size + 1 := by simp
  have all : ∀ k, (Rf k ∨ S k) → W ≤ k ∧ k < w3.heap.size ∧ v.ownBlock ≠ some k := by
    rintro k (h | h)
    · exact hr k h
    · exact ⟨(hS k h).1, (hS k h).2.1, (hS k h).2.2.1⟩
  have hblk : ∀ k, (Rf k ∨ S k) → w4.heap[k]? = w3.heap[k]? := by
    intro k h
    obtain ⟨h1, h2, h3⟩ := all k h
    rw [hg.block k (by rw [hsz]; omega) (fun e => h3 e.symm), Below.heap_alloc _ _ _ h2]
  refine ⟨(hf.snoc hu (fun b hb hs => (hS b hs).2.2.2 hb)).to hblk (fun _ h => h), fun k h => ?_⟩
  obtain ⟨h1, h2, h3⟩ := all k h
  have h4 := hg.size
  rw [hsz] at h4
  refine ⟨h1, by omega, ?_⟩
  rcases hat with e | e
  · rw [e]; exact h3
  · rw [e, hsz]; intro e2; cases e2; omega

/-- What the loop of 'siblings' keeps. -/
structure SibSt (w : World) (b : Nat) (tx : ByteArray) (d : Nat) (s : St) (v : Value) (wr : World) (acc : List (T (d + 1))) (s' : St) (xs : List Value) (Rf : Nat → Prop) : Prop where
  own : wr.ownsRow w.heap.size 40 5 v acc.length xs
  fo : ForS (TreeS wr (d + 1)) Rf xs acc
  rf : ∀ k, Rf k → w.heap.size ≤ k ∧ k < wr.heap.size ∧ v.ownBlock ≠ some k
  rd : Rd wr b tx s'
  ok : Ok tx s'
  op : s'.op + (d + 1) = 64
  turn : Turn (fun x => x = b ∨ w.heap.size ≤ x) w wr
  ltb : b < w.heap.size

theorem SibSt.go {w : World} {b : Nat} {tx : ByteArray} {d : Nat} {s : St} {v : Value} {wr wr' : World} {acc : List (T (d + 1))} {s' s2 : St} {xs : List Value} {Rf : Nat → Prop} (h : SibSt w b tx d s v wr acc s' xs Rf) (hr : Rd wr' b tx s2) (ok : Ok tx s2) (hop : s2.op = s'.op) (ht : Turn (fun x => x = b) wr wr') : SibSt w b tx d s v wr' acc s2 xs Rf :=
  ⟨own_row_to h.own ht (fun k hk e => by have := h.ltb; omega), h.fo.to (fun k hk => ht.block k (h.rf k hk).2.1 (by have := (h.rf k hk).1; have := h.ltb; omega)) (fun _ h => h), fun k hk => ⟨(h.rf k hk).1, Nat.lt_of_lt_of_le (h.rf k hk).2.1 ht.size, (h.rf k hk).2.2⟩, hr, ok, by rw [hop]; exact h.op, h.turn.trans (ht.mono (fun k _ e => .inl e)), h.ltb⟩

/-- One more put in. -/
theorem SibSt.app {w : World} {b : Nat} {tx : ByteArray} {d : Nat} {s : St} {v v' : Value} {w3 w4 : World} {o : Obj} {acc : List (T (d + 1))} {s' : St} {xs : List Value} {Rf S : Nat → Prop} {u : Array Value} {t : T (d + 1)} (h : SibSt w b tx d s v w3 acc s' xs Rf) (hu : TreeS w3 (d + 1) S u t)
    (hS : ∀ k, S k → w.heap.size ≤ k ∧ k < w3.heap.size ∧ v.ownBlock ≠ some k ∧ ¬ Rf k) (hown : w4.ownsRow w.heap.size 40 5 v' (acc.length + 1) (xs ++ u.toList)) (hg : (w3.alloc o).grownBy w4 v.ownBlock) (hat : v'.ownBlock = v.ownBlock ∨ v'.ownBlock = some (w3.alloc o).heap.size) :
    SibSt w b tx d s v' w4 (acc ++ [t]) s' (xs ++ u.toList) (fun k => Rf k ∨ S k) := by
  obtain ⟨f1, f2⟩ := sib_app h.fo h.rf hu hS hg hat
  have hsz : (w3.alloc o).heap.size = w3.heap.size + 1 := by simp
  have hbl := h.ltb
  have hws := h.turn.size
  have hrow : ∀ k, k < w.heap.size → w4.heap[k]? = w3.heap[k]? := fun k hk => by
    rw [hg.block k (by rw [hsz]; omega) (fun e => by have := (own_block_lt h.own k e.symm).1; omega), Below.heap_alloc _ _ _ (by omega)]
  have hs4 := hg.size
  rw [hsz] at hs4
  exact ⟨by rw [List.length_append]; exact hown, f1, f2, h.rd.of_block (hrow b hbl) (hrow 0 (by omega)), h.ok, h.op, ⟨hg.os.trans h.turn.os, hg.tape.trans h.turn.tape, hg.output.trans h.turn.output, by omega, fun k hk ha => (hrow k hk).trans (h.turn.block k hk ha)⟩, hbl⟩

theorem sibF_words_bad {l : Bs} {d k : Nat} {el : St → Rs (T (d + 1))} {s : St} {acc : List (T (d + 1))} {p : Nat} {e : Int} (h : wordsP l s = .inr (p, e)) : sibF l el (k + 1) s acc = .inr (p, e) := by simp only [sibF, h]

theorem sibV_of {w : World} {b : Nat} {tx : ByteArray} {d : Nat} {s s1 : St} {va : Option Addr} {n vcap : Nat} {wr : World} {A : List (T (d + 1))} {xs : List Value} {Rf : Nat → Prop} (h : SibSt w b tx d s (.slice va n vcap) wr A s1 xs Rf) (hn : n = A.length) (hl : A.length ≤ 600000) : SibV w (d + 1) A (.returned (.slice va n vcap)) wr := by
  subst hn
  exact ⟨_, _, _, _, rfl, hl, h.own, h.fo, h.rf⟩

set_option maxRecDepth 100000 in
set_option maxHeartbeats 4000000 in
theorem sib_of_el (d : Nat) (ih : ElAll d) : SibAll (d + 1) := by
  intro w b tx s h ok hop
  have hbw := h.facts.2.2.2.2.2.2.2
  have HW : Hid (SibSt w b tx d s (.slice none 0 0) w [] s [] (fun _ => False)) := ⟨⟨rfl, .inl ⟨rfl, rfl⟩⟩, ForS.nil _ _, fun k h => h.elim, h, ok, hop, Turn.refl _ _, hbw⟩
  have HE : Hid (sibP tx.data.toList (d + 1) s = sibF tx.data.toList (elemP tx.data.toList (sibP tx.data.toList d)) (tx.size - s.at_ + 1) s []) := by show sibP _ _ _ = _; simp only [sibP, size_list]
  have k1 := ok.len
  clear h ok
  go_enter Tryz.func35, Tryz.ntmps35
  go_wp2
  go_loopw [3] (fun v3 wr => ∃ (acc : List (T (d + 1))) (s' : St) (k : Nat) (xs : List Value) (Rf : Nat → Prop), acc.length ≤ 2 * s'.at_ ∧ tx.size - s'.at_ < k ∧ Hid (SibSt w b tx d s v3 wr acc s' xs Rf) ∧ Hid (sibP tx.data.toList (d + 1) s = sibF tx.data.toList (elemP tx.data.toList (sibP tx.data.toList d)) k s' acc)) (fun _ wr => tx.size - atOf wr b)
  case atStart => exact ⟨[], s, _, [], _, by simp, by omega, HW, HE⟩
  case round =>
    clear HW HE
    obtain ⟨acc, s', k, xs, Rf, hal, hk, hst, hgo⟩ := hrel
    obtain ⟨k, rfl⟩ : ∃ j, k = j + 1 := ⟨k - 1, by omega⟩
    obtain ⟨va, vcap, rfl⟩ := own_slice hst.out.own
    have hwd := words_any wr b tx s' hst.out.rd hst.out.ok
    have hat1 := hst.out.ok.at_
    cases hx1 : wordsP tx.data.toList s' with
    | inr q_ =>
      obtain ⟨p, e⟩ := q_
      rw [hx1] at hwd
      have HG : Hid (sibP tx.data.toList (d + 1) s = .inr (p, e)) := by show sibP _ _ _ = _; rw [hgo.out, sibF_words_bad hx1]
      clear hx1 hgo
      go_wp2_with fail
      refine hwd.mono ?_
      rintro e w1 ⟨rfl, ht1⟩
      exact ⟨rfl, Post.no HG.out ((turn_in hst.out.turn).trans ht1)⟩
    | inl q_ =>
      obtain ⟨t, s1⟩ := q_
      rw [hx1] at hwd
      have HX1 : Hid (wordsP tx.data.toList s' = .inl (t, s1)) := hx1
      obtain ⟨st1, htl⟩ := wordsP_ok hst.out.ok hx1
      have hle1 := st1.le
      have HST1 : Hid (Step tx s' s1) := st1
      clear hx1 st1
      by_cases ht0 : t = []
      · have te : (ba t).toList.isEmpty = true := by rw [ht0]; simp [ba, ByteArray.toList_eq]
        have HLN : Hid (acc.length = acc.length) := rfl
        have HT0 : Hid (t = []) := ht0
        clear ht0
        go_wp2_with fail
        refine hwd.mono ?_
        rintro e w1 ⟨rfl, hr1, ht1⟩
        have HS1 : Hid (SibSt w b tx d s (.slice va acc.length vcap) w1 acc s1 xs Rf) := hst.out.go hr1 HST1.out.ok HST1.out.op ht1
        clear hwd hr1 ht1
        obtain ⟨h0, h1, h2, h3, f1, f2, f3, hb⟩ := HS1.out.rd.facts
        have hat2 := HS1.out.ok.at_
        have hlen2 : acc.length ≤ 2 * s1.at_ + 1 := by omega
        by_cases hend : s1.at_ = tx.size
        · have HG : Hid (sibP tx.data.toList (d + 1) s = .inl (acc, s1)) := by
            show sibP _ _ _ = _; rw [hgo.out]; simp only [sibF, HX1.out, size_list, hend, true_or, if_true, HT0.out, if_true]
          have t1 : ((s1.at_ : Int) == (tx.size : Int)) = true := by simp; omega
          clear hend hgo
          go_wp2
          refine wp_region_bel (by kernel_rfl) (by kernel_rfl) ?_
          intro hne
          repeat go_big_quiet_step (fail)
          refine wpQuiet_nil ?_
          rintro _ ⟨u, rfl⟩
          have HSU : Hid (SibSt w b tx d s (.slice va acc.length vcap) u.w acc s1 (xs) (Rf)) := HS1.out.go (HS1.out.rd.below u.h hb) HS1.out.ok rfl (turn_below _ u.h (Nat.le_refl _))
          go_wp2
          go_ret
          exact Post.yes HG.out (sibV_of HSU.out rfl (by omega)) HSU.out.rd (turn_in HSU.out.turn)
        · have t1 : ((s1.at_ : Int) == (tx.size : Int)) = false := by simp; omega
          have hlt1 : s1.at_ < tx.size := by omega
          have hse : ∀ u : Bel w1, Calls Tryz.prog 56 #[.pointer (some ⟨b, 0, none⟩), .string ⟨#[60, 47]⟩] u.w fun e w' => e = .returned (.bool (seesP tx.data.toList [60, 47] s1.at_)) ∧ Below u.w.heap.size u.w w' := fun u => sees_any u.w b tx s1 (HS1.out.rd.below u.h hb) HS1.out.ok ⟨#[60, 47]⟩
          cases hS : seesP tx.data.toList [60, 47] s1.at_
          · rw [hS] at hse
            have HG : Hid (sibP tx.data.toList (d + 1) s = match elemP tx.data.toList (sibP tx.data.toList d) s1 with
                | .inr (p, e) => .inr (p, e)
                | .inl (x, s2) => sibF tx.data.toList (elemP tx.data.toList (sibP tx.data.toList d)) k s2 (acc ++ [x])) := by
              show sibP _ _ _ = _; rw [hgo.out]; simp only [sibF, HX1.out, size_list, hend, hS, Bool.false_eq_true, or_false, if_false, HT0.out, if_true]
              cases elemP tx.data.toList (sibP tx.data.toList d) s1 <;> rfl
            clear hend hgo hS
            go_wp2
            refine wp_region_bel (by kernel_rfl) (by kernel_rfl) ?_
            intro hne
            repeat go_big_quiet_step ((go_at_call 56; exact Calls.bel_of (hse _)))
            refine wpQuiet_nil ?_
            rintro _ ⟨u, rfl⟩
            have HSU : Hid (SibSt w b tx d s (.slice va acc.length vcap) u.w acc s1 (xs) (Rf)) := HS1.out.go (HS1.out.rd.below u.h hb) HS1.out.ok rfl (turn_below _ u.h (Nat.le_refl _))
            have hel := ih u.w b tx s1 HSU.out.rd HSU.out.ok HSU.out.op hlt1
            clear hse h0 h1 h2 h3 f1 f2 f3
            cases hx2 : elemP tx.data.toList (sibP tx.data.toList d) s1 with
            | inr q_ =>
              obtain ⟨p, e⟩ := q_
              rw [hx2] at hel
              have HG2 : Hid (sibP tx.data.toList (d + 1) s = .inr (p, e)) := by show sibP _ _ _ = _; rw [HG.out, hx2]
              clear hx2 HG
              go_wp2_with fail
              refine hel.mono ?_
              rintro e w3 ⟨rfl, ht3⟩
              exact ⟨rfl, Post.no HG2.out ((turn_in HSU.out.turn).trans ht3)⟩
            | inl q_ =>
              obtain ⟨x, s2⟩ := q_
              rw [hx2] at hel
              obtain ⟨st2, hlt2⟩ := elemP_ok (sibs_ok tx d) HSU.out.ok HSU.out.op hlt1 hx2
              have HST2 : Hid (Step tx s1 s2) := st2
              have HG2 : Hid (sibP tx.data.toList (d + 1) s = sibF tx.data.toList (elemP tx.data.toList (sibP tx.data.toList d)) k s2 (acc ++ [x])) := by show sibP _ _ _ = _; rw [HG.out, hx2]
              clear hx2 HG st2
              go_wp2_with fail
              refine hel.mono ?_
              rintro e w3 ⟨⟨uu, R, rfl, htr, hR⟩, hr3, ht3⟩
              have HS3 : Hid (SibSt w b tx d s (.slice va acc.length vcap) w3 acc s2 (xs) (Rf)) := HSU.out.go hr3 HST2.out.ok HST2.out.op ht3
              have HR3 : Hid (∀ k, R k → w.heap.size ≤ k ∧ k < w3.heap.size ∧ (Value.slice va acc.length vcap).ownBlock ≠ some k ∧ ¬ (Rf) k) := fun k hk => by
                have h1 := hR k hk
                refine ⟨Nat.le_trans HSU.out.turn.size h1.1, h1.2, fun e => ?_, fun e => ?_⟩
                · have := (own_block_lt HSU.out.own k e).2; omega
                · have := (HSU.out.rf k e).2.1; omega
              obtain ⟨kk', nm', a'', al'', ac'', tx', ka3, kl3, kc3, rfl⟩ := htr.form
              have HTR : Hid (TreeS w3 (d + 1) R #[.int .i64 kk', .string nm', .slice a'' al'' ac'', .string tx', .slice ka3 kl3 kc3] x) := htr
              have hs3 := HS3.out.turn.size
              clear hel hr3 ht3 htr hR HSU
              have tok2 : True := trivial
              go_wp2_with (at_builtin; have _t := tok2; refine wpList_app rfl _ _ rfl Tryz.underlying22 infoT rfl (by decide) w.heap.size (.slice va acc.length vcap) acc.length (xs) rfl (own_of_block HS3.out.own (fun k hk => Below.heap_alloc _ _ _ (own_block_lt HS3.out.own k hk).2)) (some ⟨w3.heap.size, 0, none⟩) 1 1 [.int .i64 kk', .string nm', .slice a'' al'' ac'', .string tx', .slice ka3 kl3 kc3] rfl rfl (by have := news_new w3 #[.int .i64 kk', .string nm', .slice a'' al'' ac'', .string tx', .slice ka3 kl3 kc3] 40; simpa using this) (tree_one _ _ _ _ _ _ _ _ _) (by unfold maxLen; omega) (by omega) (by simp; omega) ?_; intro v3 w4 hown3 hg3 _ hat3; clear tok2 _t; obtain ⟨la', lcap', hv3⟩ := own_slice hown3; subst hv3; have HS4 : Hid (SibSt w b tx d s (.slice la' (acc.length + 1) lcap') w4 (acc ++ [x]) s2 _ _) := HS3.out.app HTR.out HR3.out hown3 hg3 hat3; clear hown3 hg3 hat3 HTR HR3)
              refine ⟨⟨_, s2, k, _, _, ?_, by omega, HS4, HG2⟩, ?_⟩
              · rw [List.length_append, List.length_singleton]; omega
              · rw [HS4.out.rd.atOf, hst.out.rd.atOf]; omega
          · rw [hS] at hse
            have HG : Hid (sibP tx.data.toList (d + 1) s = .inl (acc, s1)) := by
              show sibP _ _ _ = _; rw [hgo.out]; simp only [sibF, HX1.out, hS, or_true, if_true, HT0.out, if_true]
            clear hend hgo hS
            go_wp2
            refine wp_region_bel (by kernel_rfl) (by kernel_rfl) ?_
            intro hne
            repeat go_big_quiet_step ((go_at_call 56; exact Calls.bel_of (hse _)))
            refine wpQuiet_nil ?_
            rintro _ ⟨u, rfl⟩
            have HSU : Hid (SibSt w b tx d s (.slice va acc.length vcap) u.w acc s1 (xs) (Rf)) := HS1.out.go (HS1.out.rd.below u.h hb) HS1.out.ok rfl (turn_below _ u.h (Nat.le_refl _))
            clear h0 h1 h2 h3 f1 f2 f3
            go_wp2
            go_ret
            exact Post.yes HG.out (sibV_of HSU.out rfl (by omega)) HSU.out.rd (turn_in HSU.out.turn)
      · have te : (ba t).toList.isEmpty = false := notEmpty (by rw [ba_size]; exact List.length_pos_iff.2 ht0)
        go_wp2_with fail
        refine hwd.mono ?_
        rintro e w1 ⟨rfl, hr1, ht1⟩
        have HS1 : Hid (SibSt w b tx d s (.slice va acc.length vcap) w1 acc s1 xs Rf) := hst.out.go hr1 HST1.out.ok HST1.out.op ht1
        have hs1 := HS1.out.turn.size
        have hat0 := HST1.out.ok.at_
        clear hwd hr1 ht1
        have tok1 : True := trivial
        go_wp2_with (at_builtin; have _t := tok1; refine wpList_app rfl _ _ rfl Tryz.underlying22 infoT rfl (by decide) w.heap.size (.slice va acc.length vcap) acc.length xs rfl (own_of_block HS1.out.own (fun k hk => Below.heap_alloc _ _ _ (own_block_lt HS1.out.own k hk).2)) (some ⟨w1.heap.size, 0, none⟩) 1 1 [.int .i64 2, .string ⟨#[]⟩, .slice none 0 0, .string (ba t), .slice none 0 0] rfl rfl (by have := news_new w1 #[.int .i64 2, .string ⟨#[]⟩, .slice none 0 0, .string (ba t), .slice none 0 0] 40; simpa using this) (tree_one _ _ _ _ _ _ _ _ _) (by unfold maxLen; omega) (by omega) (by simp; omega) ?_; intro v2 w2 hown2 hg2 _ hat2; clear tok1 _t; obtain ⟨va2, vcap2, hv2⟩ := own_slice hown2; subst hv2; have HS2' : Hid (SibSt w b tx d s (.slice va2 (acc.length + 1) vcap2) w2 (acc ++ [txtT t]) s1 _ _) := HS1.out.app (treeS_txt w1 d t) (fun k h => h.elim) hown2 hg2 hat2; clear hown2 hg2 hat2)
        have hln0 : acc.length + 1 = (acc ++ [txtT t] : List (T (d + 1))).length := by simp
        obtain ⟨A2, XS2, RF2, HA2, HLN, HS2⟩ : ∃ (A2 : List (T (d + 1))) (xs2 : List Value) (rf2 : Nat → Prop), Hid (acc ++ [txtT t] = A2) ∧ Hid (acc.length + 1 = A2.length) ∧ Hid (SibSt w b tx d s (.slice va2 (acc.length + 1) vcap2) w2 A2 s1 xs2 rf2) := ⟨acc ++ [txtT t], _, _, (rfl : acc ++ [txtT t] = acc ++ [txtT t]), hln0, HS2'⟩
        clear HS2' hln0 HS1 hs1
        obtain ⟨h0, h1, h2, h3, f1, f2, f3, hb⟩ := HS2.out.rd.facts
        have hat2 := HS2.out.ok.at_
        have hlen2 : A2.length ≤ 2 * s1.at_ + 1 := by have := HLN.out; omega
        by_cases hend : s1.at_ = tx.size
        · have HG : Hid (sibP tx.data.toList (d + 1) s = .inl (A2, s1)) := by
            show sibP _ _ _ = _; rw [hgo.out]; simp only [sibF, HX1.out, size_list, hend, true_or, if_true, ht0, if_false, HA2.out]
          have t1 : ((s1.at_ : Int) == (tx.size : Int)) = true := by simp; omega
          clear hend hgo
          go_wp2
          refine wp_region_bel (by kernel_rfl) (by kernel_rfl) ?_
          intro hne
          repeat go_big_quiet_step (fail)
          refine wpQuiet_nil ?_
          rintro _ ⟨u, rfl⟩
          have HSU : Hid (SibSt w b tx d s (.slice va2 (acc.length + 1) vcap2) u.w A2 s1 (XS2) (RF2)) := HS2.out.go (HS2.out.rd.below u.h hb) HS2.out.ok rfl (turn_below _ u.h (Nat.le_refl _))
          go_wp2
          go_ret
          exact Post.yes HG.out (sibV_of HSU.out HLN.out (by omega)) HSU.out.rd (turn_in HSU.out.turn)
        · have t1 : ((s1.at_ : Int) == (tx.size : Int)) = false := by simp; omega
          have hlt1 : s1.at_ < tx.size := by omega
          have hse : ∀ u : Bel w2, Calls Tryz.prog 56 #[.pointer (some ⟨b, 0, none⟩), .string ⟨#[60, 47]⟩] u.w fun e w' => e = .returned (.bool (seesP tx.data.toList [60, 47] s1.at_)) ∧ Below u.w.heap.size u.w w' := fun u => sees_any u.w b tx s1 (HS2.out.rd.below u.h hb) HS2.out.ok ⟨#[60, 47]⟩
          cases hS : seesP tx.data.toList [60, 47] s1.at_
          · rw [hS] at hse
            have HG : Hid (sibP tx.data.toList (d + 1) s = match elemP tx.data.toList (sibP tx.data.toList d) s1 with
                | .inr (p, e) => .inr (p, e)
                | .inl (x, s2) => sibF tx.data.toList (elemP tx.data.toList (sibP tx.data.toList d)) k s2 (A2 ++ [x])) := by
              show sibP _ _ _ = _; rw [hgo.out]; simp only [sibF, HX1.out, size_list, hend, hS, Bool.false_eq_true, or_false, if_false, ht0, if_false, HA2.out]
              cases elemP tx.data.toList (sibP tx.data.toList d) s1 <;> rfl
            clear hend hgo hS
            go_wp2
            refine wp_region_bel (by kernel_rfl) (by kernel_rfl) ?_
            intro hne
            repeat go_big_quiet_step ((go_at_call 56; exact Calls.bel_of (hse _)))
            refine wpQuiet_nil ?_
            rintro _ ⟨u, rfl⟩
            have HSU : Hid (SibSt w b tx d s (.slice va2 (acc.length + 1) vcap2) u.w A2 s1 (XS2) (RF2)) := HS2.out.go (HS2.out.rd.below u.h hb) HS2.out.ok rfl (turn_below _ u.h (Nat.le_refl _))
            have hel := ih u.w b tx s1 HSU.out.rd HSU.out.ok HSU.out.op hlt1
            clear hse h0 h1 h2 h3 f1 f2 f3
            cases hx2 : elemP tx.data.toList (sibP tx.data.toList d) s1 with
            | inr q_ =>
              obtain ⟨p, e⟩ := q_
              rw [hx2] at hel
              have HG2 : Hid (sibP tx.data.toList (d + 1) s = .inr (p, e)) := by show sibP _ _ _ = _; rw [HG.out, hx2]
              clear hx2 HG
              go_wp2_with fail
              refine hel.mono ?_
              rintro e w3 ⟨rfl, ht3⟩
              exact ⟨rfl, Post.no HG2.out ((turn_in HSU.out.turn).trans ht3)⟩
            | inl q_ =>
              obtain ⟨x, s2⟩ := q_
              rw [hx2] at hel
              obtain ⟨st2, hlt2⟩ := elemP_ok (sibs_ok tx d) HSU.out.ok HSU.out.op hlt1 hx2
              have HST2 : Hid (Step tx s1 s2) := st2
              have HG2 : Hid (sibP tx.data.toList (d + 1) s = sibF tx.data.toList (elemP tx.data.toList (sibP tx.data.toList d)) k s2 (A2 ++ [x])) := by show sibP _ _ _ = _; rw [HG.out, hx2]
              clear hx2 HG st2
              go_wp2_with fail
              refine hel.mono ?_
              rintro e w3 ⟨⟨uu, R, rfl, htr, hR⟩, hr3, ht3⟩
              have HS3 : Hid (SibSt w b tx d s (.slice va2 (acc.length + 1) vcap2) w3 A2 s2 (XS2) (RF2)) := HSU.out.go hr3 HST2.out.ok HST2.out.op ht3
              have HR3 : Hid (∀ k, R k → w.heap.size ≤ k ∧ k < w3.heap.size ∧ (Value.slice va2 (acc.length + 1) vcap2).ownBlock ≠ some k ∧ ¬ (RF2) k) := fun k hk => by
                have h1 := hR k hk
                refine ⟨Nat.le_trans HSU.out.turn.size h1.1, h1.2, fun e => ?_, fun e => ?_⟩
                · have := (own_block_lt HSU.out.own k e).2; omega
                · have := (HSU.out.rf k e).2.1; omega
              obtain ⟨kk', nm', a'', al'', ac'', tx', ka3, kl3, kc3, rfl⟩ := htr.form
              have HTR : Hid (TreeS w3 (d + 1) R #[.int .i64 kk', .string nm', .slice a'' al'' ac'', .string tx', .slice ka3 kl3 kc3] x) := htr
              have hs3 := HS3.out.turn.size
              clear hel hr3 ht3 htr hR HSU
              have tok2 : True := trivial
              go_wp2_with (at_builtin; have _t := tok2; refine wpList_app rfl _ _ rfl Tryz.underlying22 infoT rfl (by decide) w.heap.size (.slice va2 (acc.length + 1) vcap2) A2.length (XS2) rfl (own_of_block HS3.out.own (fun k hk => Below.heap_alloc _ _ _ (own_block_lt HS3.out.own k hk).2)) (some ⟨w3.heap.size, 0, none⟩) 1 1 [.int .i64 kk', .string nm', .slice a'' al'' ac'', .string tx', .slice ka3 kl3 kc3] rfl rfl (by have := news_new w3 #[.int .i64 kk', .string nm', .slice a'' al'' ac'', .string tx', .slice ka3 kl3 kc3] 40; simpa using this) (tree_one _ _ _ _ _ _ _ _ _) (by unfold maxLen; omega) (by omega) (by simp; omega) ?_; intro v3 w4 hown3 hg3 _ hat3; clear tok2 _t; obtain ⟨la', lcap', hv3⟩ := own_slice hown3; subst hv3; have HS4 : Hid (SibSt w b tx d s (.slice la' (A2.length + 1) lcap') w4 (A2 ++ [x]) s2 _ _) := HS3.out.app HTR.out HR3.out hown3 hg3 hat3; clear hown3 hg3 hat3 HTR HR3)
              refine ⟨⟨_, s2, k, _, _, ?_, by omega, HS4, HG2⟩, ?_⟩
              · rw [List.length_append, List.length_singleton]; omega
              · rw [HS4.out.rd.atOf, hst.out.rd.atOf]; omega
          · rw [hS] at hse
            have HG : Hid (sibP tx.data.toList (d + 1) s = .inl (A2, s1)) := by
              show sibP _ _ _ = _; rw [hgo.out]; simp only [sibF, HX1.out, hS, or_true, if_true, ht0, if_false, HA2.out]
            clear hend hgo hS
            go_wp2
            refine wp_region_bel (by kernel_rfl) (by kernel_rfl) ?_
            intro hne
            repeat go_big_quiet_step ((go_at_call 56; exact Calls.bel_of (hse _)))
            refine wpQuiet_nil ?_
            rintro _ ⟨u, rfl⟩
            have HSU : Hid (SibSt w b tx d s (.slice va2 (acc.length + 1) vcap2) u.w A2 s1 (XS2) (RF2)) := HS2.out.go (HS2.out.rd.below u.h hb) HS2.out.ok rfl (turn_below _ u.h (Nat.le_refl _))
            clear h0 h1 h2 h3 f1 f2 f3
            go_wp2
            go_ret
            exact Post.yes HG.out (sibV_of HSU.out HLN.out (by omega)) HSU.out.rd (turn_in HSU.out.turn)

/-- Where no more lies within there is no text. -/
theorem putP_full {s : St} {x : Bs} {a : Nat} (h : s.op = 64) : ∃ p e, putP s [] x a = .inr (p, e) := by
  refine ⟨a, 2, ?_⟩
  simp [putP, beginP, h]
theorem putsP_full {s s1 : St} {x o1 : Bs} {a : Nat} (h : s.op = 64) (e : putsP s [] x a = .inl (o1, s1)) : o1 = [] ∧ s1 = s := by
  cases x with
  | nil => cases e; exact ⟨rfl, rfl⟩
  | cons b r =>
    rw [putsP_cons] at e
    obtain ⟨p, c, hp⟩ := putP_full (s := s) (x := [b]) (a := a) h
    rw [hp] at e; cases e
theorem rawF_full : ∀ (k : Nat) {s s1 : St} {x o1 : Bs} {a : Nat}, s.op = 64 → rawF k s [] x a = .inl (o1, s1) → o1 = [] := by
  intro k
  induction k with
  | zero => intro s s1 x o1 a h e; cases e; rfl
  | succ k ih =>
    intro s s1 x o1 a h e
    by_cases hx : x = []
    · subst hx; rw [rawF_end] at e; cases e; rfl
    · cases hf : first x with
      | none => rw [rawF_bad hx hf] at e; cases e
      | some p =>
        obtain ⟨r0, n⟩ := p
        rw [rawF_step hx hf] at e
        cases hp : putsP s [] (x.take n) a with
        | inr q_ => obtain ⟨p, e'⟩ := q_; rw [hp] at e; cases e
        | inl q_ =>
          obtain ⟨o2, s2⟩ := q_
          rw [hp] at e
          obtain ⟨e1, e2⟩ := putsP_full h hp
          subst e1 e2
          exact ih h e
theorem wordsF_full {tx : ByteArray} : ∀ (k : Nat) {s s1 : St} {t : Bs}, Ok tx s → s.op = 64 → wordsF tx.data.toList k s [] = .inl (t, s1) → t = [] := by
  intro k
  induction k with
  | zero => intro s s1 t _ h e; cases e; rfl
  | succ k ih =>
    intro s s1 t ok hop h
    unfold wordsF at h
    cases hg : tx.data.toList[s.at_]? with
    | none => rw [hg] at h; cases h; rfl
    | some b =>
      rw [hg] at h
      simp only at h
      split at h
      · cases hp : letterP tx.data.toList s with
        | inr q_ => obtain ⟨p, e⟩ := q_; rw [hp] at h; cases h
        | inl q_ =>
          obtain ⟨x, s2⟩ := q_
          rw [hp] at h
          simp only at h
          obtain ⟨-, -, -, g4, -⟩ := letterP_ok hp
          obtain ⟨p, c, hq⟩ := putP_full (s := s2) (x := x) (a := s.at_) (by rw [g4]; exact hop)
          rw [hq] at h; cases h
      · split at h
        · rename_i hs
          have h9 := seesP_le hs (by simp)
          rw [size_list] at h9
          cases hp : skipP tx.data.toList 4 [45, 45, 62] s with
          | inr q_ => obtain ⟨p, e⟩ := q_; rw [hp] at h; cases h
          | inl q_ =>
            obtain ⟨x, s2⟩ := q_
            rw [hp] at h
            have st := step_skip ok h9 hp
            exact ih st.ok (by rw [st.op]; exact hop) h
        · split at h
          · rename_i hs
            have h9 := seesP_le hs (by simp)
            rw [size_list] at h9
            cases hp : skipP tx.data.toList 2 [63, 62] s with
            | inr q_ => obtain ⟨p, e⟩ := q_; rw [hp] at h; cases h
            | inl q_ =>
              obtain ⟨x, s2⟩ := q_
              rw [hp] at h
              have st := step_skip ok h9 hp
              exact ih st.ok (by rw [st.op]; exact hop) h
          · split at h
            · rename_i hs
              have h9 := seesP_le hs (by simp)
              cases hp : rawP tx.data.toList s [] with
              | inr q_ => obtain ⟨p, e⟩ := q_; rw [hp] at h; cases h
              | inl q_ =>
                obtain ⟨o2, s2⟩ := q_
                rw [hp] at h
                obtain ⟨g1, g2, g3, g4, g5⟩ := rawP_ok (by simp) h9 hp
                rw [size_list] at g2
                have e1 : o2 = [] := by
                  unfold rawP at hp
                  cases hk : skipP tx.data.toList 9 [93, 93, 62] s with
                  | inr q_ => obtain ⟨p, e⟩ := q_; rw [hk] at hp; cases hp
                  | inl q_ =>
                    obtain ⟨y, s3⟩ := q_
                    rw [hk] at hp
                    obtain ⟨f1, -, -⟩ := skipP_ok hk h9
                    exact rawF_full _ (by rw [f1]; exact hop) hp
                subst e1
                exact ih ⟨ok.len, g2, g4 ok.nodes, by rw [g3]; exact ok.op⟩ (by rw [g3]; exact hop) h
            · cases hp : tagP tx.data.toList s with
              | inr q_ => obtain ⟨p, e⟩ := q_; rw [hp] at h; cases h
              | inl q_ => obtain ⟨u, s2⟩ := q_; rw [hp] at h; cases h; rfl

set_option maxRecDepth 100000 in
set_option maxHeartbeats 2000000 in
theorem sib_zero : SibAll 0 := by
  intro w b tx s h ok hop
  have hop64 : s.op = 64 := by omega
  have hbw := h.facts.2.2.2.2.2.2.2
  have hwd := words_any w b tx s h ok
  have k1 := ok.len
  have HR : Hid (Rd w b tx s) := h
  have HOK : Hid (Ok tx s) := ok
  cases hx1 : wordsP tx.data.toList s with
  | inr q_ =>
    obtain ⟨p, e⟩ := q_
    rw [hx1] at hwd
    have HG : Hid (sibP tx.data.toList 0 s = .inr (p, e)) := by show sibP _ _ _ = _; simp only [sibP, hx1]
    clear hx1 h ok
    go_enter Tryz.func35, Tryz.ntmps35
    go_wp2
    go_loopw [3] (fun v3 wr => wr = w) (fun _ _ => 0)
    case atStart => rfl
    case round =>
      obtain rfl := hrel.symm
      go_wp2_with fail
      refine hwd.mono ?_
      rintro e w1 ⟨rfl, ht1⟩
      exact ⟨rfl, Post.no HG.out ht1⟩
  | inl q_ =>
    obtain ⟨t, s1⟩ := q_
    rw [hx1] at hwd
    have ht0 : t = [] := wordsF_full _ ok hop64 hx1
    obtain ⟨st1, -⟩ := wordsP_ok ok hx1
    have HST1 : Hid (Step tx s s1) := st1
    have HX1 : Hid (wordsP tx.data.toList s = .inl (t, s1)) := hx1
    have hat2 := st1.ok.at_
    have hop1 : s1.op = 64 := by rw [st1.op]; exact hop64
    have hbg : beginP s1 s1.at_ = .inr (s1.at_, 2) := by simp [beginP, hop1]
    have HBG : Hid (beginP s1 s1.at_ = .inr (s1.at_, 2)) := hbg
    have te : (ba t).toList.isEmpty = true := by rw [ht0]; simp [ba, ByteArray.toList_eq]
    clear hx1 h ok ht0 st1 hop1 hbg hop64
    go_enter Tryz.func35, Tryz.ntmps35
    go_wp2
    go_loopw [3] (fun v3 wr => v3 = .slice none 0 0 ∧ wr = w) (fun _ _ => 0)
    case atStart => exact ⟨rfl, rfl⟩
    case round =>
      obtain ⟨rfl, hw⟩ := hrel
      obtain rfl := hw.symm
      go_wp2_with fail
      refine hwd.mono ?_
      rintro e w1 ⟨rfl, hr1, ht1⟩
      have HR1 : Hid (Rd w1 b tx s1) := hr1
      have HT1 : Hid (Turn (fun x => x = b) w w1) := ht1
      obtain ⟨h0, h1, h2, h3, f1, f2, f3, hb⟩ := hr1.facts
      clear hwd hr1 ht1
      by_cases hend : s1.at_ = tx.size
      · have HG : Hid (sibP tx.data.toList 0 s = .inl ([], s1)) := by show sibP _ _ _ = _; simp only [sibP, HX1.out, size_list, hend, true_or, if_true]
        have t1 : ((s1.at_ : Int) == (tx.size : Int)) = true := by simp; omega
        clear hend
        go_wp2
        refine wp_region_bel (by kernel_rfl) (by kernel_rfl) ?_
        intro hne
        repeat go_big_quiet_step (fail)
        refine wpQuiet_nil ?_
        rintro _ ⟨u, rfl⟩
        go_wp2
        go_ret
        exact Post.yes HG.out ⟨none, 0, [], fun _ => False, rfl, by simp, ⟨rfl, .inl ⟨rfl, rfl⟩⟩, ForS.nil _ _, fun k h => h.elim⟩ (HR1.out.below u.h hb) (HT1.out.then u.h HT1.out.size)
      · have t1 : ((s1.at_ : Int) == (tx.size : Int)) = false := by simp; omega
        have hse : ∀ u : Bel w1, Calls Tryz.prog 56 #[.pointer (some ⟨b, 0, none⟩), .string ⟨#[60, 47]⟩] u.w fun e w' => e = .returned (.bool (seesP tx.data.toList [60, 47] s1.at_)) ∧ Below u.w.heap.size u.w w' := fun u => sees_any u.w b tx s1 (HR1.out.below u.h hb) HST1.out.ok ⟨#[60, 47]⟩
        cases hS : seesP tx.data.toList [60, 47] s1.at_
        · rw [hS] at hse
          have HG : Hid (sibP tx.data.toList 0 s = .inr (s1.at_, 2)) := by show sibP _ _ _ = _; simp only [sibP, HX1.out, size_list, hend, hS, Bool.false_eq_true, or_false, if_false]
          clear hend hS
          go_wp2
          refine wp_region_bel (by kernel_rfl) (by kernel_rfl) ?_
          intro hne
          repeat go_big_quiet_step ((go_at_call 56; exact Calls.bel_of (hse _)))
          refine wpQuiet_nil ?_
          rintro _ ⟨u, rfl⟩
          have hel := el_full u.w b tx s1 (HR1.out.below u.h hb) HST1.out.ok _ _ HBG.out
          clear hse h0 h1 h2 h3 f1 f2 f3
          go_wp2_with fail
          refine hel.mono ?_
          rintro e w3 ⟨rfl, ht3⟩
          exact ⟨rfl, Post.no HG.out ((HT1.out.then u.h HT1.out.size).trans ht3)⟩
        · rw [hS] at hse
          have HG : Hid (sibP tx.data.toList 0 s = .inl ([], s1)) := by show sibP _ _ _ = _; simp only [sibP, HX1.out, hS, or_true, if_true]
          clear hend hS
          go_wp2
          refine wp_region_bel (by kernel_rfl) (by kernel_rfl) ?_
          intro hne
          repeat go_big_quiet_step ((go_at_call 56; exact Calls.bel_of (hse _)))
          refine wpQuiet_nil ?_
          rintro _ ⟨u, rfl⟩
          go_wp2
          go_ret
          exact Post.yes HG.out ⟨none, 0, [], fun _ => False, rfl, by simp, ⟨rfl, .inl ⟨rfl, rfl⟩⟩, ForS.nil _ _, fun k h => h.elim⟩ (HR1.out.below u.h hb) (HT1.out.then u.h HT1.out.size)

theorem sib_any : ∀ d, SibAll d
  | 0 => sib_zero
  | d + 1 => sib_of_el d (el_of_sib d (sib_any d))

end Go.Proofs.YtmifejkddgcbmaaGreat
