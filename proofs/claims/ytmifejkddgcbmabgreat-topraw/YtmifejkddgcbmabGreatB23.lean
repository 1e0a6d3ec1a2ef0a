/- The document's forest, walked. -/
import Derived.Test.YtmifejkddgcbmabGreatB22
namespace Go.Proofs.YtmifejkddgcbmabGreat
open Go.RowKit
set_option linter.unusedVariables false
set_option linter.unusedSimpArgs false
attribute [local go_sem] Bel.cell Bel.fz

/-- Rows of other types lie in other blocks. -/
theorem own_other {w : World} {b1 b2 : Nat} {e1 e2 : TypeId} {z1 z2 : Nat} {v1 v2 : Value} {n1 n2 : Nat} {x1 x2 : List Value} (h1 : w.ownsRow b1 e1 z1 v1 n1 x1) (h2 : w.ownsRow b2 e2 z2 v2 n2 x2) (hne : e2 ≠ e1) {k : Nat} (hk : v1.ownBlock = some k) : v2.ownBlock ≠ some k := by
  intro hk2
  rcases h2.2 with ⟨rfl, rfl⟩ | ⟨g, cap, cur, rfl, hb, hh, _⟩
  · cases hk2
  · simp only [Value.ownBlock, Option.some.injEq] at hk2
    subst hk2
    exact own_not h1 hh hne hk
theorem Qd.grown40 {w3 w4 : World} {b B W : Nat} {tx : ByteArray} {q : Qs} {vo vt v : Value} {op : List ByteArray} {o : Bs} {n : Nat} {xs : List Value} {x : Obj} (h : Qd w3 b B tx q vo vt op o) (hv : w3.ownsRow W 34 5 v n xs) (hb : b < W) (hg : (w3.alloc x).grownBy w4 v.ownBlock) : Qd w4 b B tx q vo vt op o := by
  have hblk : ∀ k, k < w3.heap.size → v.ownBlock ≠ some k → w4.heap[k]? = w3.heap[k]? := fun k hk hne => by
    rw [hg.block k (by simp; omega) (fun e => hne e.symm), Below.heap_alloc _ _ _ hk]
  have hs := hg.size
  have hsz : (w3.alloc x).heap.size = w3.heap.size + 1 := by simp
  refine ⟨(hblk b (Nat.lt_of_lt_of_le h.ltb h.leB) (fun e => by have := (own_block_lt hv b e).1; omega)).trans h.cel, ?_, ?_, h.opb, h.ltb, by have := h.leB; omega, h.nl⟩
  · exact own_of_block h.txt (fun k hk => hblk k (own_block_lt h.txt k hk).2 (own_other h.txt hv (by decide) hk))
  · exact own_of_block h.opn (fun k hk => hblk k (own_block_lt h.opn k hk).2 (own_other h.opn hv (by decide) hk))
theorem QS.grown40 {w3 w4 : World} {b B W : Nat} {tx : ByteArray} {s : St} {v : Value} {op : List ByteArray} {n : Nat} {xs : List Value} {x : Obj} (h : QS w3 b B tx s op []) (hv : w3.ownsRow W 34 5 v n xs) (hb : b < W) (hg : (w3.alloc x).grownBy w4 v.ownBlock) : QS w4 b B tx s op [] := by
  obtain ⟨h1, vo, vt, hq⟩ := h
  exact ⟨h1, vo, vt, hq.grown40 hv hb hg⟩
theorem QE.grown40 {w3 w4 : World} {b B W M p : Nat} {tx : ByteArray} {c : Int} {v : Value} {n : Nat} {xs : List Value} {x : Obj} (h : QE w3 b B tx M p c) (hv : w3.ownsRow W 34 5 v n xs) (hb : b < W) (hg : (w3.alloc x).grownBy w4 v.ownBlock) : QE w4 b B tx M p c := by
  obtain ⟨hc, q, vo, vt, op, o, hq, r⟩ := h
  exact ⟨hc, q, vo, vt, op, o, hq.grown40 hv hb hg, r⟩

/-- The forest under way. -/
structure FoSt (w : World) (b : Nat) (d : Nat) (v : Value) (wr : World) (acc : List (T (d + 1))) (xs : List Value) (Rf : Nat → Prop) : Prop where
  own : wr.ownsRow w.heap.size 34 5 v acc.length xs
  fo : ForS (TreeS wr (d + 1)) Rf xs acc
  rf : ∀ k, Rf k → w.heap.size ≤ k ∧ k < wr.heap.size ∧ v.ownBlock ≠ some k
  turn : Turn (fun x => x = b) w wr
  ltb : b < w.heap.size
theorem FoSt.go {w wr wr' : World} {b d : Nat} {v : Value} {acc : List (T (d + 1))} {xs : List Value} {Rf : Nat → Prop} (h : FoSt w b d v wr acc xs Rf) (ht : Turn (fun x => x = b) wr wr') : FoSt w b d v wr' acc xs Rf :=
  ⟨own_row_to h.own ht (fun k hk e => by have := h.ltb; omega), h.fo.to (fun k hk => ht.block k (h.rf k hk).2.1 (by have := (h.rf k hk).1; have := h.ltb; omega)) (fun _ h => h), fun k hk => ⟨(h.rf k hk).1, Nat.lt_of_lt_of_le (h.rf k hk).2.1 ht.size, (h.rf k hk).2.2⟩, h.turn.trans ht, h.ltb⟩
/-- A store into a block that is none of its own. -/
theorem FoSt.set {w wr : World} {b d : Nat} {v : Value} {acc : List (T (d + 1))} {xs : List Value} {Rf : Nat → Prop} (h : FoSt w b d v wr acc xs Rf) {c : Nat} (hc : w.heap.size ≤ c) (h1 : v.ownBlock ≠ some c) (h2 : ¬ Rf c) (j : Nat) (u : Value) : FoSt w b d v (wr.setCell ⟨c, j, none⟩ u) acc xs Rf :=
  ⟨own_of_block h.own (fun k hk => Below.heap_setCell _ _ _ _ (fun e => h1 (by rw [hk]; exact congrArg some e))), h.fo.to (fun k hk => Below.heap_setCell _ _ _ _ (fun e => h2 (by have e' : k = c := e; rw [← e']; exact hk))) (fun _ h => h), fun k hk => ⟨(h.rf k hk).1, by simpa [World.setCell] using (h.rf k hk).2.1, (h.rf k hk).2.2⟩, h.turn.setNew (p := ⟨c, j, none⟩) hc _, h.ltb⟩
theorem FoSt.turnG {w : World} {b d : Nat} {v : Value} {w3 w4 : World} {o : Obj} {acc : List (T (d + 1))} {xs : List Value} {Rf : Nat → Prop} (h : FoSt w b d v w3 acc xs Rf) (hg : (w3.alloc o).grownBy w4 v.ownBlock) : Turn (fun x => x = b) w w4 := by
  have hsz : (w3.alloc o).heap.size = w3.heap.size + 1 := by simp
  have hws := h.turn.size
  have hrow : ∀ k, k < w.heap.size → w4.heap[k]? = w3.heap[k]? := fun k hk => by
    rw [hg.block k (by rw [hsz]; omega) (fun e => by have := (own_block_lt h.own k e.symm).1; omega), Below.heap_alloc _ _ _ (by omega)]
  have hs4 := hg.size
  rw [hsz] at hs4
  exact ⟨hg.os.trans h.turn.os, hg.tape.trans h.turn.tape, hg.output.trans h.turn.output, by omega, fun k hk ha => (hrow k hk).trans (h.turn.block k hk ha)⟩
theorem FoSt.app {w : World} {b d : Nat} {v v' : Value} {w3 w4 : World} {o : Obj} {acc : List (T (d + 1))} {xs : List Value} {Rf S : Nat → Prop} {u : Array Value} {t : T (d + 1)} (h : FoSt w b d v w3 acc xs Rf) (hu : TreeS w3 (d + 1) S u t)
    (hS : ∀ k, S k → w.heap.size ≤ k ∧ k < w3.heap.size ∧ v.ownBlock ≠ some k ∧ ¬ Rf k) (hown : w4.ownsRow w.heap.size 34 5 v' (acc.length + 1) (xs ++ u.toList)) (hg : (w3.alloc o).grownBy w4 v.ownBlock) (hat : v'.ownBlock = v.ownBlock ∨ v'.ownBlock = some (w3.alloc o).heap.size) :
    FoSt w b d v' w4 (acc ++ [t]) (xs ++ u.toList) (fun k => Rf k ∨ S k) := by
  obtain ⟨f1, f2⟩ := sib_app h.fo h.rf hu hS hg hat
  exact ⟨by rw [List.length_append]; exact hown, f1, f2, h.turnG hg, h.ltb⟩
theorem FoSt.sibV {w wr : World} {b d : Nat} {va : Option Addr} {n vcap : Nat} {acc : List (T (d + 1))} {xs : List Value} {Rf : Nat → Prop} (h : FoSt w b d (.slice va n vcap) wr acc xs Rf) (hn : n = acc.length) (hl : acc.length ≤ 600000) : SibV w (d + 1) acc (.returned (.slice va n vcap)) wr := by
  subst hn
  exact ⟨_, _, _, _, rfl, hl, h.own, h.fo, h.rf⟩

theorem nextQ_none {l : Bs} {op : List ByteArray} {s s1 : St} (hq : nextQ l op s = .inl (.none, s1)) : op = [] := by
  unfold nextQ at hq
  cases hw : wordsP l s with
  | inr q_ => obtain ⟨p, e⟩ := q_; rw [hw] at hq; cases hq
  | inl q_ =>
    obtain ⟨t, s2⟩ := q_
    rw [hw] at hq
    simp only at hq
    split at hq
    · cases hq
    · split at hq
      · split at hq
        · assumption
        · cases hq
      · split at hq
        · cases he : endQ l op s2.at_ { s2 with at_ := s2.at_ + 2 } with
          | inr q_ => obtain ⟨p, e⟩ := q_; rw [he] at hq; cases hq
          | inl q_ => obtain ⟨u, s3⟩ := q_; rw [he] at hq; cases hq
        · cases hb : beginP s2 s2.at_ with
          | inr q_ => obtain ⟨p, e⟩ := q_; rw [hb] at hq; cases hq
          | inl q_ =>
            obtain ⟨u, s3⟩ := q_
            rw [hb] at hq
            simp only at hq
            cases htq : tagQ l { s3 with at_ := s3.at_ + 1 } with
            | inr q_ => obtain ⟨p, e⟩ := q_; rw [htq] at hq; cases hq
            | inl q_ => obtain ⟨r, s4⟩ := q_; rw [htq] at hq; cases hq

/-- What the loop of 'forest' keeps. -/
def FoRel (w wr : World) (b : Nat) (tx : ByteArray) (d : Nat) (s : St) (op : List ByteArray) (v3 : Value) : Prop :=
  (∃ acc s' k xs Rf B, acc.length ≤ 2 * s'.at_ ∧ tx.size - s'.at_ < k ∧ FoSt w b d v3 wr acc xs Rf ∧ QS wr b B tx s' op [] ∧ Ok tx s' ∧ s'.op = s.op ∧ sibP tx.data.toList (d + 1) s = sibF tx.data.toList (elemP tx.data.toList (sibP tx.data.toList d)) k s' acc) ∨
  (∃ p c B va vn vc, forQ tx.data.toList (d + 1) op s = .inr (p, c) ∧ QE wr b B tx tx.size p c ∧ v3 = .slice va vn vc ∧ Turn (fun k => k = b) w wr)

set_option maxRecDepth 100000 in
set_option maxHeartbeats 8000000 in
theorem for_succ (d : Nat) (ih : ForAll d) : ForAll (d + 1) := by
  intro w b B tx s op h ok hop
  have hbw : b < w.heap.size := Nat.lt_of_lt_of_le h.2.choose_spec.choose_spec.ltb h.2.choose_spec.choose_spec.leB
  have k1 := ok.len
  have HREL : Hid (FoRel w w b tx d s op (.slice none 0 0)) := .inl ⟨[], s, tx.size - s.at_ + 1, [], fun _ => False, B, by simp, by omega, ⟨⟨rfl, .inl ⟨rfl, rfl⟩⟩, ForS.nil _ _, fun k h => h.elim, Turn.refl _ _, hbw⟩, h, ok, rfl, by simp only [sibP, size_list]⟩
  clear h ok
  go_enter Tryz.func16, Tryz.ntmps16
  go_wp2
  go_loopw [3] (fun v3 wr => Hid (FoRel w wr b tx d s op v3)) (fun _ wr => leftQ tx wr b)
  case atStart => exact HREL
  case round =>
    clear HREL
    rcases hrel.out with ⟨acc, s', k, xs, Rf, B1, hacc, hfu, hfs, hqs, hok', hops, hgo⟩ | ⟨p, c, B1, va, vn, vc, hg, hqe, rfl, htn⟩
    · obtain ⟨k, rfl⟩ : ∃ j, k = j + 1 := ⟨k - 1, by omega⟩
      obtain ⟨va, vcap, hv3⟩ := own_slice hfs.own
      subst hv3
      have HFS : Hid (FoSt w b d (.slice va acc.length vcap) wr acc xs Rf) := hfs
      have HOK' : Hid (Ok tx s') := hok'
      have HOS : Hid (s'.op = s.op) := hops
      have hat' := hok'.at_
      have HLEFT : Hid (leftQ tx wr b = tx.size - s'.at_ + 1) := by show _ = _; obtain ⟨-, _, _, hq⟩ := hqs; rw [hq.left]; rfl
      have hnx := qNext_any wr b B1 tx s' op hqs hok'
      have hev := next_sib (d := d) (op := op) (k := k) (acc := acc) hok' (by omega)
      have HGO : Hid (sibP tx.data.toList (d + 1) s = sibF tx.data.toList (elemP tx.data.toList (sibP tx.data.toList d)) (k + 1) s' acc) := hgo
      clear hfs hqs hok' hops hgo hrel
      cases hq : nextQ tx.data.toList op s' with
      | inr q_ =>
        obtain ⟨p, c⟩ := q_
        rw [hq] at hnx hev
        have HG : Hid (forQ tx.data.toList (d + 1) op s = .inr (p, c)) := by show _ = _; rw [forQ_bind, HGO.out]; exact hev
        clear hev hq
        go_wp2_with fail
        refine hnx.mono ?_
        rintro e w1 ⟨ht1, rfl, B2, hqe⟩
        have HT1 : Hid (Turn (fun k => k = b) w w1) := HFS.out.turn.trans ht1
        have HQ1 : Hid (QE w1 b B2 tx tx.size p c) := hqe
        clear hnx ht1 hqe
        unfold evNo evV
        go_wp2
        go_ret
        exact FoPost.no HG.out (HT1.out.alloc _) (HQ1.out.allocs _)
      | inl q_ =>
        obtain ⟨ev, s1⟩ := q_
        rw [hq] at hnx hev
        cases ev using ev_cases with
        | none =>
          have HG : Hid (forQ tx.data.toList (d + 1) op s = .inl (acc, s1)) := by show _ = _; rw [forQ_bind, HGO.out]; exact hev
          have HOE : Hid (op = []) := nextQ_none hq
          clear hev hq
          go_wp2_with fail
          refine hnx.mono ?_
          rintro e w1 ⟨ht1, hv, hqs⟩
          have hv' : e = .returned evNo := hv
          subst hv'
          have HS1 : Hid (FoSt w b d (.slice va acc.length vcap) (w1.alloc (.cells #[.int .i64 0, .string ⟨#[]⟩, .slice none 0 0, .string ⟨#[]⟩] 66)) acc xs Rf) := HFS.out.go (ht1.alloc _)
          have HQ1 : Hid (QS w1 b w1.heap.size tx s1 op.dropLast []) := by
            show QS _ _ _ _ _ _ _
            have h9 : QS w1 b w1.heap.size tx s1 op [] := hqs
            rw [HOE.out] at h9 ⊢
            exact h9
          clear hnx ht1 hqs hv
          unfold evNo evV
          go_wp2
          go_ret
          exact FoPost.yes HG.out HS1.out.turn (HS1.out.sibV rfl (by omega)) (HQ1.out.allocs _)
        | fin n =>
          have HG : Hid (forQ tx.data.toList (d + 1) op s = .inl (acc, s1)) := by show _ = _; rw [forQ_bind, HGO.out]; exact hev
          clear hev hq
          go_wp2_with fail
          refine hnx.mono ?_
          rintro e w1 ⟨ht1, hv, hqs⟩
          have hv' : e = .returned (evV 3 n (.slice none 0 0) ⟨#[]⟩ false true) := hv
          subst hv'
          have HS1 : Hid (FoSt w b d (.slice va acc.length vcap) (w1.alloc (.cells #[.int .i64 3, .string n, .slice none 0 0, .string ⟨#[]⟩] 66)) acc xs Rf) := HFS.out.go (ht1.alloc _)
          have HQ1 : Hid (QS w1 b w1.heap.size tx s1 op.dropLast []) := hqs
          clear hnx ht1 hqs hv
          unfold evV
          go_wp2
          go_ret
          exact FoPost.yes HG.out HS1.out.turn (HS1.out.sibV rfl (by omega)) (HQ1.out.allocs _)
        | words t =>
          obtain ⟨hsib, hfar, hstep, htl⟩ := hev
          have HG : Hid (sibP tx.data.toList (d + 1) s = sibF tx.data.toList (elemP tx.data.toList (sibP tx.data.toList d)) (k + 1) s1 (acc ++ [txtT t])) := HGO.out.trans hsib
          have HST : Hid (Step tx s' s1) := hstep
          have hat1 := hstep.ok.at_
          clear hsib hstep hq
          go_wp2_with fail
          refine hnx.mono ?_
          rintro e w1 ⟨ht1, hv, hqs⟩
          have hv' : e = .returned (evV 2 ⟨#[]⟩ (.slice none 0 0) (ba t) false true) := hv
          subst hv'
          have HS1 : Hid (FoSt w b d (.slice va acc.length vcap) (w1.alloc (.cells #[.int .i64 2, .string ⟨#[]⟩, .slice none 0 0, .string (ba t)] 66)) acc xs Rf) := HFS.out.go (ht1.alloc _)
          have HQ1 : Hid (QS (w1.alloc (.cells #[.int .i64 2, .string ⟨#[]⟩, .slice none 0 0, .string (ba t)] 66)) b (w1.alloc (.cells #[.int .i64 2, .string ⟨#[]⟩, .slice none 0 0, .string (ba t)] 66)).heap.size tx s1 op []) := QS.allocs hqs _
          obtain ⟨c0, c1, c2, c3⟩ := @cells4' w1 (.int .i64 2) (.string ⟨#[]⟩) (.slice none 0 0) (.string (ba t))
          have ccl : w1.heap.size < (w1.alloc (.cells #[.int .i64 2, .string ⟨#[]⟩, .slice none 0 0, .string (ba t)] 66)).heap.size := by simp
          clear hnx ht1 hqs hv HFS
          unfold evV
          go_upto_region 7 with fail
          generalize (w1.alloc (.cells #[.int .i64 2, .string ⟨#[]⟩, .slice none 0 0, .string (ba t)] 66)) = w2 at *
          generalize w1.heap.size = c at *
          have hs1 := HS1.out.turn.size
          have tok1 : True := trivial
          go_wp2_with (at_builtin; have _t := tok1; refine wpList_app rfl _ _ rfl Tryz.underlying27 infoT rfl (by decide) w.heap.size (.slice va acc.length vcap) acc.length xs rfl (own_of_block HS1.out.own (fun k hk => Below.heap_alloc _ _ _ (own_block_lt HS1.out.own k hk).2)) (some ⟨w2.heap.size, 0, none⟩) 1 1 [.int .i64 2, .string ⟨#[]⟩, .slice none 0 0, .string (ba t), .slice none 0 0] rfl rfl (by have := news_new w2 #[.int .i64 2, .string ⟨#[]⟩, .slice none 0 0, .string (ba t), .slice none 0 0] 34; simpa using this) (tree_one _ _ _ _ _ _ _ _ _) (by unfold maxLen; omega) (by omega) (by simp; omega) ?_; intro v2 w4 hown2 hg2 _ hat2; clear tok1 _t; obtain ⟨va2, vcap2, hv2⟩ := own_slice hown2; subst hv2; have HS2 : Hid (FoSt w b d (.slice va2 (acc.length + 1) vcap2) w4 (acc ++ [txtT t]) _ _) := HS1.out.app (treeS_txt w2 d t) (fun k h => h.elim) hown2 hg2 hat2; have HQ2 : Hid (QS w4 b w2.heap.size tx s1 op []) := HQ1.out.grown40 HS1.out.own hbw hg2; clear hown2 hg2 hat2)
          refine ⟨.inl ⟨acc ++ [txtT t], s1, k + 1, _, _, _, ?_, by omega, HS2.out, HQ2.out, HST.out.ok, HST.out.op.trans HOS.out, HG.out⟩, ?_⟩
          · rw [List.length_append, List.length_singleton]; omega
          · obtain ⟨-, _, _, hq2⟩ := HQ2.out
            rw [hq2.left, HLEFT.out]
            simp only [okQ, if_true]
            omega
        | start n a em =>
          obtain ⟨hse1, hse2⟩ := hev
          obtain ⟨hst1, hst2⟩ := next_start (d := d) HOK'.out (by have := HOS.out; omega) hq
          have HLO : Hid ((∀ k, (Value.slice va acc.length vcap).ownBlock = some k → k < wr.heap.size) ∧ (∀ k, Rf k → k < wr.heap.size) ∧ w.heap.size ≤ wr.heap.size) := ⟨fun k hk => (own_block_lt HFS.out.own k hk).2, fun k hk => (HFS.out.rf k hk).2.1, HFS.out.turn.size⟩
          have HSE1 : Hid _ := hse1
          have HSE2 : Hid _ := hse2
          have HST1 : Hid _ := hst1
          have HST2 : Hid _ := hst2
          clear hq hse1 hse2 hst1 hst2
          go_wp2_with fail
          refine hnx.mono ?_
          rintro e w1 ⟨ht1, ⟨hD, hL32, la, lcap, hv, hown⟩, hqs⟩
          subst hv
          have HS1 : Hid (FoSt w b d (.slice va acc.length vcap) (w1.alloc (.cells #[.int .i64 1, .string (ba n), .slice la a.length lcap, .string ⟨#[]⟩] 66)) acc xs Rf) := HFS.out.go (ht1.alloc _)
          have HQ1 : Hid (QS (w1.alloc (.cells #[.int .i64 1, .string (ba n), .slice la a.length lcap, .string ⟨#[]⟩] 66)) b (w1.alloc (.cells #[.int .i64 1, .string (ba n), .slice la a.length lcap, .string ⟨#[]⟩] 66)).heap.size tx s1 (opOf op (.some (.inr (.inl (n, a, em))))) []) := QS.allocs hqs _
          have HO1 : Hid ((w1.alloc (.cells #[.int .i64 1, .string (ba n), .slice la a.length lcap, .string ⟨#[]⟩] 66)).ownsRow wr.heap.size 84 2 (.slice la a.length lcap) a.length (attrCells a)) := own_of_block hown (fun k hk => Below.heap_alloc _ _ _ (own_block_lt hown k hk).2)
          obtain ⟨c0, c1, c2, c3⟩ := @cells4' w1 (.int .i64 1) (.string (ba n)) (.slice la a.length lcap) (.string ⟨#[]⟩)
          have ccl : w1.heap.size < (w1.alloc (.cells #[.int .i64 1, .string (ba n), .slice la a.length lcap, .string ⟨#[]⟩] 66)).heap.size := by simp
          have hL := hL32
          have HWR : Hid (wr.heap.size ≤ (w1.alloc (.cells #[.int .i64 1, .string (ba n), .slice la a.length lcap, .string ⟨#[]⟩] 66)).heap.size) := Nat.le_trans ht1.size (by simp)
          clear hnx ht1 hqs hown hD HFS hL32
          unfold evV
          go_upto_region 7 with fail
          generalize (w1.alloc (.cells #[.int .i64 1, .string (ba n), .slice la a.length lcap, .string ⟨#[]⟩] 66)) = w2 at *
          generalize w1.heap.size = c at *
          have HS3 : Hid (FoSt w b d (.slice va acc.length vcap) (w2.alloc (.cells (elC (ba n) (.slice la a.length lcap) (.slice none 0 0)) 34)) acc xs Rf) := HS1.out.go ((Turn.refl _ w2).alloc _)
          have HQ3 : Hid (QS (w2.alloc (.cells (elC (ba n) (.slice la a.length lcap) (.slice none 0 0)) 34)) b (w2.alloc (.cells (elC (ba n) (.slice la a.length lcap) (.slice none 0 0)) 34)).heap.size tx s1 (opOf op (.some (.inr (.inl (n, a, em))))) []) := HQ1.out.allocs _
          have HO3 : Hid ((w2.alloc (.cells (elC (ba n) (.slice la a.length lcap) (.slice none 0 0)) 34)).ownsRow wr.heap.size 84 2 (.slice la a.length lcap) a.length (attrCells a)) := own_of_block HO1.out (fun k hk => Below.heap_alloc _ _ _ (own_block_lt HO1.out k hk).2)
          have HG3 : Hid ((w2.alloc (.cells (elC (ba n) (.slice la a.length lcap) (.slice none 0 0)) 34)).heap[w2.heap.size]? = some (.cells (elC (ba n) (.slice la a.length lcap) (.slice none 0 0)) 34 (0, 0))) := heap_alloc_new w2 _
          have HOB : Hid (∀ k, (Value.slice la a.length lcap).ownBlock = some k → wr.heap.size ≤ k ∧ k < w2.heap.size) := fun k hk => own_block_lt HO1.out k hk
          have hrs : w.heap.size ≤ w2.heap.size := HS1.out.turn.size
          have hwr2 : wr.heap.size ≤ w2.heap.size := HWR.out
          clear HS1 HQ1 HO1
          go_upto_region 4 with fail
          unfold elC at *
          generalize hw3 : (w2.alloc (.cells #[.int .i64 1, .string (ba n), .slice la a.length lcap, .string ⟨#[]⟩, .slice none 0 0] 34)) = w3 at *
          have hgl : w2.heap.size < w3.heap.size := by rw [← hw3]; simp
          clear hw3 c0 c1 c2 c3 ccl
          generalize w2.heap.size = g at *
          obtain ⟨d0, d1, d2, d3, d4, df⟩ := cells5 HG3.out
          have hs3 := HS3.out.turn.size
          cases em with
          | true =>
            have HG : Hid (sibP tx.data.toList (d + 1) s = sibF tx.data.toList (elemP tx.data.toList (sibP tx.data.toList d)) k s1 (acc ++ [elT n a []])) := HGO.out.trans (HSE1.out rfl)
            obtain ⟨hfar, hstep⟩ := HST1.out rfl
            have HST : Hid (Step tx s' s1) := hstep
            have hat1 := hstep.ok.at_
            have HTR : Hid (TreeS w3 (d + 1) (fun k => (Value.slice la a.length lcap).ownBlock = some k) #[.int .i64 1, .string (ba n), .slice la a.length lcap, .string ⟨#[]⟩, .slice none 0 0] (elT n a [])) := treeS_el (x := []) (Rf := fun _ => False) (xs := []) hL (by simp) (own_base HO3.out (fun k _ => Nat.zero_le _)) ⟨rfl, .inl ⟨rfl, rfl⟩⟩ (ForS.nil _ _) (fun _ h => h.elim) (fun b hb => ⟨hb, fun h => h⟩) (fun b h => by cases h)
            have HR3 : Hid (∀ k, (Value.slice la a.length lcap).ownBlock = some k → w.heap.size ≤ k ∧ k < w3.heap.size ∧ (Value.slice va acc.length vcap).ownBlock ≠ some k ∧ ¬ Rf k) := fun k hk => by
              have h1 := HOB.out k hk
              obtain ⟨l1, l2, l3⟩ := HLO.out
              exact ⟨by omega, by omega, fun e => by have := l1 k e; omega, fun e => by have := l2 k e; omega⟩
            clear hstep HST1 HST2 HSE1 HSE2
            have tok1 : True := trivial
            go_wp2_with (at_builtin; have _t := tok1; refine wpList_app rfl _ _ rfl Tryz.underlying27 infoT rfl (by decide) w.heap.size (.slice va acc.length vcap) acc.length xs rfl (own_of_block HS3.out.own (fun k hk => Below.heap_alloc _ _ _ (own_block_lt HS3.out.own k hk).2)) (some ⟨w3.heap.size, 0, none⟩) 1 1 [.int .i64 1, .string (ba n), .slice la a.length lcap, .string ⟨#[]⟩, .slice none 0 0] rfl rfl (by have := news_new w3 #[.int .i64 1, .string (ba n), .slice la a.length lcap, .string ⟨#[]⟩, .slice none 0 0] 34; simpa using this) (tree_one _ _ _ _ _ _ _ _ _) (by unfold maxLen; omega) (by omega) (by simp; omega) ?_; intro v2 w4 hown2 hg2 _ hat2; clear tok1 _t; obtain ⟨va2, vcap2, hv2⟩ := own_slice hown2; subst hv2; have HS4 : Hid (FoSt w b d (.slice va2 (acc.length + 1) vcap2) w4 (acc ++ [elT n a []]) _ _) := HS3.out.app HTR.out HR3.out hown2 hg2 hat2; have HQ4 : Hid (QS w4 b w3.heap.size tx s1 op []) := HQ3.out.grown40 HS3.out.own hbw hg2; clear hown2 hg2 hat2)
            refine ⟨.inl ⟨acc ++ [elT n a []], s1, k, _, _, _, ?_, by omega, HS4.out, HQ4.out, HST.out.ok, HST.out.op.trans HOS.out, HG.out⟩, ?_⟩
            · rw [List.length_append, List.length_singleton]; omega
            · obtain ⟨-, _, _, hq2⟩ := HQ4.out
              rw [hq2.left, HLEFT.out]
              simp only [okQ, if_true]
              omega
          | false =>
            obtain ⟨hok1, hop1, hkids⟩ := HST2.out rfl
            have HKI : Hid (∀ x s6, forQ tx.data.toList d (op ++ [ba n]) s1 = .inl (x, s6) → s'.at_ < s6.at_ ∧ Step tx s' s6) := hkids
            have HGK : Hid (sibP tx.data.toList (d + 1) s = match forQ tx.data.toList d (op ++ [ba n]) s1 with
                | .inr (p, e) => .inr (p, e)
                | .inl (x, s6) => sibF tx.data.toList (elemP tx.data.toList (sibP tx.data.toList d)) k s6 (acc ++ [elT n a x])) := HGO.out.trans (HSE2.out rfl)
            have hih := ih w3 b w3.heap.size tx s1 (op ++ [ba n]) HQ3.out hok1 (by have := HOS.out; omega)
            have hgb : g ≠ b := by omega
            have hbg : b ≠ g := by omega
            clear hkids HST1 HST2 HSE1 HSE2 HGO hok1 hop1
            go_wp2_with fail
            refine hih.mono ?_
            clear hih
            rintro e w4 ⟨ht4, hp⟩
            have HS4 : Hid (FoSt w b d (.slice va acc.length vcap) w4 acc xs Rf) := HS3.out.go ht4
            have HG4 : Hid (w4.heap[g]? = some (.cells #[.int .i64 1, .string (ba n), .slice la a.length lcap, .string ⟨#[]⟩, .slice none 0 0] 34 (0, 0))) := (ht4.block g hgl hgb).trans HG3.out
            have HVG : Hid ((Value.slice va acc.length vcap).ownBlock ≠ some g ∧ ¬ Rf g) := by
              obtain ⟨l1, l2, l3⟩ := HLO.out
              exact ⟨fun e => by have := l1 g e; omega, fun e => by have := l2 g e; omega⟩
            have hg4 : w3.heap.size ≤ w4.heap.size := ht4.size
            clear d0 d1 d2 d3 d4 df
            obtain ⟨d0, d1, d2, d3, d4, df⟩ := cells5 HG4.out
            cases hf : forQ tx.data.toList d (op ++ [ba n]) s1 with
            | inr q_ =>
              obtain ⟨p, c⟩ := q_
              rw [hf] at hp
              obtain ⟨⟨ka, kn, kc, rfl⟩, B4, hqe⟩ := hp
              have HG : Hid (forQ tx.data.toList (d + 1) op s = .inr (p, c)) := by show _ = _; rw [forQ_bind, HGK.out, hf]; rfl
              have HS5 : Hid (FoSt w b d (.slice va acc.length vcap) (w4.setCell ⟨g, 4, none⟩ (.slice ka kn kc)) acc xs Rf) := HS4.out.set (by omega) HVG.out.1 HVG.out.2 4 _
              have HQ5 : Hid (QE (w4.setCell ⟨g, 4, none⟩ (.slice ka kn kc)) b B4 tx tx.size p c) := by
                obtain ⟨hc, q, vo, vt, op1, o1, hq, r⟩ := hqe
                exact ⟨hc, q, vo, vt, op1, o1, hq.setOther HG4.out (by decide) (by decide) hbg 4 _, r⟩
              have HG5 : Hid ((w4.setCell ⟨g, 4, none⟩ (.slice ka kn kc)).heap[g]? = some (.cells (elC (ba n) (.slice la a.length lcap) (.slice ka kn kc)) 34 (0, 0))) := by show _ = _; simp [World.setCell, Array.getElem?_modify, HG4.out, elC]
              have hgl4 : g < w4.heap.size := by omega
              clear hf hqe ht4
              go_upto_region 6 with fail
              have hs5 := HS5.out.turn.size
              clear d0 d1 d2 d3 d4 df HS4 HG4 HS3 HQ3 HO3 HG3
              generalize (w4.setCell ⟨g, 4, none⟩ (.slice ka kn kc)) = w5 at *
              obtain ⟨d0, d1, d2, d3, d4, df⟩ := cells5 HG5.out
              have tok1 : True := trivial
              go_wp2_with (at_builtin; have _t := tok1; refine wpList_app rfl _ _ rfl Tryz.underlying27 infoT rfl (by decide) w.heap.size (.slice va acc.length vcap) acc.length xs rfl (own_of_block HS5.out.own (fun k hk => Below.heap_alloc _ _ _ (own_block_lt HS5.out.own k hk).2)) (some ⟨w5.heap.size, 0, none⟩) 1 1 [.int .i64 1, .string (ba n), .slice la a.length lcap, .string ⟨#[]⟩, .slice ka kn kc] rfl rfl (by have := news_new w5 #[.int .i64 1, .string (ba n), .slice la a.length lcap, .string ⟨#[]⟩, .slice ka kn kc] 34; simpa using this) (tree_one _ _ _ _ _ _ _ _ _) (by unfold maxLen; omega) (by omega) (by simp; omega) ?_; intro v2 w6 hown2 hg2 _ hat2; clear tok1 _t; obtain ⟨va2, vcap2, hv2⟩ := own_slice hown2; subst hv2; have HT6 : Hid (Turn (fun k => k = b) w w6) := HS5.out.turnG hg2; have HQ6 : Hid (QE w6 b B4 tx tx.size p c) := HQ5.out.grown40 HS5.out.own hbw hg2; clear hown2 hg2 hat2)
              refine ⟨.inr ⟨p, c, B4, _, _, _, HG.out, HQ6.out, rfl, HT6.out⟩, ?_⟩
              obtain ⟨hc, q, vo, vt, op1, o1, hq, he, -⟩ := HQ6.out
              rw [hq.left, HLEFT.out, if_neg (by rw [he]; exact hc)]
              omega
            | inl q_ =>
              obtain ⟨x, s6⟩ := q_
              rw [hf] at hp
              obtain ⟨⟨ka, kcap, kxs, kRf, rfl, hx6, hkown, hkfo, hkrf⟩, hqs6⟩ := hp
              rw [List.dropLast_concat] at hqs6
              have HG : Hid (sibP tx.data.toList (d + 1) s = sibF tx.data.toList (elemP tx.data.toList (sibP tx.data.toList d)) k s6 (acc ++ [elT n a x])) := by show _ = _; rw [HGK.out, hf]
              obtain ⟨hfar, hstep⟩ := HKI.out x s6 hf
              have HST : Hid (Step tx s' s6) := hstep
              have hat6 := hstep.ok.at_
              have HS5 : Hid (FoSt w b d (.slice va acc.length vcap) (w4.setCell ⟨g, 4, none⟩ (.slice ka x.length kcap)) acc xs Rf) := HS4.out.set (by omega) HVG.out.1 HVG.out.2 4 _
              have HQ5 : Hid (QS (w4.setCell ⟨g, 4, none⟩ (.slice ka x.length kcap)) b w4.heap.size tx s6 op []) := by
                obtain ⟨hop6, vo, vt, hq⟩ := hqs6
                exact ⟨hop6, vo, vt, hq.setOther HG4.out (by decide) (by decide) hbg 4 _⟩
              have HG5 : Hid ((w4.setCell ⟨g, 4, none⟩ (.slice ka x.length kcap)).heap[g]? = some (.cells (elC (ba n) (.slice la a.length lcap) (.slice ka x.length kcap)) 34 (0, 0))) := by show _ = _; simp [World.setCell, Array.getElem?_modify, HG4.out, elC]
              have hblk : ∀ k, k ≠ g → (w4.setCell ⟨g, 4, none⟩ (.slice ka x.length kcap)).heap[k]? = w4.heap[k]? := fun k hk => Below.heap_setCell _ _ _ _ hk
              have hsz5 : (w4.setCell ⟨g, 4, none⟩ (.slice ka x.length kcap)).heap.size = w4.heap.size := by simp [World.setCell]
              have hown3 := HO3.out
              have HTR : Hid (TreeS (w4.setCell ⟨g, 4, none⟩ (.slice ka x.length kcap)) (d + 1) (fun k => wr.heap.size ≤ k ∧ k < w4.heap.size) #[.int .i64 1, .string (ba n), .slice la a.length lcap, .string ⟨#[]⟩, .slice ka x.length kcap] (elT n a x)) := by
                refine treeS_el (Rf := kRf) (xs := kxs) hL hx6 ?_ ?_ (hkfo.to (fun k hk => hblk k (by have := (hkrf k hk).1; omega)) (fun _ h => h)) ?_ ?_ ?_
                · exact own_base (own_of_block hown3 (fun k hk => (hblk k (by have := (HOB.out k hk).2; omega)).trans (ht4.block k (by have := (HOB.out k hk).2; omega) (by have := (HOB.out k hk).1; have := HLO.out.2.2; omega)))) (fun k _ => Nat.zero_le _)
                · exact own_base (own_of_block hkown (fun k hk => hblk k (by have := (own_block_lt hkown k hk).1; omega))) (fun k _ => Nat.zero_le _)
                · intro k hk
                  have := hkrf k hk
                  exact ⟨by omega, this.2.1⟩
                · intro k hk
                  have h1 := HOB.out k hk
                  exact ⟨⟨h1.1, by omega⟩, fun hr => by have := (hkrf k hr).1; omega⟩
                · intro k hk
                  have h1 := own_block_lt hkown k hk
                  exact ⟨⟨by omega, h1.2⟩, fun hr => (hkrf k hr).2.2 hk, fun e => by have := (HOB.out k e).2; omega⟩
              have HR5 : Hid (∀ k, (wr.heap.size ≤ k ∧ k < w4.heap.size) → w.heap.size ≤ k ∧ k < (w4.setCell ⟨g, 4, none⟩ (.slice ka x.length kcap)).heap.size ∧ (Value.slice va acc.length vcap).ownBlock ≠ some k ∧ ¬ Rf k) := fun k hk => by
                obtain ⟨l1, l2, l3⟩ := HLO.out
                exact ⟨by omega, by rw [hsz5]; exact hk.2, fun e => by have := l1 k e; omega, fun e => by have := l2 k e; omega⟩
              have hgl4 : g < w4.heap.size := by omega
              clear hf hqs6 ht4 hkown hkfo hkrf hstep hblk hown3 hsz5
              go_upto_region 6 with fail
              have hs5 := HS5.out.turn.size
              clear d0 d1 d2 d3 d4 df HS4 HG4 HS3 HQ3 HO3 HG3
              generalize (w4.setCell ⟨g, 4, none⟩ (.slice ka x.length kcap)) = w5 at *
              obtain ⟨d0, d1, d2, d3, d4, df⟩ := cells5 HG5.out
              have tok1 : True := trivial
              go_wp2_with (at_builtin; have _t := tok1; refine wpList_app rfl _ _ rfl Tryz.underlying27 infoT rfl (by decide) w.heap.size (.slice va acc.length vcap) acc.length xs rfl (own_of_block HS5.out.own (fun k hk => Below.heap_alloc _ _ _ (own_block_lt HS5.out.own k hk).2)) (some ⟨w5.heap.size, 0, none⟩) 1 1 [.int .i64 1, .string (ba n), .slice la a.length lcap, .string ⟨#[]⟩, .slice ka x.length kcap] rfl rfl (by have := news_new w5 #[.int .i64 1, .string (ba n), .slice la a.length lcap, .string ⟨#[]⟩, .slice ka x.length kcap] 34; simpa using this) (tree_one _ _ _ _ _ _ _ _ _) (by unfold maxLen; omega) (by omega) (by simp; omega) ?_; intro v2 w6 hown2 hg2 _ hat2; clear tok1 _t; obtain ⟨va2, vcap2, hv2⟩ := own_slice hown2; subst hv2; have HS6 : Hid (FoSt w b d (.slice va2 (acc.length + 1) vcap2) w6 (acc ++ [elT n a x]) _ _) := HS5.out.app HTR.out HR5.out hown2 hg2 hat2; have HQ6 : Hid (QS w6 b w4.heap.size tx s6 op []) := HQ5.out.grown40 HS5.out.own hbw hg2; clear hown2 hg2 hat2)
              refine ⟨.inl ⟨acc ++ [elT n a x], s6, k, _, _, _, ?_, by omega, HS6.out, HQ6.out, HST.out.ok, HST.out.op.trans HOS.out, HG.out⟩, ?_⟩
              · rw [List.length_append, List.length_singleton]; omega
              · obtain ⟨-, _, _, hq2⟩ := HQ6.out
                rw [hq2.left, HLEFT.out]
                simp only [okQ, if_true]
                omega
    · have HG : Hid (forQ tx.data.toList (d + 1) op s = .inr (p, c)) := hg
      have HT : Hid (Turn (fun k => k = b) w wr) := htn
      have hnx := qNext_err wr b B1 tx p c hqe k1
      clear hg hqe htn hrel
      go_wp2_with fail
      refine hnx.mono ?_
      rintro e w1 ⟨rfl, hqe, ht1⟩
      have HT1 : Hid (Turn (fun k => k = b) w w1) := HT.out.trans ht1
      have HQ1 : Hid (QE w1 b B1 tx tx.size p c) := hqe
      clear hnx ht1 hqe
      unfold evNo evV
      go_wp2
      go_ret
      exact FoPost.no HG.out (HT1.out.alloc _) (HQ1.out.allocs _)

theorem for_all : ∀ d : Nat, ForAll d
  | 0 => for_zero
  | d + 1 => for_succ d (for_all d)

end Go.Proofs.YtmifejkddgcbmabGreat
