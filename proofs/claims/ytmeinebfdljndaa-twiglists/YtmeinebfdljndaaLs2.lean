/- Lists' own function, walked. -/
import Derived.Test.YtmeinebfdljndaaLs1
import Derived.Deep.RegionHeld3
namespace Go.Proofs.Ytmeinebfdljndaa
open Go.RowKit Go.Shelf
set_option linter.unusedVariables false

set_option maxRecDepth 100000 in
set_option maxHeartbeats 1600000 in
theorem ls1_any {B cb gb lb pb nb clb : Nat} {N : List Pl} {C : List ByteArray} {pan : Int} {na : Option Addr} {nc : Nat} {ca : Option Addr} {cc : Nat} {ab lbx psb nmb : Nat} {aa : Option Addr} {ac : Nat} {pa : Option Addr} {pc : Nat} {P : List Plc} (w : World) (hBw : w.heap.size ≤ B) (hPn : P.length ≤ 16) (hN : N.length ≤ 4096) (hC : C.length = N.length)
    (h : LsS B cb gb lb pb nb clb N C pan na nc ca cc ab lbx psb nmb P.length aa ac pa pc P #[.pointer (some ⟨cb, 0, none⟩), .pointer (some ⟨pb, 0, none⟩), .pointer (some ⟨gb, 0, none⟩), .pointer (some ⟨nb, 0, none⟩), .pointer (some ⟨clb, 0, none⟩)] 0 w) (Q : Ending → World → Prop)
    (hq1 : ∀ (k : Nat) v w', (k : Int) + 1 = pan → k < N.length → NmI B cb gb lb pb nb clb N C pan na nc ca cc (k + 1) w' → Tn (fun b => b = cb ∨ b = gb ∨ b = lb) w w' → Q (.panicked [{ v := v, recovered := false }]) w')
    (hq2 : ∀ v w', (∀ k : Nat, k < N.length → (k : Int) + 1 ≠ pan) → LsS B cb gb lb pb nb clb N C pan na nc ca cc ab lbx psb nmb P.length aa ac pa pc P #[.pointer (some ⟨cb, 0, none⟩), .pointer (some ⟨pb, 0, none⟩), .pointer (some ⟨gb, 0, none⟩), .pointer (some ⟨nb, 0, none⟩), .pointer (some ⟨clb, 0, none⟩)] N.length w' → Tn (fun b => b = cb ∨ b = gb ∨ b = lb) w w' → Q (.returned v) w') :
    Calls Try.prog 25 #[.pointer (some ⟨ab, 0, none⟩), .pointer (some ⟨lbx, 0, none⟩), .pointer (some ⟨psb, 0, none⟩), .pointer (some ⟨nmb, 0, none⟩)] w Q := by
  obtain ⟨ptrs, hptr⟩ : ∃ ptrs : Array Value, #[.pointer (some ⟨cb, 0, none⟩), .pointer (some ⟨pb, 0, none⟩), .pointer (some ⟨gb, 0, none⟩), .pointer (some ⟨nb, 0, none⟩), .pointer (some ⟨clb, 0, none⟩)] = ptrs := ⟨_, rfl⟩
  have eg : ∀ args w, (callFunc 8 args).run Try.prog w = .ok (.enter 8 args) w := enters_of Try.func8 (by kernel_rfl) rfl
  have H0 : Hid (LsS B cb gb lb pb nb clb N C pan na nc ca cc ab lbx psb nmb P.length aa ac pa pc P #[.pointer (some ⟨cb, 0, none⟩), .pointer (some ⟨pb, 0, none⟩), .pointer (some ⟨gb, 0, none⟩), .pointer (some ⟨nb, 0, none⟩), .pointer (some ⟨clb, 0, none⟩)] 0 w) := h
  have HQ1 : Hid _ := hq1
  have HQ2 : Hid _ := hq2
  have a0 : w.cell? ⟨ab, 0, none⟩ = some (.slice aa N.length ac) := h.e.a.1.cell 0
  have al := h.e.a.1.lt
  have hcn := h.m.e.ne
  have hsz := h.e.size
  clear hq1 hq2 h hptr ptrs
  go_enter Try.func25, Try.ntmps25
  go_wp2
  go_loopw [8] (fun u wr => ∃ k : Nat, k ≤ N.length ∧ u = .int .i64 (k : Int) ∧ Hid (∀ j, j < k → (j : Int) + 1 ≠ pan) ∧ Hid (LsS B cb gb lb pb nb clb N C pan na nc ca cc ab lbx psb nmb P.length aa ac pa pc P #[.pointer (some ⟨cb, 0, none⟩), .pointer (some ⟨pb, 0, none⟩), .pointer (some ⟨gb, 0, none⟩), .pointer (some ⟨nb, 0, none⟩), .pointer (some ⟨clb, 0, none⟩)] k wr ∧ Tn (fun b => b = cb ∨ b = gb ∨ b = lb) w wr)) (fun u _ => N.length - (intOf u).toNat)
  case atStart => exact ⟨0, by omega, rfl, fun j hj => by omega, H0.out, Tn.refl _ _⟩
  case round =>
    clear H0 a0 al
    obtain ⟨k, hk, rfl, HJ, HS⟩ := hrel
    by_cases hlt : k < N.length
    · obtain ⟨x, hx⟩ : ∃ x, N[k]? = some x := ⟨_, List.getElem?_eq_getElem hlt⟩
      obtain ⟨c, hc⟩ : ∃ c, C[k]? = some c := ⟨_, List.getElem?_eq_getElem (by omega)⟩
      obtain ⟨b, o, rfl, gb1, q0, q1, q2, q3⟩ := HS.out.1.e.A k x hx
      have hbw : b < wr.heap.size := by have := HS.out.1.e.size; have := gb1.1; omega
      have hlt9 : (k : Int) < (N.length : Int) := by omega
      obtain ⟨W1, hW1⟩ : ∃ W1, W1 = wr.alloc (.cells #[.int .u64 x.n, .int .u64 x.s.b, .int .u64 x.s.e, .int .i64 x.s.l] 38) := ⟨_, rfl⟩
      have t1 : Tn (fun _ => False) wr W1.drew := by rw [hW1]; exact ((Tn.refl _ _).alloc _).drew
      have iG : IsCells W1.drew wr.heap.size #[.int .u64 x.n, .int .u64 x.s.b, .int .u64 x.s.e, .int .i64 x.s.l] := by rw [hW1]; exact isCells_new _ _ _
      have HW1 : Hid (W1 = wr.alloc (.cells #[.int .u64 x.n, .int .u64 x.s.b, .int .u64 x.s.e, .int .i64 x.s.l] 38)) := hW1
      have S1 := HS.out.1.new t1
      have HT1 : Hid (Tn (fun b => b = cb ∨ b = gb ∨ b = lb) w W1.drew) := HS.out.2.trans (t1.mono (fun _ _ h => h.elim)) (fun _ _ h => h)
      have y0 : W1.cell? ⟨lbx, 0, none⟩ = some (.slice (some ⟨lb, 0, none⟩) P.length P.length) := S1.e.l.1.cell 0
      have y1 : W1.cell? ⟨psb, 0, none⟩ = some (.slice pa P.length pc) := S1.e.p.1.cell 0
      have y2 : W1.cell? ⟨nmb, 0, none⟩ = some (.func (.func 8) #[] #[.pointer (some ⟨cb, 0, none⟩), .pointer (some ⟨pb, 0, none⟩), .pointer (some ⟨gb, 0, none⟩), .pointer (some ⟨nb, 0, none⟩), .pointer (some ⟨clb, 0, none⟩)]) := S1.e.f.1.cell 0
      have z0 : W1.cell? ⟨wr.heap.size, 0, none⟩ = some (.int .u64 x.n) := iG.cell 0
      have z1 : W1.cell? ⟨wr.heap.size, 1, none⟩ = some (.int .u64 x.s.b) := iG.cell 1
      have z2 : W1.cell? ⟨wr.heap.size, 2, none⟩ = some (.int .u64 x.s.e) := iG.cell 2
      have z3 : W1.cell? ⟨wr.heap.size, 3, none⟩ = some (.int .i64 x.s.l) := iG.cell 3
      have yl0 : lbx < W1.heap.size := S1.e.l.1.lt
      have yl1 : psb < W1.heap.size := S1.e.p.1.lt
      have yl2 : nmb < W1.heap.size := S1.e.f.1.lt
      have zl : wr.heap.size < W1.heap.size := iG.lt
      have hBwr : B ≤ wr.heap.size := HS.out.1.e.size
      by_cases hp : (k : Int) + 1 = pan
      · have hask := ask_panics W1.drew S1.m x.n (by omega) hp
        have HPN : Hid (∀ v w', NmI B cb gb lb pb nb clb N C pan na nc ca cc (k + 1) w' → Tn (fun b => b = cb ∨ b = gb) W1.drew w' → Q (.panicked [{ v := v, recovered := false }]) w') := fun v w' h1 h2 => HQ1.out k v w' hp hlt h1 (HT1.out.trans (h2.mono (fun b _ h => h.elim .inl (fun h => .inr (.inl h)))) (fun _ _ h => h))
        clear HQ1 HQ2 HJ HS S1 hW1 t1 iG HT1 hx hc
        go_wp2_with fail
        rw [← HW1.out]
        obtain ⟨xn, x1, x2, x3⟩ := x
        simp only at *
        refine wp_region_held_drew (S := fun W => W.cell? ⟨lbx, 0, none⟩ = some (.slice (some ⟨lb, 0, none⟩) P.length P.length) ∧ W.cell? ⟨psb, 0, none⟩ = some (.slice pa P.length pc) ∧ W.cell? ⟨nmb, 0, none⟩ = some (.func (.func 8) #[] #[.pointer (some ⟨cb, 0, none⟩), .pointer (some ⟨pb, 0, none⟩), .pointer (some ⟨gb, 0, none⟩), .pointer (some ⟨nb, 0, none⟩), .pointer (some ⟨clb, 0, none⟩)]) ∧ W.cell? ⟨wr.heap.size, 0, none⟩ = some (.int .u64 xn) ∧ W.cell? ⟨wr.heap.size, 1, none⟩ = some (.int .u64 x1) ∧ W.cell? ⟨wr.heap.size, 2, none⟩ = some (.int .u64 x2) ∧ W.cell? ⟨wr.heap.size, 3, none⟩ = some (.int .i64 x3)) (by kernel_rfl) ⟨y0, y1, y2, z0, z1, z2, z3⟩ (fun hHeld => ?_)
        refine wpAnyH_take (i := 0) (v := (.slice (some ⟨lb, 0, none⟩) P.length P.length)) rfl (by kernel_rfl) (by kernel_rfl) (by kernel_rfl) (fun _ _ _ h => h) (Or.inl ⟨by rfl, ?_⟩) hHeld ?_
        · intro W hSw
          obtain ⟨t0, t1, t2, t3, t4, t5, t6⟩ := hSw
          go_simp
        simp only [Act.put]
        refine wpAnyH_take (i := 1) (v := (.slice pa P.length pc)) rfl (by kernel_rfl) (by kernel_rfl) (by kernel_rfl) (fun _ _ _ h => h) (Or.inl ⟨by rfl, ?_⟩) hHeld ?_
        · intro W hSw
          obtain ⟨t0, t1, t2, t3, t4, t5, t6⟩ := hSw
          go_simp
        simp only [Act.put]
        refine wpAnyH_take (i := 2) (v := (.agg #[.int .u64 xn, .int .u64 x1, .int .u64 x2, .int .i64 x3])) rfl (by kernel_rfl) (by kernel_rfl) (by kernel_rfl) (fun _ _ _ h => h) (Or.inl ⟨by rfl, ?_⟩) hHeld ?_
        · intro W hSw
          obtain ⟨t0, t1, t2, t3, t4, t5, t6⟩ := hSw
          go_simp
        simp only [Act.put]
        refine wpAnyH_take (i := 3) (v := (.func (.func 8) #[] #[.pointer (some ⟨cb, 0, none⟩), .pointer (some ⟨pb, 0, none⟩), .pointer (some ⟨gb, 0, none⟩), .pointer (some ⟨nb, 0, none⟩), .pointer (some ⟨clb, 0, none⟩)])) rfl (by kernel_rfl) (by kernel_rfl) (by kernel_rfl) (fun _ _ _ h => h) (Or.inl ⟨by rfl, ?_⟩) hHeld ?_
        · intro W hSw
          obtain ⟨t0, t1, t2, t3, t4, t5, t6⟩ := hSw
          go_simp
        simp only [Act.put]
        refine wpAnyH_take (i := 4) (v := (.pointer (some ⟨wr.heap.size, 0, none⟩))) rfl (by kernel_rfl) (by kernel_rfl) (by kernel_rfl) (fun _ _ _ h => h) (Or.inl ⟨by rfl, ?_⟩) hHeld ?_
        · intro W hSw
          obtain ⟨t0, t1, t2, t3, t4, t5, t6⟩ := hSw
          go_simp
        simp only [Act.put]
        refine wpAnyH_take (i := 5) (v := (.int .u64 xn)) rfl (by kernel_rfl) (by kernel_rfl) (by kernel_rfl) (fun _ _ _ h => h) (Or.inl ⟨by rfl, ?_⟩) hHeld ?_
        · intro W hSw
          obtain ⟨t0, t1, t2, t3, t4, t5, t6⟩ := hSw
          go_simp
        simp only [Act.put]
        refine wpAnyH_ready (rs := [6]) (by kernel_rfl) (by simp) ?_
        refine AllReadyH.cons rfl (fun K hK => ?_) AllReadyH.nil
        go_simp
        refine hask.mono ?_
        rintro e X ⟨⟨v, rfl⟩, h1, h2⟩
        exact ⟨rfl, HPN.out v X h1 h2⟩
      · have hask := ask_ok W1.drew S1.m hx hc hN hC hp
        have HOK : Hid (∀ X, NmI B cb gb lb pb nb clb N C pan na nc ca cc (k + 1) X → Tn (fun b => b = cb ∨ b = gb) W1.drew X → (X.cell? ⟨lbx, 0, none⟩ = some (.slice (some ⟨lb, 0, none⟩) P.length P.length) ∧ X.cell? ⟨psb, 0, none⟩ = some (.slice pa P.length pc) ∧ X.cell? ⟨nmb, 0, none⟩ = some (.func (.func 8) #[] #[.pointer (some ⟨cb, 0, none⟩), .pointer (some ⟨pb, 0, none⟩), .pointer (some ⟨gb, 0, none⟩), .pointer (some ⟨nb, 0, none⟩), .pointer (some ⟨clb, 0, none⟩)]) ∧ X.cell? ⟨wr.heap.size, 0, none⟩ = some (.int .u64 x.n) ∧ X.cell? ⟨wr.heap.size, 1, none⟩ = some (.int .u64 x.s.b) ∧ X.cell? ⟨wr.heap.size, 2, none⟩ = some (.int .u64 x.s.e) ∧ X.cell? ⟨wr.heap.size, 3, none⟩ = some (.int .i64 x.s.l)) ∧
            Calls Try.prog 26 #[.slice (some ⟨lb, 0, none⟩) P.length P.length, .slice pa P.length pc, .agg #[.int .u64 x.n, .int .u64 x.s.b, .int .u64 x.s.e, .int .i64 x.s.l], .string c] X fun e Y => (∃ v, e = .returned v) ∧ Hid (LsS B cb gb lb pb nb clb N C pan na nc ca cc ab lbx psb nmb P.length (some ⟨b, o, none⟩) ac pa pc P #[.pointer (some ⟨cb, 0, none⟩), .pointer (some ⟨pb, 0, none⟩), .pointer (some ⟨gb, 0, none⟩), .pointer (some ⟨nb, 0, none⟩), .pointer (some ⟨clb, 0, none⟩)] (k + 1) Y ∧ Tn (fun b => b = cb ∨ b = gb ∨ b = lb) w Y) ∧ X.heap.size ≤ Y.heap.size ∧ (Y.cell? ⟨lbx, 0, none⟩ = some (.slice (some ⟨lb, 0, none⟩) P.length P.length) ∧ Y.cell? ⟨psb, 0, none⟩ = some (.slice pa P.length pc) ∧ Y.cell? ⟨nmb, 0, none⟩ = some (.func (.func 8) #[] #[.pointer (some ⟨cb, 0, none⟩), .pointer (some ⟨pb, 0, none⟩), .pointer (some ⟨gb, 0, none⟩), .pointer (some ⟨nb, 0, none⟩), .pointer (some ⟨clb, 0, none⟩)]) ∧ Y.cell? ⟨wr.heap.size, 0, none⟩ = some (.int .u64 x.n) ∧ Y.cell? ⟨wr.heap.size, 1, none⟩ = some (.int .u64 x.s.b) ∧ Y.cell? ⟨wr.heap.size, 2, none⟩ = some (.int .u64 x.s.e) ∧ Y.cell? ⟨wr.heap.size, 3, none⟩ = some (.int .i64 x.s.l))) := by
          intro X h1 h2
          obtain ⟨sl, hs⟩ := HS.out.1.s
          have hd := HS.out.1.d
          obtain ⟨e1, -⟩ := S1.asked h2
          have e2 : Shv lb B P.length (flR P N C k) sl X := (hs.tn t1 (fun _ h => h.elim)).tn h2 (fun b hb => by omega)
          have iX : IsCells X wr.heap.size #[.int .u64 x.n, .int .u64 x.s.b, .int .u64 x.s.e, .int .i64 x.s.l] := iG.tn h2 (by omega)
          have hlb : lb < B := hs.low
          refine ⟨⟨e1.l.1.cell 0, e1.p.1.cell 0, e1.f.1.cell 0, iX.cell 0, iX.cell 1, iX.cell 2, iX.cell 3⟩, ?_⟩
          refine (shelve_any X e2 P rfl hPn (fun i => Nat.le_trans (flR_len P N C k i) (by omega)) wr.heap.size ⟨iX.lt, by omega, fun i hi e => by have := (own_block_lt (hs.own i hi) _ e).2; omega⟩ e1.P.1 (fun g hg => ⟨(e1.P.2 g hg).1, (e1.P.2 g hg).2.2.2⟩) x c).mono ?_
          rintro e Y ⟨hv, ⟨sl2, h3, h4⟩, h5⟩
          rw [flR_step hx hc] at h3
          have hS := LsS.shelved h1 e1 S1.d h3 h4
          have iY := iX.of_block h5
          refine ⟨hv, ⟨hS, ?_⟩, h4.size, hS.e.l.1.cell 0, hS.e.p.1.cell 0, hS.e.f.1.cell 0, iY.cell 0, iY.cell 1, iY.cell 2, iY.cell 3⟩
          refine (HT1.out.trans (h2.mono (fun b _ h => h.elim .inl (fun h => .inr (.inl h)))) (fun _ _ h => h)).trans h4 (fun i hi h => ?_)
          rcases h with h | h
          · exact .inr (.inr h)
          · omega
        have HJ2 : Hid (∀ j, j < k + 1 → (j : Int) + 1 ≠ pan) := by
          intro j hj
          rcases Nat.lt_or_ge j k with h1 | h1
          · exact HJ.out j h1
          · have : j = k := by omega
            subst this
            exact hp
        clear HQ1 HQ2 HJ HS S1 hW1 t1 iG HT1 hx hc
        go_wp2_with fail
        rw [← HW1.out]
        obtain ⟨xn, x1, x2, x3⟩ := x
        simp only at *
        go_region_held3 (fun W => W.cell? ⟨lbx, 0, none⟩ = some (.slice (some ⟨lb, 0, none⟩) P.length P.length) ∧ W.cell? ⟨psb, 0, none⟩ = some (.slice pa P.length pc) ∧ W.cell? ⟨nmb, 0, none⟩ = some (.func (.func 8) #[] #[.pointer (some ⟨cb, 0, none⟩), .pointer (some ⟨pb, 0, none⟩), .pointer (some ⟨gb, 0, none⟩), .pointer (some ⟨nb, 0, none⟩), .pointer (some ⟨clb, 0, none⟩)]) ∧ W.cell? ⟨wr.heap.size, 0, none⟩ = some (.int .u64 xn) ∧ W.cell? ⟨wr.heap.size, 1, none⟩ = some (.int .u64 x1) ∧ W.cell? ⟨wr.heap.size, 2, none⟩ = some (.int .u64 x2) ∧ W.cell? ⟨wr.heap.size, 3, none⟩ = some (.int .i64 x3)) (go_keep) (first | (go_at_call 8; (refine hask.mono ?_); rintro e X ⟨rfl, h1, h2⟩; obtain ⟨⟨s0, s1, s2, s3, s4, s5, s6⟩, hsh⟩ := HOK.out X h1 h2; have sl2 : W1.heap.size ≤ X.heap.size := h2.size; clear h1 h2 HOK) | (go_at_call 26; (with_reducible refine hsh.mono ?_); rintro e Y ⟨⟨vv, rfl⟩, HY, sl3, r0, r1, r2, r3, r4, r5, r6⟩; clear hsh))
        all_goals (
          go_wp2
          go_roundw
          case rel => exact ⟨k + 1, by omega, by go_num, HJ2, HY⟩
          case measure => simp [intOf]; omega)
    · have hkn : k = N.length := by omega
      subst hkn
      have HE := HQ2.out (.tuple #[]) wr (fun j hj => HJ.out j hj) HS.out.1 HS.out.2
      clear HQ1 HQ2 HJ HS
      go_wp2
      refine bodyPost_end (results_none rfl _ _ _) rfl ?_
      exact HE

end Go.Proofs.Ytmeinebfdljndaa
