/- nest: whether no two of both lists cross: what comes is held against what is open. -/
import Derived.Test.YtmeinebfdljndaaRw
import Derived.Deep.DeepCutAuto
namespace Go.Proofs.Ytmeinebfdljndaa
open Go.RowKit
set_option linter.unusedVariables false
attribute [local go_sem] Bel.cell Bel.fz

/-- The same in all three numbers. -/
def eqSp (x1 x2 x3 s1 s2 s3 : Int) : Bool := decide (x1 = s1 ∧ x2 = s2 ∧ x3 = s3)
set_option maxRecDepth 100000 in
theorem neq_sp (w : World) (x1 x2 x3 s1 s2 s3 : Int) : (binOp .neq 36 (.agg #[.int .u64 x1, .int .u64 x2, .int .i64 x3]) (.agg #[.int .u64 s1, .int .u64 s2, .int .i64 s3])).run Try.prog w = .ok (.bool (!(eqSp x1 x2 x3 s1 s2 s3))) w := by
  unfold eqSp
  simp [go_sem]
  by_cases h1 : x1 = s1
  · by_cases h2 : x2 = s2
    · by_cases h3 : x3 = s3
      · simp [h1, h2, h3]
      · simp [h1, h2, h3]
    · simp [h1, h2]
  · simp [h1]
attribute [local go_sem high] neq_sp

/-- From a world of the class on. -/
theorem wp_region_belOf {P : Program} {id : Nat} {Q : Exit → Act → World → Prop} {a : Act} {w : World} {l : List Oper} (u : Bel w) (hm : P.follows .mixedOrders = true) (hB : Region.lexB .any l.toArray = true)
    (h : Nonempty (Bel w) → wpQuiet P l.toArray (fun w' => ∃ u : Bel w, w' = u.w) (fun a' => ∀ w', (∃ u : Bel w, w' = u.w) → Q .normal a' w') l a) : (Code.region id l.toArray true).wp P Q a u.w :=
  wp_region_quiet (C := fun w' => ∃ u : Bel w, w' = u.w) hm hB ⟨⟨u.w.drew, u.h.drew⟩, rfl⟩ (by simpa using h ⟨⟨w, Below.refl _ _⟩⟩)

/-- What is open, and whether all is fine: two boxes and a row. -/
def NsS (Bx ob fb : Nat) (z : List Sp × Bool) (C : Nat → Prop) (w : World) : Prop :=
  ∃ a cap, C = (fun b => b = ob ∨ b = fb ∨ (Value.slice a z.1.length cap).ownBlock = some b) ∧ IsCells w ob #[.slice a z.1.length cap] ∧ IsCells w fb #[.bool z.2] ∧ w.ownsRow Bx 36 3 (.slice a z.1.length cap) z.1.length (spCells z.1) ∧ ob < Bx ∧ fb < Bx ∧ ob ≠ fb ∧ Bx ≤ w.heap.size
theorem NsS.lt {Bx ob fb : Nat} {z : List Sp × Bool} {C : Nat → Prop} {w : World} (h : NsS Bx ob fb z C w) : ∀ b, C b → (b = ob ∨ b = fb ∨ Bx ≤ b) ∧ b < w.heap.size := by
  obtain ⟨a, cap, rfl, h1, h2, h3, -⟩ := h
  rintro b (rfl | rfl | hb)
  · exact ⟨.inl rfl, h1.lt⟩
  · exact ⟨.inr (.inl rfl), h2.lt⟩
  · exact ⟨.inr (.inr (own_block_lt h3 b hb).1), (own_block_lt h3 b hb).2⟩
theorem NsS.tn {A : Nat → Prop} {Bx ob fb : Nat} {z : List Sp × Bool} {C : Nat → Prop} {w w' : World} (h : NsS Bx ob fb z C w) (t : Tn A w w') (hA : ∀ b, C b → ¬ A b) : NsS Bx ob fb z C w' := by
  obtain ⟨a, cap, rfl, h1, h2, h3, h4, h5, h6, h7⟩ := h
  exact ⟨a, cap, rfl, h1.tn t (hA _ (.inl rfl)), h2.tn t (hA _ (.inr (.inl rfl))), own_tn h3 t (fun k hk => hA k (.inr (.inr hk))), h4, h5, h6, Nat.le_trans h7 t.size⟩
/-- Where come is: so many of what was open are left. -/
def CoS (W W1 : World) (Bx ob fb : Nat) (st : List Sp) (fine : Bool) (a : Option Addr) (cap m : Nat) (w : World) : Prop :=
  Tn (fun b => b = ob) W1 w ∧ IsCells w ob #[.slice a m cap] ∧ IsCells w fb #[.bool fine] ∧ w.ownsRow Bx 36 3 (.slice a st.length cap) st.length (spCells st) ∧ m ≤ st.length
theorem CoS.bel {W W1 : World} {Bx ob fb : Nat} {st : List Sp} {fine : Bool} {a : Option Addr} {cap m : Nat} {w : World} (h : CoS W W1 Bx ob fb st fine a cap m w) (u : Bel w) : CoS W W1 Bx ob fb st fine a cap m u.w := by
  obtain ⟨h1, h2, h3, h4, h5⟩ := h
  exact ⟨h1.trans (Tn.bel u) (fun _ _ h => h.elim), h2.tn (Tn.bel u) id, h3.tn (Tn.bel u) id, own_tn h4 (Tn.bel u) (fun _ _ => id), h5⟩
theorem CoS.pop {W W1 : World} {Bx ob fb : Nat} {st : List Sp} {fine : Bool} {a : Option Addr} {cap m k : Nat} {w : World} (h : CoS W W1 Bx ob fb st fine a cap m w) (hk : k ≤ m) (hf : ob ≠ fb) (hb : ob < Bx) : CoS W W1 Bx ob fb st fine a cap k (w.setCell ⟨ob, 0, none⟩ (.slice a k cap)) := by
  obtain ⟨h1, h2, h3, h4, h5⟩ := h
  have t := Tn.one w ob 0 (.slice a k cap)
  exact ⟨h1.trans t (fun _ _ h => h), h2.set1, h3.tn t (fun e => hf e.symm), own_tn h4 t (fun j hj e => by have := (own_block_lt h4 j hj).1; omega), by omega⟩

/-- It is put behind them. -/
theorem come_end {W W1 : World} {Bx ob fb : Nat} {st : List Sp} {fine fine' : Bool} {a va : Option Addr} {cap vc m : Nat} {s : Sp} {w0 w2 w3 : World} (h : CoS W W1 Bx ob fb st fine a cap m w0) (h0 : Tn (fun _ => False) W W1) (hH : W.ownsRow Bx 36 3 (.slice a st.length cap) st.length (spCells st) ∧ ob < W.heap.size ∧ fb < W.heap.size) (hp : pop s.b st = st.take m) (hf : fine' = (fine && lastFits (st.take m) s))
    (h4 : ob < Bx) (h5 : fb < Bx) (h6 : ob ≠ fb) (h7 : Bx ≤ W.heap.size)
    (t2 : Tn (fun b => b = fb) w0 w2) (hfb : IsCells w2 fb #[.bool fine']) (ho : w3.ownsRow Bx 36 3 (.slice va (m + 1) vc) (m + 1) (spCells (st.take m) ++ spCells [s])) (hg : (w2.alloc (.cells (sv s) 36)).grownBy w3 (Value.slice a m cap).ownBlock) (hat : (Value.slice va (m + 1) vc).ownBlock = (Value.slice a m cap).ownBlock ∨ (Value.slice va (m + 1) vc).ownBlock = some (w2.alloc (.cells (sv s) 36)).heap.size) :
    ∃ C', Tn (fun b => b = ob ∨ b = fb ∨ (Value.slice a st.length cap).ownBlock = some b) W (w3.setCell ⟨ob, 0, none⟩ (.slice va (m + 1) vc)) ∧ (∀ b, C' b → (b = ob ∨ b = fb ∨ (Value.slice a st.length cap).ownBlock = some b) ∨ W.heap.size ≤ b) ∧ NsS Bx ob fb (come (st, fine) s) C' (w3.setCell ⟨ob, 0, none⟩ (.slice va (m + 1) vc)) := by
  obtain ⟨c1, c2, c3, c4, c5⟩ := h
  have hab : (Value.slice a m cap).ownBlock = (Value.slice a st.length cap).ownBlock := by cases a <;> rfl
  have e : come (st, fine) s = (st.take m ++ [s], fine') := by simp [come, hp, hf]
  have hlen : (st.take m ++ [s]).length = m + 1 := by simp; omega
  have hz : W.heap.size ≤ W1.heap.size := h0.size
  have hz1 := c1.size
  have hz2 := t2.size
  have tg : Tn (fun b => (Value.slice a st.length cap).ownBlock = some b) (w2.alloc (.cells (sv s) 36)) w3 := ⟨hg.os, hg.tape, hg.output, hg.size, fun k hk hn => hg.block k hk (by rw [hab]; intro e; exact hn e.symm)⟩
  have tS := Tn.one w3 ob 0 (.slice va (m + 1) vc)
  have rowlt : ∀ k, (Value.slice a st.length cap).ownBlock = some k → Bx ≤ k ∧ k < W.heap.size := fun k hk => own_block_lt hH.1 k hk
  have tall : Tn (fun b => b = ob ∨ b = fb ∨ (Value.slice a st.length cap).ownBlock = some b) W (w3.setCell ⟨ob, 0, none⟩ (.slice va (m + 1) vc)) :=
    (((((h0.mono (fun _ _ h => h.elim)).trans c1 (fun _ _ h => .inl h)).trans t2 (fun _ _ h => .inr (.inl h))).alloc _).trans tg (fun _ _ h => .inr (.inr h))).trans tS (fun _ _ h => .inl h)
  have n1 : ∀ k, (Value.slice va (m + 1) vc).ownBlock = some k → k ≠ ob ∧ k ≠ fb := fun k hk => by have := (own_block_lt ho k hk).1; omega
  have i2 : IsCells w3 ob #[.slice a m cap] := (((c2.tn t2 h6).alloc _)).tn tg (fun hk => by have := (rowlt _ hk).1; omega)
  have i3 : IsCells w3 fb #[.bool fine'] := (hfb.alloc _).tn tg (fun hk => by have := (rowlt _ hk).1; omega)
  refine ⟨fun b => b = ob ∨ b = fb ∨ (Value.slice va (m + 1) vc).ownBlock = some b, tall, fun b hb => ?_, va, vc, ?_, ?_, ?_, ?_, h4, h5, h6, Nat.le_trans h7 tall.size⟩
  · rcases hb with hb | hb | hb
    · exact .inl (.inl hb)
    · exact .inl (.inr (.inl hb))
    · rcases hat with h | h
      · exact .inl (.inr (.inr (by rw [← hab, ← h]; exact hb)))
      · rw [h] at hb
        simp only [Option.some.injEq] at hb
        refine .inr ?_
        rw [← hb, World.size_alloc]
        omega
  · rw [e]
    simp only [hlen]
  · rw [e]
    simp only [hlen]
    exact i2.set1
  · rw [e]
    exact i3.tn tS (fun h => h6 h.symm)
  · rw [e]
    simp only [hlen, spCells_append]
    exact own_tn ho tS (fun k hk => (n1 k hk).1)

set_option maxRecDepth 100000 in
set_option maxHeartbeats 2000000 in
theorem come_any {Bx ob fb : Nat} {st : List Sp} {fine : Bool} {C : Nat → Prop} (w : World) (h : NsS Bx ob fb (st, fine) C w) (s : Sp) (hl : st.length ≤ 16384) :
    Calls Try.prog 121 #[.agg (sv s), .pointer (some ⟨ob, 0, none⟩), .pointer (some ⟨fb, 0, none⟩)] w fun e w' => (∃ v, e = .returned v) ∧ ∃ C', Tn C w w' ∧ (∀ b, C' b → C b ∨ w.heap.size ≤ b) ∧ NsS Bx ob fb (come (st, fine) s) C' w' := by
  obtain ⟨a, cap, rfl, h1, h2, h3, h4, h5, h6, h7⟩ := h
  simp only at h1 h2 h3
  obtain ⟨W1, hW1⟩ : ∃ W1, w.alloc (.cells (sv s) 36) = W1 := ⟨_, rfl⟩
  have HW1 : Hid (w.alloc (.cells (sv s) 36) = W1) := hW1
  have t1 : Tn (fun _ => False) w W1 := by rw [← hW1]; exact (Tn.refl _ _).alloc _
  have hsb : IsCells W1 w.heap.size (sv s) := by rw [← hW1]; exact isCells_new _ _ _
  have HT1 : Hid (Tn (fun _ => False) w W1 ∧ IsCells W1 w.heap.size (sv s)) := ⟨t1, hsb⟩
  have HC0 : Hid (CoS w W1 Bx ob fb st fine a cap st.length W1) := ⟨Tn.refl _ _, h1.tn t1 id, h2.tn t1 id, own_tn h3 t1 (fun _ _ => id), Nat.le_refl _⟩
  have HH : Hid (w.ownsRow Bx 36 3 (.slice a st.length cap) st.length (spCells st) ∧ ob < w.heap.size ∧ fb < w.heap.size) := ⟨h3, h1.lt, h2.lt⟩
  have hsl := hsb.lt
  have hob : ob < w.heap.size := h1.lt
  have hcap : st.length ≤ cap := (row_stk h3).2
  clear hW1 t1 hsb h1 h2 h3
  have hanc := fun W x => anc_any W x s
  have hprc := fun W x => prec_any W x s
  obtain ⟨s1, s2, s3⟩ := s
  unfold sv at HW1 hanc hprc ⊢
  simp only at *
  go_enter Try.func121, Try.ntmps121
  go_wp2
  rw [HW1.out]
  go_loopw [] (fun wr => ∃ m : Nat, m ≤ st.length ∧ Hid (pop s1 st = pop s1 (st.take m)) ∧ Hid (CoS w W1 Bx ob fb st fine a cap m wr)) (fun wr => match wr.cell? ⟨ob, 0, none⟩ with | some (.slice _ n _) => n | _ => 0)
  case atStart => exact ⟨st.length, Nat.le_refl _, by show _ = _; rw [List.take_length], HC0.out⟩
  case round =>
    obtain ⟨m, hm, HP, HS⟩ := hrel
    have c0 : wr.cell? ⟨ob, 0, none⟩ = some (.slice a m cap) := HS.out.2.1.cell 0
    have lob := HS.out.2.1.lt
    have xs : IsCells wr w.heap.size #[.int .u64 s1, .int .u64 s2, .int .i64 s3] := HT1.out.2.tn HS.out.1 (by omega)
    have b0 : wr.cell? ⟨w.heap.size, 0, none⟩ = some (.int .u64 s1) := xs.cell 0
    have b1 : wr.cell? ⟨w.heap.size, 1, none⟩ = some (.int .u64 s2) := xs.cell 1
    have b2 : wr.cell? ⟨w.heap.size, 2, none⟩ = some (.int .i64 s3) := xs.cell 2
    have lsb := xs.lt
    clear xs
    have fob : wr.frozen? ⟨ob, 0, none⟩ = false := HS.out.2.1.frozen 0
    cases m with
    | zero =>
      have hg0 : decide ((0 : Int) < 0) = false := by simp
      have HE : Hid (∀ (va : Option Addr) (vc : Nat) (wy : World), True → True) := fun _ _ _ _ => trivial
      go_wp2_with fail
      refine wp_region_bel (by kernel_rfl) (by kernel_rfl) ?_
      intro hne
      repeat go_big_quiet_step (fail)
      refine wpQuiet_nil ?_
      rintro _ ⟨u, rfl⟩
      go_wp2_with fail
      refine wp_region_belOf u (by kernel_rfl) (by kernel_rfl) ?_
      intro hne
      repeat go_big_quiet_step (fail)
      refine wpQuiet_nil ?_
      rintro _ ⟨v, rfl⟩
      have HSv : Hid (CoS w W1 Bx ob fb st fine a cap 0 v.w) := HS.out.bel v
      have HTB : Hid (Tn (fun b => b = fb) v.w v.w) := Tn.refl _ _
      have HPM : Hid (pop s1 st = st.take 0) := by show _ = _; rw [HP.out]; rfl
      have HFF : Hid (fine = (fine && lastFits (st.take 0) ⟨s1, s2, s3⟩)) := by show _ = _; simp [lastFits]
      have HFB : Hid (IsCells v.w fb #[.bool fine]) := HSv.out.2.2.1
      have tok : True := trivial
      have HOW : Hid ((v.w.alloc (.cells #[.int .u64 s1, .int .u64 s2, .int .i64 s3] 36)).ownsRow Bx 36 3 (.slice a 0 cap) 0 (spCells (st.take 0))) := by
        have hb := own_take (own_tn HSv.out.2.2.2.1 HTB.out (fun k hk e => by have := (own_block_lt HSv.out.2.2.2.1 k hk).1; omega)) (show 0 ≤ st.length by omega)
        rw [← spCells_take] at hb
        exact own_of_block hb (fun k hk => Below.heap_alloc _ _ _ (own_block_lt hb k hk).2)
      have HBX : Bx ≤ (v.w.alloc (.cells #[.int .u64 s1, .int .u64 s2, .int .i64 s3] 36)).heap.size := by
        have h1 := HT1.out.1.size
        have h2 := HSv.out.1.size
        have h3 := HTB.out.size
        simp
        omega
      have HFIN : Hid (∀ va vc w3, w3.ownsRow Bx 36 3 (.slice va (0 + 1) vc) (0 + 1) (spCells (st.take 0) ++ spCells [⟨s1, s2, s3⟩]) → (v.w.alloc (.cells #[.int .u64 s1, .int .u64 s2, .int .i64 s3] 36)).grownBy w3 (Value.slice a 0 cap).ownBlock → ((Value.slice va (0 + 1) vc).ownBlock = (Value.slice a 0 cap).ownBlock ∨ (Value.slice va (0 + 1) vc).ownBlock = some (v.w.alloc (.cells #[.int .u64 s1, .int .u64 s2, .int .i64 s3] 36)).heap.size) → IsCells w3 ob #[.slice a 0 cap] ∧ ∃ C', Tn (fun b => b = ob ∨ b = fb ∨ (Value.slice a st.length cap).ownBlock = some b) w (w3.setCell ⟨ob, 0, none⟩ (.slice va (0 + 1) vc)) ∧ (∀ b, C' b → (b = ob ∨ b = fb ∨ (Value.slice a st.length cap).ownBlock = some b) ∨ w.heap.size ≤ b) ∧ NsS Bx ob fb (come (st, fine) ⟨s1, s2, s3⟩) C' (w3.setCell ⟨ob, 0, none⟩ (.slice va (0 + 1) vc))) := by
        intro va vc w3 q1 q2 q3
        refine ⟨?_, come_end HSv.out HT1.out.1 HH.out HPM.out HFF.out h4 h5 h6 h7 HTB.out HFB.out q1 q2 q3⟩
        have i1 := (HSv.out.2.1.tn HTB.out h6).alloc (.cells #[.int .u64 s1, .int .u64 s2, .int .i64 s3] 36)
        refine i1.of_block (q2.block _ i1.lt (fun e => ?_))
        have e2 : (Value.slice a st.length cap).ownBlock = some ob := by rw [e]; cases a <;> rfl
        have := (own_block_lt HH.out.1 _ e2).1
        omega
      clear HSv HTB HPM HFF HFB HP HC0 HH HT1 HW1
      go_wp2_with (at_builtin; have _t := tok; refine wpList_app (by rfl) _ _ (by rfl) Try.underlying90 info39 rfl (by decide) Bx (.slice a 0 cap) 0 (spCells (st.take 0)) (by rfl) HOW.out (some ⟨v.w.heap.size, 0, none⟩) 1 1 (spCells [⟨s1, s2, s3⟩]) (by rfl) (by rfl) (one_news v.w _) (spCells_one _) (by unfold maxLen; omega) (by omega) HBX ?_; intro v1 w3 hown1 hg1 _ hat1; obtain ⟨va, vc, hvv⟩ := own_slice hown1; subst hvv; obtain ⟨i9, j9⟩ := HFIN.out va vc w3 hown1 hg1 hat1; have c9 : w3.cell? ⟨ob, 0, none⟩ = some (.slice a 0 cap) := i9.cell 0; have f9 : w3.frozen? ⟨ob, 0, none⟩ = false := i9.frozen 0; have l9 := i9.lt; have HJ : Hid (∃ C', Tn (fun b => b = ob ∨ b = fb ∨ (Value.slice a st.length cap).ownBlock = some b) w (w3.setCell ⟨ob, 0, none⟩ (.slice va (0 + 1) vc)) ∧ (∀ b, C' b → (b = ob ∨ b = fb ∨ (Value.slice a st.length cap).ownBlock = some b) ∨ w.heap.size ≤ b) ∧ NsS Bx ob fb (come (st, fine) ⟨s1, s2, s3⟩) C' (w3.setCell ⟨ob, 0, none⟩ (.slice va (0 + 1) vc))) := j9; clear tok _t hown1 hg1 hat1 i9 j9)
      refine bodyPost_end (results_none rfl _ _ _) rfl ?_
      exact ⟨⟨_, rfl⟩, HJ.out⟩
    | succ k =>
      obtain ⟨x, hx⟩ : ∃ x, st[k]? = some x := ⟨_, List.getElem?_eq_getElem (by omega)⟩
      obtain ⟨g, rfl, hg, g0, g1, g2⟩ := (row_stk HS.out.2.2.2.1).1 k x hx
      have HT : Hid (st.take (k + 1) = st.take k ++ [x]) := take_snoc hx
      have hpx := fun W => hprc W x
      have hax := fun W => anc_any W x ⟨s1, s2, s3⟩
      have hi1 : ((k : Int) + 1) - 1 = (k : Int) := by omega
      have hi2 : (k : Int) < (k : Int) + 1 := by omega
      have hi3 : (0 : Int) ≤ (k : Int) := by omega
      have hg0 : decide ((0 : Int) < (k : Int) + 1) = true := by simp <;> omega
      have hg1 : decide (0 < k + 1) = true := by simp
      clear hx
      obtain ⟨x1, x2, x3⟩ := x
      unfold sv at hax
      simp only at *
      by_cases hlt : x2 < s1
      · have hfe : fol ⟨s1, s2, s3⟩ ⟨x1, x2, x3⟩ = true := by simp [fol, hlt]
        rw [hfe] at hpx
        have HP2 : Hid (pop s1 st = pop s1 (st.take k)) := by show _ = _; rw [HP.out, HT.out, pop_lt hlt]
        clear hfe hax
        go_wp2_with fail
        refine wp_region_bel (by kernel_rfl) (by kernel_rfl) ?_
        intro hne
        repeat go_big_quiet_step ((go_at_call 64; with_reducible exact Calls.bel_of (hpx _)))
        refine wpQuiet_nil ?_
        rintro _ ⟨u, rfl⟩
        have HS2 : Hid (CoS w W1 Bx ob fb st fine (some ⟨g, 0, none⟩) cap k (u.w.setCell ⟨ob, 0, none⟩ (.slice (some ⟨g, 0, none⟩) k cap))) := (HS.out.bel u).pop (by omega) h6 h4
        go_wp2
        go_roundw
        case rel => exact ⟨k, by omega, HP2, HS2⟩
        case measure =>
          have := HS2.out.2.1.cell 0
          simp at this
          simp [this, c0]
      · have hfe : fol ⟨s1, s2, s3⟩ ⟨x1, x2, x3⟩ = false := by simp [fol]; omega
        rw [hfe] at hpx
        clear hfe
        go_wp2_with fail
        refine wp_region_bel (by kernel_rfl) (by kernel_rfl) ?_
        intro hne
        repeat go_big_quiet_step ((go_at_call 64; with_reducible exact Calls.bel_of (hpx _)))
        refine wpQuiet_nil ?_
        rintro _ ⟨u, rfl⟩
        go_wp2_with fail
        by_cases he : x1 = s1 ∧ x2 = s2 ∧ x3 = s3
        · obtain ⟨rfl, rfl, rfl⟩ := he
          have hes : eqSp x1 x2 x3 x1 x2 x3 = true := by simp [eqSp]
          refine wp_region_belOf u (by kernel_rfl) (by kernel_rfl) ?_
          intro hne
          repeat go_big_quiet_step (fail)
          refine wpQuiet_nil ?_
          rintro _ ⟨v, rfl⟩
          have HSv : Hid (CoS w W1 Bx ob fb st fine (some ⟨g, 0, none⟩) cap (k + 1) v.w) := HS.out.bel v
          have HTB : Hid (Tn (fun b => b = fb) v.w v.w) := Tn.refl _ _
          have HPM : Hid (pop x1 st = st.take (k + 1)) := by show _ = _; rw [HP.out, HT.out, pop_ge (by show ¬ (_ < _); simp only; omega)]
          have HFF : Hid (fine = (fine && lastFits (st.take (k + 1)) ⟨x1, x2, x3⟩)) := by show _ = _; rw [HT.out]; simp [lastFits]
          have HFB : Hid (IsCells v.w fb #[.bool fine]) := HSv.out.2.2.1
          have tok : True := trivial
          have HOW : Hid ((v.w.alloc (.cells #[.int .u64 x1, .int .u64 x2, .int .i64 x3] 36)).ownsRow Bx 36 3 (.slice (some ⟨g, 0, none⟩) (k + 1) cap) (k + 1) (spCells (st.take (k + 1)))) := by
            have hb := own_take (own_tn HSv.out.2.2.2.1 HTB.out (fun k hk e => by have := (own_block_lt HSv.out.2.2.2.1 k hk).1; omega)) (show (k + 1) ≤ st.length by omega)
            rw [← spCells_take] at hb
            exact own_of_block hb (fun k hk => Below.heap_alloc _ _ _ (own_block_lt hb k hk).2)
          have HBX : Bx ≤ (v.w.alloc (.cells #[.int .u64 x1, .int .u64 x2, .int .i64 x3] 36)).heap.size := by
            have h1 := HT1.out.1.size
            have h2 := HSv.out.1.size
            have h3 := HTB.out.size
            simp
            omega
          have HFIN : Hid (∀ va vc w3, w3.ownsRow Bx 36 3 (.slice va ((k + 1) + 1) vc) ((k + 1) + 1) (spCells (st.take (k + 1)) ++ spCells [⟨x1, x2, x3⟩]) → (v.w.alloc (.cells #[.int .u64 x1, .int .u64 x2, .int .i64 x3] 36)).grownBy w3 (Value.slice (some ⟨g, 0, none⟩) (k + 1) cap).ownBlock → ((Value.slice va ((k + 1) + 1) vc).ownBlock = (Value.slice (some ⟨g, 0, none⟩) (k + 1) cap).ownBlock ∨ (Value.slice va ((k + 1) + 1) vc).ownBlock = some (v.w.alloc (.cells #[.int .u64 x1, .int .u64 x2, .int .i64 x3] 36)).heap.size) → IsCells w3 ob #[.slice (some ⟨g, 0, none⟩) (k + 1) cap] ∧ ∃ C', Tn (fun b => b = ob ∨ b = fb ∨ (Value.slice (some ⟨g, 0, none⟩) st.length cap).ownBlock = some b) w (w3.setCell ⟨ob, 0, none⟩ (.slice va ((k + 1) + 1) vc)) ∧ (∀ b, C' b → (b = ob ∨ b = fb ∨ (Value.slice (some ⟨g, 0, none⟩) st.length cap).ownBlock = some b) ∨ w.heap.size ≤ b) ∧ NsS Bx ob fb (come (st, fine) ⟨x1, x2, x3⟩) C' (w3.setCell ⟨ob, 0, none⟩ (.slice va ((k + 1) + 1) vc))) := by
            intro va vc w3 q1 q2 q3
            refine ⟨?_, come_end HSv.out HT1.out.1 HH.out HPM.out HFF.out h4 h5 h6 h7 HTB.out HFB.out q1 q2 q3⟩
            have i1 := (HSv.out.2.1.tn HTB.out h6).alloc (.cells #[.int .u64 x1, .int .u64 x2, .int .i64 x3] 36)
            refine i1.of_block (q2.block _ i1.lt (fun e => ?_))
            have e2 : (Value.slice (some ⟨g, 0, none⟩) st.length cap).ownBlock = some ob := by rw [e]; rfl
            have := (own_block_lt HH.out.1 _ e2).1
            omega
          clear HSv HTB HPM HFF HFB HP HC0 HH HT1 HW1
          go_wp2_with (at_builtin; have _t := tok; refine wpList_app (by rfl) _ _ (by rfl) Try.underlying90 info39 rfl (by decide) Bx (.slice (some ⟨g, 0, none⟩) (k + 1) cap) (k + 1) (spCells (st.take (k + 1))) (by rfl) HOW.out (some ⟨v.w.heap.size, 0, none⟩) 1 1 (spCells [⟨x1, x2, x3⟩]) (by rfl) (by rfl) (one_news v.w _) (spCells_one _) (by unfold maxLen; omega) (by omega) HBX ?_; intro v1 w3 hown1 hg1 _ hat1; obtain ⟨va, vc, hvv⟩ := own_slice hown1; subst hvv; obtain ⟨i9, j9⟩ := HFIN.out va vc w3 hown1 hg1 hat1; have c9 : w3.cell? ⟨ob, 0, none⟩ = some (.slice (some ⟨g, 0, none⟩) (k + 1) cap) := i9.cell 0; have f9 : w3.frozen? ⟨ob, 0, none⟩ = false := i9.frozen 0; have l9 := i9.lt; have HJ : Hid (∃ C', Tn (fun b => b = ob ∨ b = fb ∨ (Value.slice (some ⟨g, 0, none⟩) st.length cap).ownBlock = some b) w (w3.setCell ⟨ob, 0, none⟩ (.slice va ((k + 1) + 1) vc)) ∧ (∀ b, C' b → (b = ob ∨ b = fb ∨ (Value.slice (some ⟨g, 0, none⟩) st.length cap).ownBlock = some b) ∨ w.heap.size ≤ b) ∧ NsS Bx ob fb (come (st, fine) ⟨x1, x2, x3⟩) C' (w3.setCell ⟨ob, 0, none⟩ (.slice va ((k + 1) + 1) vc))) := j9; clear tok _t hown1 hg1 hat1 i9 j9)
          refine bodyPost_end (results_none rfl _ _ _) rfl ?_
          exact ⟨⟨_, rfl⟩, HJ.out⟩
        · have hes : eqSp x1 x2 x3 s1 s2 s3 = false := by simpa [eqSp] using he
          have HPM : Hid (pop s1 st = st.take (k + 1)) := by show _ = _; rw [HP.out, HT.out, pop_ge (by show ¬ (_ < _); simp only; omega)]
          have HLF : Hid (lastFits (st.take (k + 1)) ⟨s1, s2, s3⟩ = anc ⟨x1, x2, x3⟩ ⟨s1, s2, s3⟩) := by
            show _ = _
            have hee : decide (x1 = s1 ∧ x2 = s2 ∧ x3 = s3) = false := by simpa [eqSp] using hes
            rw [HT.out]
            simp only [lastFits, List.getLast?_append, List.getLast?_singleton, Option.some_or]
            rw [hee, Bool.false_or]
          clear he
          cases ha : anc ⟨x1, x2, x3⟩ ⟨s1, s2, s3⟩ with
          | true =>
            rw [ha] at hax
            have HFF : Hid (fine = (fine && lastFits (st.take (k + 1)) ⟨s1, s2, s3⟩)) := by show _ = _; rw [HLF.out, ha, Bool.and_true]
            clear ha HLF
            refine wp_region_belOf u (by kernel_rfl) (by kernel_rfl) ?_
            intro hne
            repeat go_big_quiet_step ((go_at_call 65; with_reducible exact Calls.bel_of (hax _)))
            refine wpQuiet_nil ?_
            rintro _ ⟨v, rfl⟩
            have HSv : Hid (CoS w W1 Bx ob fb st fine (some ⟨g, 0, none⟩) cap (k + 1) v.w) := HS.out.bel v
            have HTB : Hid (Tn (fun b => b = fb) v.w v.w) := Tn.refl _ _
            have HFB : Hid (IsCells v.w fb #[.bool fine]) := HSv.out.2.2.1
            have tok : True := trivial
            have HOW : Hid ((v.w.alloc (.cells #[.int .u64 s1, .int .u64 s2, .int .i64 s3] 36)).ownsRow Bx 36 3 (.slice (some ⟨g, 0, none⟩) (k + 1) cap) (k + 1) (spCells (st.take (k + 1)))) := by
              have hb := own_take (own_tn HSv.out.2.2.2.1 HTB.out (fun k hk e => by have := (own_block_lt HSv.out.2.2.2.1 k hk).1; omega)) (show (k + 1) ≤ st.length by omega)
              rw [← spCells_take] at hb
              exact own_of_block hb (fun k hk => Below.heap_alloc _ _ _ (own_block_lt hb k hk).2)
            have HBX : Bx ≤ (v.w.alloc (.cells #[.int .u64 s1, .int .u64 s2, .int .i64 s3] 36)).heap.size := by
              have h1 := HT1.out.1.size
              have h2 := HSv.out.1.size
              have h3 := HTB.out.size
              simp
              omega
            have HFIN : Hid (∀ va vc w3, w3.ownsRow Bx 36 3 (.slice va ((k + 1) + 1) vc) ((k + 1) + 1) (spCells (st.take (k + 1)) ++ spCells [⟨s1, s2, s3⟩]) → (v.w.alloc (.cells #[.int .u64 s1, .int .u64 s2, .int .i64 s3] 36)).grownBy w3 (Value.slice (some ⟨g, 0, none⟩) (k + 1) cap).ownBlock → ((Value.slice va ((k + 1) + 1) vc).ownBlock = (Value.slice (some ⟨g, 0, none⟩) (k + 1) cap).ownBlock ∨ (Value.slice va ((k + 1) + 1) vc).ownBlock = some (v.w.alloc (.cells #[.int .u64 s1, .int .u64 s2, .int .i64 s3] 36)).heap.size) → IsCells w3 ob #[.slice (some ⟨g, 0, none⟩) (k + 1) cap] ∧ ∃ C', Tn (fun b => b = ob ∨ b = fb ∨ (Value.slice (some ⟨g, 0, none⟩) st.length cap).ownBlock = some b) w (w3.setCell ⟨ob, 0, none⟩ (.slice va ((k + 1) + 1) vc)) ∧ (∀ b, C' b → (b = ob ∨ b = fb ∨ (Value.slice (some ⟨g, 0, none⟩) st.length cap).ownBlock = some b) ∨ w.heap.size ≤ b) ∧ NsS Bx ob fb (come (st, fine) ⟨s1, s2, s3⟩) C' (w3.setCell ⟨ob, 0, none⟩ (.slice va ((k + 1) + 1) vc))) := by
              intro va vc w3 q1 q2 q3
              refine ⟨?_, come_end HSv.out HT1.out.1 HH.out HPM.out HFF.out h4 h5 h6 h7 HTB.out HFB.out q1 q2 q3⟩
              have i1 := (HSv.out.2.1.tn HTB.out h6).alloc (.cells #[.int .u64 s1, .int .u64 s2, .int .i64 s3] 36)
              refine i1.of_block (q2.block _ i1.lt (fun e => ?_))
              have e2 : (Value.slice (some ⟨g, 0, none⟩) st.length cap).ownBlock = some ob := by rw [e]; rfl
              have := (own_block_lt HH.out.1 _ e2).1
              omega
            clear HSv HTB HPM HFF HFB HP HC0 HH HT1 HW1
            go_wp2_with (at_builtin; have _t := tok; refine wpList_app (by rfl) _ _ (by rfl) Try.underlying90 info39 rfl (by decide) Bx (.slice (some ⟨g, 0, none⟩) (k + 1) cap) (k + 1) (spCells (st.take (k + 1))) (by rfl) HOW.out (some ⟨v.w.heap.size, 0, none⟩) 1 1 (spCells [⟨s1, s2, s3⟩]) (by rfl) (by rfl) (one_news v.w _) (spCells_one _) (by unfold maxLen; omega) (by omega) HBX ?_; intro v1 w3 hown1 hg1 _ hat1; obtain ⟨va, vc, hvv⟩ := own_slice hown1; subst hvv; obtain ⟨i9, j9⟩ := HFIN.out va vc w3 hown1 hg1 hat1; have c9 : w3.cell? ⟨ob, 0, none⟩ = some (.slice (some ⟨g, 0, none⟩) (k + 1) cap) := i9.cell 0; have f9 : w3.frozen? ⟨ob, 0, none⟩ = false := i9.frozen 0; have l9 := i9.lt; have HJ : Hid (∃ C', Tn (fun b => b = ob ∨ b = fb ∨ (Value.slice (some ⟨g, 0, none⟩) st.length cap).ownBlock = some b) w (w3.setCell ⟨ob, 0, none⟩ (.slice va ((k + 1) + 1) vc)) ∧ (∀ b, C' b → (b = ob ∨ b = fb ∨ (Value.slice (some ⟨g, 0, none⟩) st.length cap).ownBlock = some b) ∨ w.heap.size ≤ b) ∧ NsS Bx ob fb (come (st, fine) ⟨s1, s2, s3⟩) C' (w3.setCell ⟨ob, 0, none⟩ (.slice va ((k + 1) + 1) vc))) := j9; clear tok _t hown1 hg1 hat1 i9 j9)
            refine bodyPost_end (results_none rfl _ _ _) rfl ?_
            exact ⟨⟨_, rfl⟩, HJ.out⟩
          | false =>
            rw [ha] at hax
            have HFF : Hid (false = (fine && lastFits (st.take (k + 1)) ⟨s1, s2, s3⟩)) := by show _ = _; rw [HLF.out, ha, Bool.and_false]
            clear ha HLF
            refine wp_region_belOf u (by kernel_rfl) (by kernel_rfl) ?_
            intro hne
            repeat go_big_quiet_step ((go_at_call 65; with_reducible exact Calls.bel_of (hax _)))
            refine wpQuiet_nil ?_
            rintro _ ⟨v, rfl⟩
            have HSv : Hid (CoS w W1 Bx ob fb st fine (some ⟨g, 0, none⟩) cap (k + 1) v.w) := HS.out.bel v
            obtain ⟨vf, hvf⟩ : ∃ vf, v.w.setCell ⟨fb, 0, none⟩ (.bool false) = vf := ⟨_, rfl⟩
            have HVF : Hid (v.w.setCell ⟨fb, 0, none⟩ (.bool false) = vf) := hvf
            have HTB : Hid (Tn (fun b => b = fb) v.w vf) := by rw [← hvf]; exact Tn.one _ _ _ _
            have HFB : Hid (IsCells vf fb #[.bool false]) := by rw [← hvf]; exact HSv.out.2.2.1.set1
            have ffb : v.w.frozen? ⟨fb, 0, none⟩ = false := HSv.out.2.2.1.frozen 0
            have cfb : v.w.cell? ⟨fb, 0, none⟩ = some (.bool fine) := HSv.out.2.2.1.cell 0
            have lfb := HSv.out.2.2.1.lt
            have ivf : IsCells vf ob #[.slice (some ⟨g, 0, none⟩) (k + 1) cap] := HSv.out.2.1.tn HTB.out h6
            have isf : IsCells vf w.heap.size #[.int .u64 s1, .int .u64 s2, .int .i64 s3] := (HT1.out.2.tn HSv.out.1 (by omega)).tn HTB.out (by have := HH.out.2.2; omega)
            have o0 : vf.cell? ⟨ob, 0, none⟩ = some (.slice (some ⟨g, 0, none⟩) (k + 1) cap) := ivf.cell 0
            have p0 : vf.cell? ⟨w.heap.size, 0, none⟩ = some (.int .u64 s1) := isf.cell 0
            have p1 : vf.cell? ⟨w.heap.size, 1, none⟩ = some (.int .u64 s2) := isf.cell 1
            have p2 : vf.cell? ⟨w.heap.size, 2, none⟩ = some (.int .i64 s3) := isf.cell 2
            have lo := ivf.lt
            have ls := isf.lt
            clear hvf ivf isf
            go_upto_region 6 with fail
            rw [HVF.out]
            have tok : True := trivial
            have HOW : Hid ((vf.alloc (.cells #[.int .u64 s1, .int .u64 s2, .int .i64 s3] 36)).ownsRow Bx 36 3 (.slice (some ⟨g, 0, none⟩) (k + 1) cap) (k + 1) (spCells (st.take (k + 1)))) := by
              have hb := own_take (own_tn HSv.out.2.2.2.1 HTB.out (fun k hk e => by have := (own_block_lt HSv.out.2.2.2.1 k hk).1; omega)) (show (k + 1) ≤ st.length by omega)
              rw [← spCells_take] at hb
              exact own_of_block hb (fun k hk => Below.heap_alloc _ _ _ (own_block_lt hb k hk).2)
            have HBX : Bx ≤ (vf.alloc (.cells #[.int .u64 s1, .int .u64 s2, .int .i64 s3] 36)).heap.size := by
              have h1 := HT1.out.1.size
              have h2 := HSv.out.1.size
              have h3 := HTB.out.size
              simp
              omega
            have HFIN : Hid (∀ va vc w3, w3.ownsRow Bx 36 3 (.slice va ((k + 1) + 1) vc) ((k + 1) + 1) (spCells (st.take (k + 1)) ++ spCells [⟨s1, s2, s3⟩]) → (vf.alloc (.cells #[.int .u64 s1, .int .u64 s2, .int .i64 s3] 36)).grownBy w3 (Value.slice (some ⟨g, 0, none⟩) (k + 1) cap).ownBlock → ((Value.slice va ((k + 1) + 1) vc).ownBlock = (Value.slice (some ⟨g, 0, none⟩) (k + 1) cap).ownBlock ∨ (Value.slice va ((k + 1) + 1) vc).ownBlock = some (vf.alloc (.cells #[.int .u64 s1, .int .u64 s2, .int .i64 s3] 36)).heap.size) → IsCells w3 ob #[.slice (some ⟨g, 0, none⟩) (k + 1) cap] ∧ ∃ C', Tn (fun b => b = ob ∨ b = fb ∨ (Value.slice (some ⟨g, 0, none⟩) st.length cap).ownBlock = some b) w (w3.setCell ⟨ob, 0, none⟩ (.slice va ((k + 1) + 1) vc)) ∧ (∀ b, C' b → (b = ob ∨ b = fb ∨ (Value.slice (some ⟨g, 0, none⟩) st.length cap).ownBlock = some b) ∨ w.heap.size ≤ b) ∧ NsS Bx ob fb (come (st, fine) ⟨s1, s2, s3⟩) C' (w3.setCell ⟨ob, 0, none⟩ (.slice va ((k + 1) + 1) vc))) := by
              intro va vc w3 q1 q2 q3
              refine ⟨?_, come_end HSv.out HT1.out.1 HH.out HPM.out HFF.out h4 h5 h6 h7 HTB.out HFB.out q1 q2 q3⟩
              have i1 := (HSv.out.2.1.tn HTB.out h6).alloc (.cells #[.int .u64 s1, .int .u64 s2, .int .i64 s3] 36)
              refine i1.of_block (q2.block _ i1.lt (fun e => ?_))
              have e2 : (Value.slice (some ⟨g, 0, none⟩) st.length cap).ownBlock = some ob := by rw [e]; rfl
              have := (own_block_lt HH.out.1 _ e2).1
              omega
            clear HSv HTB HPM HFF HFB HP HC0 HH HT1 HW1
            go_wp2_with (at_builtin; have _t := tok; refine wpList_app (by rfl) _ _ (by rfl) Try.underlying90 info39 rfl (by decide) Bx (.slice (some ⟨g, 0, none⟩) (k + 1) cap) (k + 1) (spCells (st.take (k + 1))) (by rfl) HOW.out (some ⟨vf.heap.size, 0, none⟩) 1 1 (spCells [⟨s1, s2, s3⟩]) (by rfl) (by rfl) (one_news vf _) (spCells_one _) (by unfold maxLen; omega) (by omega) HBX ?_; intro v1 w3 hown1 hg1 _ hat1; obtain ⟨va, vc, hvv⟩ := own_slice hown1; subst hvv; obtain ⟨i9, j9⟩ := HFIN.out va vc w3 hown1 hg1 hat1; have c9 : w3.cell? ⟨ob, 0, none⟩ = some (.slice (some ⟨g, 0, none⟩) (k + 1) cap) := i9.cell 0; have f9 : w3.frozen? ⟨ob, 0, none⟩ = false := i9.frozen 0; have l9 := i9.lt; have HJ : Hid (∃ C', Tn (fun b => b = ob ∨ b = fb ∨ (Value.slice (some ⟨g, 0, none⟩) st.length cap).ownBlock = some b) w (w3.setCell ⟨ob, 0, none⟩ (.slice va ((k + 1) + 1) vc)) ∧ (∀ b, C' b → (b = ob ∨ b = fb ∨ (Value.slice (some ⟨g, 0, none⟩) st.length cap).ownBlock = some b) ∨ w.heap.size ≤ b) ∧ NsS Bx ob fb (come (st, fine) ⟨s1, s2, s3⟩) C' (w3.setCell ⟨ob, 0, none⟩ (.slice va ((k + 1) + 1) vc))) := j9; clear tok _t hown1 hg1 hat1 i9 j9)
            refine bodyPost_end (results_none rfl _ _ _) rfl ?_
            exact ⟨⟨_, rfl⟩, HJ.out⟩

end Go.Proofs.Ytmeinebfdljndaa
