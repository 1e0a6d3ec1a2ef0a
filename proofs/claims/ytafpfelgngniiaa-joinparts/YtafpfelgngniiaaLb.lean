/- Whoever is told keeps a list in a box. -/
import Derived.Test.YtafpfelgngniiaaMet4
namespace Go.Proofs.Ytafpfelgngniiaa
open Go.RowKit
set_option linter.unusedVariables false

/-- A list in a box, its blocks. -/
def LbI (lb : Nat) (e : TypeId) (size n : Nat) (xs : List Value) (C : Nat → Prop) (W : World) : Prop :=
  ∃ va vc, IsCells W lb #[.slice va n vc] ∧ W.ownsRow (lb + 1) e size (.slice va n vc) n xs ∧ C = fun b => b = lb ∨ (Value.slice va n vc).ownBlock = some b
theorem LbI.lt {lb : Nat} {e : TypeId} {size n : Nat} {xs : List Value} {C : Nat → Prop} {W : World} (h : LbI lb e size n xs C W) : ∀ b, C b → lb ≤ b ∧ b < W.heap.size := by
  obtain ⟨va, vc, h1, h2, rfl⟩ := h
  rintro b (rfl | hb)
  · exact ⟨Nat.le_refl _, h1.lt⟩
  · have := own_block_lt h2 b hb
    omega
theorem LbI.tn {lb : Nat} {e : TypeId} {size n : Nat} {xs : List Value} {C A : Nat → Prop} {W W' : World} (h : LbI lb e size n xs C W) (t : Tn A W W') (hA : ∀ b, A b → ¬ C b) : LbI lb e size n xs C W' := by
  obtain ⟨va, vc, h1, h2, rfl⟩ := h
  exact ⟨va, vc, h1.tn t (fun h => hA _ h (.inl rfl)), own_tn h2 t (fun k hk h => hA _ h (.inr hk)), rfl⟩
theorem LbI.app {lb : Nat} {e : TypeId} {size n m : Nat} {xs news : List Value} {W W2 Y : World} {va va' : Option Addr} {vc vc' : Nat} (h1 : IsCells W lb #[.slice va n vc]) (h2 : W.ownsRow (lb + 1) e size (.slice va n vc) n xs) (t : Tn (fun _ => False) W W2) (q1 : Y.ownsRow (lb + 1) e size (.slice va' m vc') m (xs ++ news)) (q2 : W2.grownBy Y (Value.slice va n vc).ownBlock) (q3 : (Value.slice va' m vc').ownBlock = (Value.slice va n vc).ownBlock ∨ (Value.slice va' m vc').ownBlock = some W2.heap.size) :
    IsCells Y lb #[.slice va n vc] ∧ ∃ C', LbI lb e size m (xs ++ news) C' (Y.setCell ⟨lb, 0, none⟩ (.slice va' m vc')) ∧ Tn (fun b => b = lb ∨ (Value.slice va n vc).ownBlock = some b) W (Y.setCell ⟨lb, 0, none⟩ (.slice va' m vc')) ∧ ∀ b, C' b → (b = lb ∨ (Value.slice va n vc).ownBlock = some b) ∨ W.heap.size ≤ b := by
  have tY : Tn (fun b => (Value.slice va n vc).ownBlock = some b) W2 Y := ⟨q2.os, q2.tape, q2.output, q2.size, fun j hj hn => q2.block j hj (fun e => hn e.symm)⟩
  have tW : Tn (fun b => (Value.slice va n vc).ownBlock = some b) W Y := (t.mono (fun _ _ h => h.elim)).trans tY (fun _ _ h => h)
  have hY : IsCells Y lb #[.slice va n vc] := h1.tn tW (fun h => by have := (own_block_lt h2 _ h).1; omega)
  refine ⟨hY, _, ⟨va', vc', hY.set1, own_tn q1 (Tn.one _ _ _ _) (fun k hk e => by have := (own_block_lt q1 _ hk).1; omega), rfl⟩, (tW.mono (fun _ _ h => .inr h)).trans (Tn.one _ _ _ _) (fun _ _ h => .inl h), ?_⟩
  rintro b (h | h)
  · exact .inl (.inl h)
  · rcases q3 with h' | h'
    · exact .inl (.inr (by rw [← h']; exact h))
    · rw [h'] at h
      simp only [Option.some.injEq] at h
      exact .inr (by have := t.size; omega)

/-- What stands besides: boxes that nobody turns. -/
structure RxOk (R : World → Prop) (Fx : Nat → Prop) (B lb : Nat) : Prop where
  fx : ∀ b, Fx b → B ≤ b ∧ b < lb
  stab : ∀ {A W W'}, R W → Tn A W W' → (∀ b, A b → B ≤ b ∧ ¬ Fx b) → R W'
def LJ (lb : Nat) (e : TypeId) (size : Nat) (n : Nat → Nat) (xs : Nat → List Value) (Fx : Nat → Prop) (R : World → Prop) : TeI :=
  fun i C W => ∃ Cl, C = (fun b => Cl b ∨ Fx b) ∧ LbI lb e size (n i) (xs i) Cl W ∧ R W
theorem LJ.ok {lb B : Nat} {e : TypeId} {size : Nat} {n : Nat → Nat} {xs : Nat → List Value} {Fx : Nat → Prop} {R : World → Prop} (hR : RxOk R Fx B lb) (hB : B ≤ lb) : TeOk (LJ lb e size n xs Fx R) B := by
  refine ⟨?_, ?_⟩
  · rintro i C W ⟨Cl, rfl, h, hr⟩ b (hb | hb)
    · have := h.lt b hb; omega
    · have := hR.fx b hb
      obtain ⟨va, vc, h1, -⟩ := h
      have := h1.lt
      omega
  · rintro i C A W W' ⟨Cl, rfl, h, hr⟩ t hA
    exact ⟨Cl, rfl, h.tn t (fun b hb hc => (hA b hb).2 (.inl hc)), hR.stab hr t (fun b hb => ⟨(hA b hb).1, fun hf => (hA b hb).2 (.inr hf)⟩)⟩
theorem LJ.step {lb B : Nat} {e : TypeId} {size : Nat} {n : Nat → Nat} {xs : Nat → List Value} {Fx : Nat → Prop} {R : World → Prop} (hR : RxOk R Fx B lb) (hB : B ≤ lb) {i m : Nat} {news : List Value} {W W2 Y : World} {va va' : Option Addr} {vc vc' : Nat} (hn : n (i + 1) = m) (hx : xs (i + 1) = xs i ++ news) (h1 : IsCells W lb #[.slice va (n i) vc]) (h2 : W.ownsRow (lb + 1) e size (.slice va (n i) vc) (n i) (xs i)) (hr : R W) (t : Tn (fun _ => False) W W2) (q1 : Y.ownsRow (lb + 1) e size (.slice va' m vc') m (xs i ++ news)) (q2 : W2.grownBy Y (Value.slice va (n i) vc).ownBlock) (q3 : (Value.slice va' m vc').ownBlock = (Value.slice va (n i) vc).ownBlock ∨ (Value.slice va' m vc').ownBlock = some W2.heap.size) :
    IsCells Y lb #[.slice va (n i) vc] ∧ ∃ C', Tn (fun b => (b = lb ∨ (Value.slice va (n i) vc).ownBlock = some b) ∨ Fx b) W (Y.setCell ⟨lb, 0, none⟩ (.slice va' m vc')) ∧ (∀ b, C' b → ((b = lb ∨ (Value.slice va (n i) vc).ownBlock = some b) ∨ Fx b) ∨ W.heap.size ≤ b) ∧ LJ lb e size n xs Fx R (i + 1) C' (Y.setCell ⟨lb, 0, none⟩ (.slice va' m vc')) := by
  obtain ⟨g0, Cl, g1, g2, g3⟩ := LbI.app h1 h2 t q1 q2 q3
  refine ⟨g0, _, g2.mono (fun _ _ h => .inl h), ?_, Cl, rfl, by rw [hn, hx]; exact g1, hR.stab hr g2 (fun b hb => ⟨?_, fun hf => ?_⟩)⟩
  · rintro b (h | h)
    · exact (g3 b h).imp .inl id
    · exact .inl (.inr h)
  · rcases hb with h | h
    · omega
    · have := (own_block_lt h2 _ h).1; omega
  · have := hR.fx b hf
    rcases hb with h | h
    · omega
    · have := (own_block_lt h2 _ h).1; omega
theorem LJ.skip {lb : Nat} {e : TypeId} {size : Nat} {n : Nat → Nat} {xs : Nat → List Value} {Fx : Nat → Prop} {R : World → Prop} {i : Nat} {C : Nat → Prop} {W : World} (hn : n (i + 1) = n i) (hx : xs (i + 1) = xs i) (h : LJ lb e size n xs Fx R i C W) : LJ lb e size n xs Fx R (i + 1) C W := by
  obtain ⟨Cl, h1, h2, h3⟩ := h
  exact ⟨Cl, h1, by rw [hn, hx]; exact h2, h3⟩

def plCells : List Pl → List Value
  | [] => []
  | x :: r => .int .u64 x.n :: .int .u64 x.s.b :: .int .u64 x.s.e :: .int .i64 x.s.l :: plCells r
theorem plCells_append : ∀ l m, plCells (l ++ m) = plCells l ++ plCells m
  | [], m => rfl
  | x :: r, m => by simp [plCells, plCells_append r m]
theorem plCells_length : ∀ l, (plCells l).length = l.length * 4
  | [] => rfl
  | x :: r => by simp [plCells, plCells_length r]; omega
theorem plCells_one : ∀ l, ∀ u ∈ plCells l, u.oneCell' = true
  | [], u, h => by simp [plCells] at h
  | p :: r, u, h => by
    simp only [plCells, List.mem_cons] at h
    rcases h with rfl | rfl | rfl | rfl | h
    · rfl
    · rfl
    · rfl
    · rfl
    · exact plCells_one r u h
theorem pl_news (w : World) (x : Pl) : ∀ j u, (plCells [x])[j]? = some u → ∃ ad, (some ⟨w.heap.size, 0, none⟩ : Option Addr) = some ad ∧ (w.alloc (.cells #[.int .u64 x.n, .int .u64 x.s.b, .int .u64 x.s.e, .int .i64 x.s.l] 41)).drew.cell? (ad.add j) = some u := by
  intro j u hu
  refine ⟨_, rfl, ?_⟩
  have e : (⟨w.heap.size, 0, none⟩ : Addr).add j = ⟨w.heap.size, j, none⟩ := by unfold Addr.add; split <;> simp_all
  have h := (isCells_new w #[.int .u64 x.n, .int .u64 x.s.b, .int .u64 x.s.e, .int .i64 x.s.l] 41).cell j
  rw [e]
  exact h.trans (by simpa [plCells] using hu)

end Go.Proofs.Ytafpfelgngniiaa
