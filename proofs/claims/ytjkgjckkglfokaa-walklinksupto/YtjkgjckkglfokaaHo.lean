/- What a link of iterators holds besides; functions that are handed in. -/
import Derived.Test.YtjkgjckkglfokaaIt
import Derived.Test.YtjkgjckkglfokaaProg
namespace Go.Proofs.Ytjkgjckkglfokaa
open Go.RowKit Go.Shelf
set_option linter.unusedVariables false

def encI (x : Int) : Array Value := #[.int .i64 x]
def IsC (w : World) (b : Nat) (cs : Array Value) : Prop := ∃ t, w.heap[b]? = some (.cells cs t (0, 0))
theorem IsC.lt {w : World} {b : Nat} {cs : Array Value} (h : IsC w b cs) : b < w.heap.size := by
  obtain ⟨t, h⟩ := h
  exact (Array.getElem?_eq_some_iff.1 h).1
theorem IsC.cell {w : World} {b : Nat} {cs : Array Value} (h : IsC w b cs) (o : Nat) : w.cell? ⟨b, o, none⟩ = cs[o]? := by
  obtain ⟨t, h⟩ := h
  simp [World.cell?, h]
theorem IsC.frozen {w : World} {b : Nat} {cs : Array Value} (h : IsC w b cs) (o : Nat) : w.frozen? ⟨b, o, none⟩ = false := by
  obtain ⟨t, h⟩ := h
  simp [World.frozen?, h]
theorem IsC.of_block {w w' : World} {b : Nat} {cs : Array Value} (h : IsC w b cs) (hb : w'.heap[b]? = w.heap[b]?) : IsC w' b cs := by
  obtain ⟨t, h⟩ := h
  exact ⟨t, hb.trans h⟩
theorem IsC.tn {A : Nat → Prop} {w w' : World} {b : Nat} {cs : Array Value} (h : IsC w b cs) (ht : Tn A w w') (hb : ¬ A b) : IsC w' b cs := h.of_block (ht.block b h.lt hb)
theorem isC_new (w : World) (cs : Array Value) (t : TypeId) : IsC (w.alloc (.cells cs t)) w.heap.size cs := ⟨t, heap_alloc_new w _⟩

theorem Tn.same {A : Nat → Prop} {W X Y : World} {b : Nat} (ht : Tn A X Y) (h : X.heap[b]? = W.heap[b]?) (hb : b < W.heap.size) (hA : ¬ A b) : Y.heap[b]? = W.heap[b]? := by
  have : b < X.heap.size := by
    rw [Array.getElem?_eq_getElem hb] at h
    exact (Array.getElem?_eq_some_iff.1 h).1
  exact (ht.block b this hA).trans h
/-- What was held is as it was. -/
theorem Tn.held {T C0 H : Nat → Prop} {W W0 X : World} {N : Nat} (t0 : Tn (fun _ => False) W W0) (tX : Tn (fun b => T b ∨ (C0 b ∨ (N ≤ b ∨ H b))) W0 X) (hy : W.heap.size ≤ N) (hH : ∀ b, H b → b < W.heap.size → X.heap[b]? = W.heap[b]?) (M : Nat) (o : Obj) (hM : W.heap.size ≤ M) : Tn (fun b => T b ∨ C0 b) W (X.putObj M o) := by
  refine Tn.trans (B := fun k => k = M) ⟨tX.os.trans t0.os, tX.tape.trans t0.tape, tX.output.trans t0.output, Nat.le_trans t0.size tX.size, fun k hk hn => ?_⟩ (Tn.put _ _ _) (fun i hi h => by omega)
  by_cases h : H k
  · exact hH k h hk
  · exact (tX.block k (Nat.lt_of_lt_of_le hk t0.size) (fun e => by
      rcases e with e | e | e | e
      · exact hn (.inl e)
      · exact hn (.inr e)
      · omega
      · exact h e)).trans (t0.block k hk (fun h => h))

/-- What is held besides: blocks of H, and what is so of them. -/
def HoldI {α β : Type} (J : Inv β) (φ : List α → List β) (H : Nat → Prop) (St : List α → World → Prop) : Inv α := fun s C X => ∃ Cj, C = (fun b => Cj b ∨ H b) ∧ J (φ s) Cj X ∧ (∀ b, H b → ¬ Cj b) ∧ (∀ b, H b → b < X.heap.size) ∧ St s X
theorem HoldI.stb {α β : Type} {J : Inv β} {φ : List α → List β} {H : Nat → Prop} {St : List α → World → Prop} {D : Nat → Prop} (hJ : Stb D J) (hS : ∀ s A X Y, St s X → Tn A X Y → (∀ b, H b → ¬ A b) → St s Y) : Stb D (HoldI J φ H St) := by
  refine ⟨fun s C X h b hb => ?_, fun s C A X Y h ht hA => ?_⟩
  · obtain ⟨Cj, rfl, h1, -, h2, -⟩ := h
    rcases hb with (hb | hb) | hb
    · exact hJ.1 _ _ _ h1 b (.inl hb)
    · exact h2 b hb
    · exact hJ.1 _ _ _ h1 b (.inr hb)
  · obtain ⟨Cj, rfl, h1, h3, h2, h4⟩ := h
    exact ⟨Cj, rfl, hJ.2 _ _ _ _ _ h1 ht (fun b hb => hA b (hb.imp .inl id)), h3, fun b hb => Nat.lt_of_lt_of_le (h2 b hb) ht.size, hS _ _ _ _ h4 ht (fun b hb => hA b (.inl (.inr hb)))⟩
/-- The outer one's round, within. -/
theorem HoldI.round {α β : Type} {J J' : Inv β} {φ : List α → List β} {H Cj C' : Nat → Prop} {St : List α → World → Prop} {s : List α} {X Y : World} (h3 : ∀ b, H b → ¬ Cj b) (h2 : ∀ b, H b → b < X.heap.size) (ht : Tn Cj X Y) (hC : ∀ b, C' b → Cj b ∨ X.heap.size ≤ b) (hJ : J' (φ s) C' Y) (hS : St s Y) :
    ∃ C'', Tn (fun b => Cj b ∨ H b) X Y ∧ (∀ b, C'' b → (Cj b ∨ H b) ∨ X.heap.size ≤ b) ∧ HoldI J' φ H St s C'' Y := by
  refine ⟨fun b => C' b ∨ H b, ht.mono (fun _ _ h => .inl h), fun b hb => ?_, C', rfl, hJ, fun b hb hc => ?_, fun b hb => Nat.lt_of_lt_of_le (h2 b hb) ht.size, hS⟩
  · rcases hb with hb | hb
    · exact (hC b hb).imp .inl id
    · exact .inl (.inr hb)
  · rcases hC b hc with h | h
    · exact h3 b hb h
    · have := h2 b hb
      omega

/-- At the end: what is held besides is given up, the record of what was deferred turned. -/
theorem hold_done' {α β : Type} {P : Program} {gf : Nat} {lb : Array Value} {encs : α → Array Value} {xs : List α} {R T : Nat → Prop} {Sq : World → Prop} (hs : IsSeq P gf lb encs xs R T Sq) {W W0 X : World} (hq : Sq W) (t0 : Tn (fun _ => False) W W0) {C0 H H0 : Nat → Prop}
    (hH : ∀ b, H b → W.heap.size ≤ b ∨ H0 b) {J : Inv β} {D : Nat → Prop} (hDl : ∀ b, D b → b < W.heap.size) (stJ : Stb D J) {φ : List α → List β} {St : List α → World → Prop} {s : List α} {C : Nat → Prop} (h : HoldI J φ H St s C X) (hk : ∀ b, H0 b → X.heap[b]? = W.heap[b]?)
    (tX : Tn (fun b => T b ∨ (C0 b ∨ H b)) W0 X) (hqX : Sq X) (hC : ∀ b, C b → (C0 b ∨ H b) ∨ W0.heap.size ≤ b) (nD : ¬ C W0.heap.size) (o : Obj) :
    Tn (fun b => T b ∨ C0 b) W (X.putObj W0.heap.size o) ∧ Sq (X.putObj W0.heap.size o) ∧ ∃ Cj, (∀ b, Cj b → C0 b ∨ W.heap.size ≤ b) ∧ (∀ b, H b → ¬ Cj b) ∧ J (φ s) Cj (X.putObj W0.heap.size o) := by
  obtain ⟨Cj, rfl, hJ, n1, n2, -⟩ := h
  have hz := t0.size
  refine ⟨Tn.held t0 (H := H0) (N := W.heap.size) (tX.mono (fun k _ h => ?_)) (Nat.le_refl _) (fun b hb _ => hk b hb) _ o hz, hs.stab _ _ _ hqX (Tn.put _ _ _) (fun b hb e => by have := hs.lt _ hq b hb; omega), Cj, fun b hb => ?_, n1, stJ.2 _ _ _ _ _ hJ (Tn.put _ _ _) (fun b hb (e : b = W0.heap.size) => hb.elim (fun hb => nD (.inl (e ▸ hb))) (fun hb => by have := hDl b hb; omega))⟩
  · rcases h with h | h | h
    · exact .inl h
    · exact .inr (.inl h)
    · exact .inr (.inr (hH k h))
  · rcases hC b (.inl hb) with (h | h) | h
    · exact .inl h
    · exact absurd hb (n1 b h)
    · exact .inr (by omega)
theorem hold_done {α β : Type} {P : Program} {gf : Nat} {lb : Array Value} {encs : α → Array Value} {xs : List α} {R T : Nat → Prop} {Sq : World → Prop} (hs : IsSeq P gf lb encs xs R T Sq) {W W0 X : World} (hq : Sq W) (t0 : Tn (fun _ => False) W W0) {C0 H H0 : Nat → Prop}
    (hH : ∀ b, H b → W.heap.size ≤ b ∨ H0 b) {J : Inv β} {D : Nat → Prop} (hDl : ∀ b, D b → b < W.heap.size) (stJ : Stb D J) {φ : List α → List β} {St : List α → World → Prop} {s : List α} {C : Nat → Prop} (h : HoldI J φ H St s C X) (hk : ∀ b, H0 b → X.heap[b]? = W.heap[b]?)
    (tX : Tn (fun b => T b ∨ (C0 b ∨ H b)) W0 X) (hqX : Sq X) (hC : ∀ b, C b → (C0 b ∨ H b) ∨ W0.heap.size ≤ b) (nD : ¬ C W0.heap.size) (o : Obj) :
    Tn (fun b => T b ∨ C0 b) W (X.putObj W0.heap.size o) ∧ Sq (X.putObj W0.heap.size o) ∧ ∃ Cj, (∀ b, Cj b → C0 b ∨ W.heap.size ≤ b) ∧ J (φ s) Cj (X.putObj W0.heap.size o) := by
  obtain ⟨h1, h2, Cj, h3, -, h4⟩ := hold_done' hs hq t0 hH hDl stJ h hk tX hqX hC nD o
  exact ⟨h1, h2, Cj, h3, h4⟩
/-- What is caught is kept. -/
theorem IsC.caught {T C0 R : Nat → Prop} {W Y : World} {b : Nat} {cs : Array Value} (h : IsC W b cs) (ht : Tn (fun b => T b ∨ C0 b) W Y) (hT : ∀ b, T b → R b) (hR : ¬ R b) (hC : ¬ C0 b) : IsC Y b cs :=
  h.tn ht (fun e => e.elim (fun e => hR (hT _ e)) hC)

theorem yes_no {e : Ending} {p q : Prop} (h : (e = .returned (.bool true) ∧ p) ∨ (e = .returned (.bool false) ∧ q)) : ∃ bv : Bool, e = .returned (.bool bv) ∧ (bv = true → p) ∧ (bv = false → q) := by
  rcases h with h | h
  · exact ⟨true, h.1, fun _ => h.2, (fun h => by cases h)⟩
  · exact ⟨false, h.1, (fun h => by cases h), fun _ => h.2⟩

/-- A function of numbers that is handed in: it answers r of each, and changes nothing. -/
structure IsFn (P : Program) (mf : Nat) (ml : Array Value) (r : Int → Value) (R : Nat → Prop) (S : World → Prop) : Prop where
  ent : ∀ args w, (callFunc mf args).run P w = .ok (.enter mf args) w
  lt : ∀ W, S W → ∀ b, R b → b < W.heap.size
  stab : ∀ W W' A, S W → Tn A W W' → (∀ b, R b → ¬ A b) → S W'
  call : ∀ W x, S W → Calls P mf (#[.int .i64 x] ++ ml) W fun e W' => e = .returned (r x) ∧ Below W.heap.size W W'

end Go.Proofs.Ytjkgjckkglfokaa
