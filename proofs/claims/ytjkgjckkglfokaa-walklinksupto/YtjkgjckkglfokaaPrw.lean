/- Pairs, in plain: more is made ready, one pair is told, the end. -/
import Derived.Test.YtjkgjckkglfokaaPrd
import Derived.Test.YtjkgjckkglfokaaMost
import Derived.Laws.Slices
namespace Go.Proofs.Ytjkgjckkglfokaa
open Go.RowKit Go.Shelf
set_option linter.unusedVariables false
attribute [local go_sem] Oper.semAt_some

theorem Tn.drewN {A : Nat → Prop} {a w : World} (h : Tn A a w) (n : Nat) : Tn A a (w.drewN n) := ⟨h.os, h.tape, h.output, h.size, h.block⟩
/-- Under way, written out. -/
def PairW (J : Inv (Int × Int)) (ys : List Int) (R' T' : Nat → Prop) (Sq' : World → Prop) (N l hf : Nat) (hb : Array Value) (tb : Nat) (s : List Int) (Cj : Nat → Prop) (v : Value) (zs rest : List Int) (X : World) : Prop :=
  J (s.zip ys) Cj X ∧ s.length ≤ ys.length ∧ ys.drop s.length = zs ++ rest ∧ Sq' X ∧ IsC X tb #[.func (.func hf) #[] hb] ∧
    IsC X N #[.func (.yield l) #[] #[]] ∧ IsC X (N + 1) #[.int .i64 (s.length : Int)] ∧ IsC X (N + 2) #[v] ∧ RdAt X (N + 3) v zs ∧ ∀ b, (R' b ∨ b = tb) ∨ (b = N ∨ b = N + 1 ∨ b = N + 2) ∨ Rb v zs b → ¬ Cj b
def PairC (T' : Nat → Prop) (N : Nat) (Cj : Nat → Prop) (v : Value) (zs : List Int) : Nat → Prop := fun b => Cj b ∨ T' b ∨ (b = N ∨ b = N + 1 ∨ b = N + 2) ∨ Rb v zs b
theorem PairW.i {J : Inv (Int × Int)} {ys : List Int} {R' T' : Nat → Prop} {Sq' : World → Prop} {N l hf : Nat} {hb : Array Value} {tb : Nat} {s : List Int} {Cj : Nat → Prop} {v : Value} {zs rest : List Int} {X : World} (h : PairW J ys R' T' Sq' N l hf hb tb s Cj v zs rest X) : PairI J ys R' T' Sq' N l hf hb tb s (PairC T' N Cj v zs) X := ⟨Cj, v, zs, rest, rfl, h⟩
theorem IsC.set1 {w : World} {b : Nat} {u u' : Value} (h : IsC w b #[u]) : IsC (w.setCell ⟨b, 0, none⟩ u') b #[u'] := by
  obtain ⟨t, ht⟩ := h
  refine ⟨t, ?_⟩
  simp [World.setCell, Array.getElem?_modify, ht]
/-- More was made ready. -/
theorem pair_more {J : Inv (Int × Int)} {ys : List Int} {R' T' D : Nat → Prop} {Sq' : World → Prop} {N l hf : Nat} {hb : Array Value} {tb : Nat} {s : List Int} {Cj : Nat → Prop} {v : Value} {rest L : List Int} {X Y : World} {m : Nat} {sa : Option Addr} {sc : Nat}
    (h : PairW J ys R' T' Sq' N l hf hb tb s Cj v [] rest X) (hJ : Stb D J) (hD : ∀ b, D b → ¬ T' b) (hDN : ∀ b, D b → b < N) (hT : ∀ b, T' b → R' b) (hR : ∀ b, R' b → b < N) (htb : ¬ T' tb) (htN : tb < N) (hst : ∀ W W' A, Sq' W → Tn A W W' → (∀ b, R' b → ¬ A b) → Sq' W')
    (hL : (ys.take (s.length + m)).drop s.length = L) (t : Tn T' X Y) (q : Sq' Y) (ho : Y.ownsRow X.heap.size 3 1 (.slice sa L.length sc) L.length (ivs L)) (hXN : N + 3 ≤ X.heap.size) :
    PairW J ys R' T' Sq' N l hf hb tb s Cj (.slice sa L.length sc) L (ys.drop (s.length + m)) (Y.setCell ⟨N + 2, 0, none⟩ (.slice sa L.length sc)) ∧ Tn (PairC T' N Cj v []) X (Y.setCell ⟨N + 2, 0, none⟩ (.slice sa L.length sc)) ∧ ∀ b, PairC T' N Cj (.slice sa L.length sc) L b → PairC T' N Cj v [] b ∨ X.heap.size ≤ b := by
  obtain ⟨h1, h2, h3, h4, h5, h6, h7, h8, h9, h10⟩ := h
  have nT : ∀ b, N ≤ b → ¬ T' b := fun b hb h => by have := hR b (hT b h); omega
  have tS : Tn (fun b => b = N + 2) Y (Y.setCell ⟨N + 2, 0, none⟩ (.slice sa L.length sc)) := (Tn.refl (fun b => b = N + 2) Y).set (p := ⟨N + 2, 0, none⟩) (.inl rfl) _
  have tX : Tn (fun b => T' b ∨ b = N + 2) X (Y.setCell ⟨N + 2, 0, none⟩ (.slice sa L.length sc)) := (t.mono (B := fun b => T' b ∨ b = N + 2) (fun _ _ h => .inl h)).trans tS (fun _ _ h => .inr h)
  have hRb : ∀ b, Rb (.slice sa L.length sc) L b → X.heap.size ≤ b := by
    rintro b ⟨-, hb⟩
    rcases ho.2 with ⟨e, -⟩ | ⟨g, c, cur, e, hg, -⟩
    · rw [e] at hb; cases hb
    · rw [e] at hb
      simp only [Value.ownBlock, Option.some.injEq] at hb
      omega
  have hCl : ∀ b, Cj b → b < X.heap.size := fun b hb => hJ.1 _ _ _ h1 b (.inl hb)
  have hdr : ys.drop s.length = L ++ ys.drop (s.length + m) := by
    rw [← hL, ← List.drop_append_of_le_length (by simp; omega), List.take_append_drop]
  refine ⟨⟨hJ.2 _ _ _ _ _ h1 tX (fun b hb hA => ?_), h2, hdr, hst _ _ _ q tS (fun b hb (e : b = N + 2) => by have := hR b hb; omega), h5.tn tX (fun h => h.elim htb (fun e => by omega)), h6.tn tX (fun h => h.elim (nT _ (Nat.le_refl _)) (fun e => by omega)), h7.tn tX (fun h => h.elim (nT _ (by omega)) (fun e => by omega)), (h8.tn t (nT _ (by omega))).set1, (RdAt.own (own_weak ho hXN)).tn tS (fun b hb (e : b = N + 2) => by have := hRb b hb; omega), fun b hb hc => ?_⟩, ?_, fun b hb => ?_⟩
  · rcases hb with hb | hb
    · rcases hA with hA | hA
      · exact h10 b (.inl (.inl (hT b hA))) hb
      · exact h10 b (.inr (.inl (.inr (.inr hA)))) hb
    · rcases hA with hA | hA
      · exact hD b hb hA
      · have := hDN b hb; omega
  · rcases hb with hb | hb | hb
    · exact h10 b (.inl hb) hc
    · exact h10 b (.inr (.inl hb)) hc
    · have := hRb b hb; have := hCl b hc; omega
  · exact tX.mono (fun b _ h => h.elim (fun h => .inr (.inl h)) (fun h => .inr (.inr (.inl (.inr (.inr h))))))
  · rcases hb with hb | hb | hb | hb
    · exact .inl (.inl hb)
    · exact .inl (.inr (.inl hb))
    · exact .inl (.inr (.inr (.inl hb)))
    · exact .inr (hRb b hb)
/-- One pair was told, and it goes on. -/
theorem pair_next {J : Inv (Int × Int)} {ys : List Int} {R' T' D : Nat → Prop} {Sq' : World → Prop} {N l hf : Nat} {hb : Array Value} {tb : Nat} {s : List Int} {Cj C' : Nat → Prop} {v v' : Value} {x z : Int} {zs rest : List Int} {X Y : World}
    (h : PairW J ys R' T' Sq' N l hf hb tb s Cj v (z :: zs) rest X) (hJ : Stb D J) (hDN : ∀ b, D b → b < N) (hT : ∀ b, T' b → R' b) (hR : ∀ b, R' b → b < N) (htN : tb < N) (hst : ∀ W W' A, Sq' W → Tn A W W' → (∀ b, R' b → ¬ A b) → Sq' W')
    (t : Tn Cj X Y) (hC : ∀ b, C' b → Cj b ∨ X.heap.size ≤ b) (hj : J (s.zip ys ++ [(x, z)]) C' Y) (hv : RdAt Y (N + 3) v' zs) (hvb : ∀ b, Rb v' zs b → Rb v (z :: zs) b) :
    PairW J ys R' T' Sq' N l hf hb tb (s ++ [x]) C' v' zs rest ((Y.setCell ⟨N + 1, 0, none⟩ (.int .i64 ((s.length : Int) + 1))).setCell ⟨N + 2, 0, none⟩ v') ∧ Tn (PairC T' N Cj v (z :: zs)) X ((Y.setCell ⟨N + 1, 0, none⟩ (.int .i64 ((s.length : Int) + 1))).setCell ⟨N + 2, 0, none⟩ v') ∧ ∀ b, PairC T' N C' v' zs b → PairC T' N Cj v (z :: zs) b ∨ X.heap.size ≤ b := by
  obtain ⟨h1, h2, h3, h4, h5, h6, h7, h8, h9, h10⟩ := h
  obtain ⟨z1, z2, z3⟩ := zip_more (x := x) h3
  have tS : Tn (fun b => b = N + 1 ∨ b = N + 2) Y ((Y.setCell ⟨N + 1, 0, none⟩ (.int .i64 ((s.length : Int) + 1))).setCell ⟨N + 2, 0, none⟩ v') := ((Tn.refl (fun b => b = N + 1 ∨ b = N + 2) Y).set (p := ⟨N + 1, 0, none⟩) (.inl (.inl rfl)) _).set (p := ⟨N + 2, 0, none⟩) (.inl (.inr rfl)) _
  have tA : Tn (fun b => b = N + 1) Y (Y.setCell ⟨N + 1, 0, none⟩ (.int .i64 ((s.length : Int) + 1))) := (Tn.refl (fun b => b = N + 1) Y).set (p := ⟨N + 1, 0, none⟩) (.inl rfl) _
  have tB : Tn (fun b => b = N + 2) (Y.setCell ⟨N + 1, 0, none⟩ (.int .i64 ((s.length : Int) + 1))) ((Y.setCell ⟨N + 1, 0, none⟩ (.int .i64 ((s.length : Int) + 1))).setCell ⟨N + 2, 0, none⟩ v') := (Tn.refl (fun b => b = N + 2) _).set (p := ⟨N + 2, 0, none⟩) (.inl rfl) _
  have n1 : ∀ b, b = N ∨ b = N + 1 ∨ b = N + 2 → ¬ Cj b := fun b hb => h10 b (.inr (.inl hb))
  have hRC : ∀ b, R' b → ¬ Cj b := fun b hb => h10 b (.inl (.inl hb))
  have htb : ¬ Cj tb := h10 _ (.inl (.inr rfl))
  have hlt : ∀ b, ((R' b ∨ b = tb) ∨ (b = N ∨ b = N + 1 ∨ b = N + 2) ∨ Rb v (z :: zs) b) → b < X.heap.size := by
    rintro b ((hb | rfl) | (rfl | rfl | rfl) | hb)
    · have := hR b hb; have := h6.lt; omega
    · have := h6.lt; omega
    · exact h6.lt
    · exact h7.lt
    · exact h8.lt
    · exact (h9.lt b hb).2
  have hX' : ∀ b, ((R' b ∨ b = tb) ∨ (b = N ∨ b = N + 1 ∨ b = N + 2) ∨ Rb v (z :: zs) b) → ¬ C' b := fun b hb hc => (hC b hc).elim (h10 b hb) (fun h => by have := hlt b hb; omega)
  have hcD : ∀ b, C' b ∨ D b → ¬ (b = N + 1 ∨ b = N + 2) := by
    rintro b (hb | hb) he
    · exact hX' b (.inr (.inl (.inr he))) hb
    · have := hDN b hb; omega
  have e1 : IsC ((Y.setCell ⟨N + 1, 0, none⟩ (.int .i64 ((s.length : Int) + 1))).setCell ⟨N + 2, 0, none⟩ v') (N + 1) #[.int .i64 (((s ++ [x]).length : Nat) : Int)] := by
    have h := ((h7.tn t (n1 _ (.inr (.inl rfl)))).set1 (u' := .int .i64 ((s.length : Int) + 1))).tn tB (by omega)
    simpa using h
  have e2 : IsC ((Y.setCell ⟨N + 1, 0, none⟩ (.int .i64 ((s.length : Int) + 1))).setCell ⟨N + 2, 0, none⟩ v') (N + 2) #[v'] := ((h8.tn t (n1 _ (.inr (.inr rfl)))).tn tA (by omega)).set1
  refine ⟨⟨by rw [z1]; exact hJ.2 _ _ _ _ _ hj tS hcD, by simp; omega, z3, hst _ _ _ (hst _ _ _ h4 t hRC) tS (fun b hb he => by have := hR b hb; omega), (h5.tn t htb).tn tS (by omega), (h6.tn t (n1 _ (.inl rfl))).tn tS (by omega), e1, e2, hv.tn tS (fun b hb he => ?_), fun b hb => ?_⟩, ?_, fun b hb => ?_⟩
  · have := (hv.lt b hb).1; omega
  · rcases hb with hb | hb | hb
    · exact hX' b (.inl hb)
    · exact hX' b (.inr (.inl hb))
    · exact hX' b (.inr (.inr (hvb b hb)))
  · exact (t.mono (B := PairC T' N Cj v (z :: zs)) (fun _ _ h => .inl h)).trans tS (fun b _ h => .inr (.inr (.inl (.inr h))))
  · rcases hb with hb | hb | hb | hb
    · exact (hC b hb).imp .inl id
    · exact .inl (.inr (.inl hb))
    · exact .inl (.inr (.inr (.inl hb)))
    · exact .inl (.inr (.inr (.inr (hvb b hb))))
/-- It was told to stop, or nothing is left. -/
theorem pair_stop {J Jx : Inv (Int × Int)} {L : List (Int × Int)} {ys : List Int} {R' T' : Nat → Prop} {Sq' : World → Prop} {N l hf : Nat} {hb : Array Value} {tb : Nat} {s s' : List Int} {Cj C' : Nat → Prop} {v : Value} {zs rest : List Int} {X Y : World}
    (h : PairW J ys R' T' Sq' N l hf hb tb s Cj v zs rest X) (hT : ∀ b, T' b → R' b) (hR : ∀ b, R' b → b < N) (hst : ∀ W W' A, Sq' W → Tn A W W' → (∀ b, R' b → ¬ A b) → Sq' W')
    (t : Tn Cj X Y) (hC : ∀ b, C' b → Cj b ∨ X.heap.size ≤ b) (hj : J L C' Y ∨ ∃ pre, pre <+: L ∧ Jx pre C' Y) :
    Tn (PairC T' N Cj v zs) X Y ∧ ∃ C2, (∀ b, C2 b → PairC T' N Cj v zs b ∨ X.heap.size ≤ b) ∧ PairX J Jx L T' Sq' N hf hb tb .ret s' C2 Y := by
  obtain ⟨h1, h2, h3, h4, h5, h6, h7, h8, h9, h10⟩ := h
  have hRC : ∀ b, R' b → ¬ Cj b := fun b hb => h10 b (.inl (.inl hb))
  have htb : ¬ Cj tb := h10 _ (.inl (.inr rfl))
  refine ⟨t.mono (fun _ _ h => .inl h), fun b => C' b ∨ T' b ∨ (b = N ∨ b = N + 1 ∨ b = N + 2), fun b hb => ?_, rfl, C', rfl, hj, hst _ _ _ h4 t hRC, h5.tn t htb, fun b hb hc => ?_, Nat.lt_of_lt_of_le h8.lt t.size⟩
  · rcases hb with hb | hb | hb
    · exact (hC b hb).imp .inl id
    · exact .inl (.inr (.inl hb))
    · exact .inl (.inr (.inr (.inl hb)))
  · have hb' : b < X.heap.size := by
      rcases hb with hb | rfl | rfl | rfl
      · have := hR b (hT b hb); have := h6.lt; omega
      · exact h6.lt
      · exact h7.lt
      · exact h8.lt
    rcases hC b hc with h | h
    · rcases hb with hb | hb
      · exact h10 b (.inl (.inl (hT b hb))) h
      · exact h10 b (.inr (.inl hb)) h
    · omega
theorem zip_pre {s xs ys : List Int} (h : s <+: xs) : s.zip ys <+: xs.zip ys := by
  obtain ⟨t, rfl⟩ := h
  induction s generalizing ys with
  | nil => exact List.nil_prefix
  | cons a s ih =>
    cases ys with
    | nil => exact List.nil_prefix
    | cons y ys => simpa using ih

/-- All but the first. -/
theorem slice_tail (g o n c : Nat) (hc : n + 1 ≤ c) : ∃ na : Option Addr, (n = 0 ∨ na = some ⟨g, o + 1, none⟩ ∧ n ≤ c - 1) ∧ ∀ w, (Instr.sliceAt 47 (.slice (some ⟨g, o, none⟩) (n + 1) c) (some (.int .i64 1)) none none).run Try.prog w = .ok (.slice na n (c - 1)) w := by
  refine ⟨if c = 1 then some ⟨g, o, none⟩ else some ⟨g, o + 1, none⟩, ?_, fun w => ?_⟩
  · by_cases h : c = 1
    · exact .inl (by omega)
    · exact .inr ⟨by rw [if_neg h], by omega⟩
  · have h1 : (1 : Int) ≤ ((n + 1 : Nat) : Int) := by omega
    have hu : Try.prog.underlying 47 = some (.slice (Try.prog.elem 47)) := by kernel_rfl
    rw [run_sliceAt_slice w 47 _ _ _ _ hu, run_slice_l w 47 _ _ _ hu .i64 1 (by omega) h1]
    by_cases h : c = 1
    · subst h
      simp [go_sem]
    · simp [go_sem, h, Addr.add]

end Go.Proofs.Ytjkgjckkglfokaa
