/- What Pairs holds ready: numbers in a row, from some place on. -/
import Derived.Test.YtjkgjckkglfokaaStr
import Derived.Test.YtjkgjckkglfokaaThen2
import Derived.Test.YtjkgjckkglfokaaNil2
namespace Go.Proofs.Ytjkgjckkglfokaa
open Go.RowKit Go.Shelf
set_option linter.unusedVariables false

/-- A slice of these numbers; where there are none, nothing of its row is said. -/
def RdAt (X : World) (N : Nat) (v : Value) (zs : List Int) : Prop :=
  (zs = [] ∧ ∃ a c, v = .slice a 0 c) ∨ ∃ g o c cs, v = .slice (some ⟨g, o, none⟩) zs.length c ∧ N ≤ g ∧ 0 < zs.length ∧ zs.length ≤ c ∧ IsC X g cs ∧ ∀ i z, zs[i]? = some z → cs[o + i]? = some (.int .i64 z)
/-- The block of them. -/
def Rb (v : Value) (zs : List Int) (b : Nat) : Prop := zs ≠ [] ∧ v.ownBlock = some b

theorem RdAt.nil (X : World) (N : Nat) (a : Option Addr) (c : Nat) : RdAt X N (.slice a 0 c) [] := .inl ⟨rfl, a, c, rfl⟩
theorem RdAt.tn {A : Nat → Prop} {X Y : World} {N : Nat} {v : Value} {zs : List Int} (h : RdAt X N v zs) (ht : Tn A X Y) (hA : ∀ b, Rb v zs b → ¬ A b) : RdAt Y N v zs := by
  rcases h with h | ⟨g, o, c, cs, rfl, h1, h2, h3, h4, h5⟩
  · exact .inl h
  · exact .inr ⟨g, o, c, cs, rfl, h1, h2, h3, h4.tn ht (hA g ⟨by rintro rfl; simp at h2, rfl⟩), h5⟩
theorem RdAt.lt {X : World} {N : Nat} {v : Value} {zs : List Int} (h : RdAt X N v zs) : ∀ b, Rb v zs b → N ≤ b ∧ b < X.heap.size := by
  rintro b ⟨hz, hb⟩
  rcases h with h | ⟨g, o, c, cs, rfl, h1, h2, h3, h4, h5⟩
  · exact absurd h.1 hz
  · simp only [Value.ownBlock, Option.some.injEq] at hb
    subst hb
    exact ⟨h1, h4.lt⟩
theorem RdAt.own {X : World} {N : Nat} {a : Option Addr} {c : Nat} {zs : List Int} (h : X.ownsRow N 3 1 (.slice a zs.length c) zs.length (ivs zs)) : RdAt X N (.slice a zs.length c) zs := by
  rcases h.2 with ⟨_, h1⟩ | ⟨g, c, cur, he, hb, hh, hc, -, hsz, ht⟩
  · have : zs = [] := List.length_eq_zero_iff.1 h1
    subst this
    exact .nil _ _ _ _
  · by_cases h0 : zs = []
    · subst h0
      exact .nil _ _ _ _
    · rw [he]
      refine .inr ⟨g, 0, c, cur, rfl, hb, List.length_pos_iff.2 h0, hc, ⟨_, hh⟩, fun i z hz => ?_⟩
      have hi : i < zs.length := (List.getElem?_eq_some_iff.1 hz).1
      have := congrArg (fun l => l[i]?) ht
      rw [Nat.mul_one] at this
      have hz' : zs[i] = z := (List.getElem?_eq_some_iff.1 hz).2
      simpa [List.getElem?_take, hi, ivs, hz'] using this
theorem RdAt.head {X : World} {N : Nat} {v : Value} {z : Int} {zs : List Int} (h : RdAt X N v (z :: zs)) :
    ∃ g o c, v = .slice (some ⟨g, o, none⟩) (zs.length + 1) c ∧ X.cell? ⟨g, o, none⟩ = some (.int .i64 z) ∧ zs.length + 1 ≤ c ∧ N ≤ g ∧ g < X.heap.size ∧ (∀ (a : Option Addr) (c' : Nat), zs = [] ∨ a = some ⟨g, o + 1, none⟩ ∧ zs.length ≤ c' → RdAt X N (.slice a zs.length c') zs) := by
  rcases h with h | ⟨g, o, c, cs, rfl, h1, h2, h3, h4, h5⟩
  · cases h.1
  · refine ⟨g, o, c, by simp, (h4.cell o).trans (h5 0 z rfl), by simpa using h3, h1, h4.lt, fun a c' h => ?_⟩
    rcases h with rfl | ⟨rfl, hc⟩
    · exact .nil _ _ _ _
    · by_cases h0 : zs = []
      · subst h0
        exact .nil _ _ _ _
      · refine .inr ⟨g, o + 1, c', cs, rfl, h1, List.length_pos_iff.2 h0, hc, h4, fun i z' hz => ?_⟩
        have := h5 (i + 1) z' (by simpa using hz)
        rwa [show o + 1 + i = o + (i + 1) by omega]

/-- Pairs under way: what was told of both, how many, what is ready. -/
def PairI (J : Inv (Int × Int)) (ys : List Int) (R' T' : Nat → Prop) (Sq' : World → Prop) (N l hf : Nat) (hb : Array Value) (tb : Nat) : Inv Int := fun s C X =>
  ∃ Cj v zs rest, C = (fun b => Cj b ∨ T' b ∨ (b = N ∨ b = N + 1 ∨ b = N + 2) ∨ Rb v zs b) ∧ J (s.zip ys) Cj X ∧ s.length ≤ ys.length ∧ ys.drop s.length = zs ++ rest ∧ Sq' X ∧ IsC X tb #[.func (.func hf) #[] hb] ∧
    IsC X N #[.func (.yield l) #[] #[]] ∧ IsC X (N + 1) #[.int .i64 (s.length : Int)] ∧ IsC X (N + 2) #[v] ∧ RdAt X (N + 3) v zs ∧ ∀ b, (R' b ∨ b = tb) ∨ (b = N ∨ b = N + 1 ∨ b = N + 2) ∨ Rb v zs b → ¬ Cj b
theorem PairI.stb {J : Inv (Int × Int)} {ys : List Int} {R' T' : Nat → Prop} {Sq' : World → Prop} {N l hf : Nat} {hb : Array Value} {tb : Nat} {D : Nat → Prop} (hJ : Stb D J) (hT : ∀ b, T' b → R' b) (hlt : ∀ W, Sq' W → ∀ b, R' b → b < W.heap.size) (hst : ∀ W W' A, Sq' W → Tn A W W' → (∀ b, R' b → ¬ A b) → Sq' W') :
    Stb (fun b => D b ∨ R' b ∨ b = tb) (PairI J ys R' T' Sq' N l hf hb tb) := by
  refine ⟨?_, ?_⟩
  · rintro s C X ⟨Cj, v, zs, rest, rfl, h1, h2, h3, h4, h5, h6, h7, h8, h9, h10⟩ b hb
    rcases hb with (hb | hb | (rfl | rfl | rfl) | hb) | hb | hb | rfl
    · exact hJ.1 _ _ _ h1 b (.inl hb)
    · exact hlt _ h4 b (hT b hb)
    · exact h6.lt
    · exact h7.lt
    · exact h8.lt
    · exact (h9.lt b hb).2
    · exact hJ.1 _ _ _ h1 b (.inr hb)
    · exact hlt _ h4 b hb
    · exact h5.lt
  · rintro s C A X Y ⟨Cj, v, zs, rest, rfl, h1, h2, h3, h4, h5, h6, h7, h8, h9, h10⟩ ht hA
    refine ⟨Cj, v, zs, rest, rfl, hJ.2 _ _ _ _ _ h1 ht (fun b hb => hA b (hb.elim (fun h => .inl (.inl h)) (fun h => .inr (.inl h)))), h2, h3, hst _ _ _ h4 ht (fun b hb => hA b (.inr (.inr (.inl hb)))), h5.tn ht (hA _ (.inr (.inr (.inr rfl)))), h6.tn ht (hA _ (.inl (.inr (.inr (.inl (.inl rfl)))))), h7.tn ht (hA _ (.inl (.inr (.inr (.inl (.inr (.inl rfl))))))), h8.tn ht (hA _ (.inl (.inr (.inr (.inl (.inr (.inr rfl))))))), h9.tn ht (fun b hb => hA b (.inl (.inr (.inr (.inr hb))))), h10⟩
/-- What was told of both, one more. -/
theorem zip_more {s ys zs rest : List Int} {x z : Int} (h : ys.drop s.length = z :: zs ++ rest) : (s ++ [x]).zip ys = s.zip ys ++ [(x, z)] ∧ s.length < ys.length ∧ ys.drop (s ++ [x]).length = zs ++ rest := by
  have hl : s.length < ys.length := by
    have := congrArg List.length h
    simp at this
    omega
  have e : ys = ys.take s.length ++ z :: (zs ++ rest) := by
    conv => lhs; rw [← List.take_append_drop s.length ys, h]
    simp
  have ht : (ys.take s.length).length = s.length := by simp; omega
  refine ⟨?_, hl, ?_⟩
  · generalize ys.take s.length = p at e ht
    subst e
    have h1 : (s ++ [x]).zip (p ++ z :: (zs ++ rest)) = s.zip p ++ [(x, z)] := by rw [List.zip_append ht.symm]; rfl
    have h2 : (s ++ []).zip (p ++ z :: (zs ++ rest)) = s.zip p := by rw [List.zip_append ht.symm]; simp
    rw [List.append_nil] at h2
    rw [h1, h2]
  · rw [show (s ++ [x]).length = s.length + 1 by simp, ← List.drop_drop, h]
    simp
theorem zip_all {s xs ys : List Int} (hs : s <+: xs) (h : ys.drop s.length = []) : s.zip ys = xs.zip ys := by
  obtain ⟨t, rfl⟩ := hs
  have hl : ys.length ≤ s.length := List.drop_eq_nil_iff.1 h
  apply List.ext_getElem?
  intro i
  simp only [List.zip, List.getElem?_zipWith]
  by_cases hi : i < s.length
  · rw [List.getElem?_append_left hi]
  · rw [List.getElem?_eq_none (l := ys) (by omega)]
    cases s[i]? <;> cases (s ++ t)[i]? <;> rfl

/-- Pairs told to stop, or one of both through. -/
def PairX (J Jx : Inv (Int × Int)) (L : List (Int × Int)) (T' : Nat → Prop) (Sq' : World → Prop) (N hf : Nat) (hb : Array Value) (tb : Nat) (c : Code) : Inv Int := fun s C X =>
  c = .ret ∧ ∃ Cj, C = (fun b => Cj b ∨ T' b ∨ (b = N ∨ b = N + 1 ∨ b = N + 2)) ∧ (J L Cj X ∨ ∃ pre, pre <+: L ∧ Jx pre Cj X) ∧ Sq' X ∧ IsC X tb #[.func (.func hf) #[] hb] ∧ (∀ b, T' b ∨ (b = N ∨ b = N + 1 ∨ b = N + 2) → ¬ Cj b) ∧ N + 2 < X.heap.size
theorem PairX.stb {J Jx : Inv (Int × Int)} {L : List (Int × Int)} {R' T' : Nat → Prop} {Sq' : World → Prop} {N hf : Nat} {hb : Array Value} {tb : Nat} {D : Nat → Prop} {c : Code} (hJ : Stb D J) (hJx : Stb D Jx) (hT : ∀ b, T' b → R' b) (hlt : ∀ W, Sq' W → ∀ b, R' b → b < W.heap.size) (hst : ∀ W W' A, Sq' W → Tn A W W' → (∀ b, R' b → ¬ A b) → Sq' W') :
    Stb (fun b => D b ∨ R' b ∨ b = tb) (PairX J Jx L T' Sq' N hf hb tb c) := by
  refine ⟨?_, ?_⟩
  · rintro s C X ⟨-, Cj, rfl, h1, h4, h5, h6, h7⟩ b hb
    have hj : ∀ b, Cj b ∨ D b → b < X.heap.size := by
      rcases h1 with h1 | ⟨pre, -, h1⟩
      · exact hJ.1 _ _ _ h1
      · exact hJx.1 _ _ _ h1
    rcases hb with (hb | hb | (rfl | rfl | rfl)) | hb | hb | rfl
    · exact hj b (.inl hb)
    · exact hlt _ h4 b (hT b hb)
    · omega
    · omega
    · omega
    · exact hj b (.inr hb)
    · exact hlt _ h4 b hb
    · exact h5.lt
  · rintro s C A X Y ⟨rfl, Cj, rfl, h1, h4, h5, h6, h7⟩ ht hA
    have hj : ∀ b, Cj b ∨ D b → ¬ A b := fun b hb => hA b (hb.elim (fun h => .inl (.inl h)) (fun h => .inr (.inl h)))
    refine ⟨rfl, Cj, rfl, ?_, hst _ _ _ h4 ht (fun b hb => hA b (.inr (.inr (.inl hb)))), h5.tn ht (hA _ (.inr (.inr (.inr rfl)))), h6, Nat.lt_of_lt_of_le h7 ht.size⟩
    rcases h1 with h1 | ⟨pre, hp, h1⟩
    · exact .inl (hJ.2 _ _ _ _ _ h1 ht hj)
    · exact .inr ⟨pre, hp, hJx.2 _ _ _ _ _ h1 ht hj⟩
/-- At the end: the boxes are given up. -/
theorem pair_done {R R' T T' C0 D : Nat → Prop} {W W0 X : World} {J : Inv (Int × Int)} {s : List (Int × Int)} {Cj : Nat → Prop} (t0 : Tn (fun _ => False) W W0) (tX : Tn (fun b => T b ∨ (C0 b ∨ T' b ∨ (b = W.heap.size ∨ b = W.heap.size + 1 ∨ b = W.heap.size + 2))) W0 X) (hz : W.heap.size + 2 < W0.heap.size) (stJ : Stb D J) (hDl : ∀ b, D b → b < W.heap.size) (hJ : J s Cj X) (hC : ∀ b, Cj b → (C0 b ∨ T' b ∨ (b = W.heap.size ∨ b = W.heap.size + 1 ∨ b = W.heap.size + 2)) ∨ W0.heap.size ≤ b) (hT : ∀ b, T' b → ¬ Cj b) (hB : ∀ b, (b = W.heap.size ∨ b = W.heap.size + 1 ∨ b = W.heap.size + 2) → ¬ Cj b) (nD : ¬ Cj W0.heap.size) (o : Obj) :
    Tn (fun b => (T b ∨ T' b) ∨ C0 b) W (X.putObj W0.heap.size o) ∧ (∀ b, Cj b → C0 b ∨ W.heap.size ≤ b) ∧ J s Cj (X.putObj W0.heap.size o) := by
  refine ⟨((t0.mono (fun _ _ h => h.elim)).trans tX (fun i hi h => ?_)).trans (Tn.put _ _ _) (fun i hi (e : i = W0.heap.size) => by omega), fun b hb => ?_, stJ.2 _ _ _ _ _ hJ (Tn.put _ _ _) (fun b hb (e : b = W0.heap.size) => hb.elim (fun hb => nD (e ▸ hb)) (fun hb => by have := hDl b hb; omega))⟩
  · rcases h with h | h | h | h
    · exact .inl (.inl h)
    · exact .inr h
    · exact .inl (.inr h)
    · omega
  · rcases hC b hb with (h | h | h) | h
    · exact .inl h
    · exact absurd hb (hT b h)
    · exact absurd hb (hB b h)
    · exact .inr (by omega)

end Go.Proofs.Ytjkgjckkglfokaa
