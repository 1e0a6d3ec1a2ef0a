/- The law WalkLinks: what stands between its parts. -/
import Derived.Test.YtjkgjckkglfokaaLka
import Derived.Test.YtjkgjckkglfokaaNum
namespace Go.Proofs.Ytjkgjckkglfokaa
open Go.RowKit Go.Shelf
set_option linter.unusedVariables false

/-- A link, as data. -/
structure Lk where
  kd : Int
  ag : Int
  ms : List Int
  nl : Bool
/-- Links in memory, below N. -/
def LksAt (W : World) (N : Nat) (ca : Option Addr) (Ls : List Lk) : Prop :=
  ∀ i k, Ls[i]? = some k → ∃ g o ma mc Km, ca = some ⟨g, o, none⟩ ∧ g < N ∧ W.cell? ⟨g, o + i * 4, none⟩ = some (.int .i64 k.kd) ∧ W.cell? ⟨g, o + i * 4 + 1, none⟩ = some (.int .i64 k.ag) ∧ W.cell? ⟨g, o + i * 4 + 2, none⟩ = some (.slice ma k.ms.length mc) ∧ W.cell? ⟨g, o + i * 4 + 3, none⟩ = some (.bool k.nl) ∧
    NumsAt W Km ma k.ms ∧ (∀ b, Km b → b < N) ∧ k.ms.length ≤ 1048576 ∧ k.ag < 9223372036854775808
theorem LksAt.below {W W' : World} {N : Nat} {ca : Option Addr} {Ls : List Lk} (h : LksAt W N ca Ls) (hb : Below N W W') : LksAt W' N ca Ls := by
  intro i k hk
  obtain ⟨g, o, ma, mc, Km, h1, h2, h3, h4, h5, h6, h7, h8, h9⟩ := h i k hk
  have e : ∀ b o', b < N → W'.cell? ⟨b, o', none⟩ = W.cell? ⟨b, o', none⟩ := fun b o' hb' => hb.cell (p := ⟨b, o', none⟩) hb'
  refine ⟨g, o, ma, mc, Km, h1, h2, (e _ _ h2).trans h3, (e _ _ h2).trans h4, (e _ _ h2).trans h5, (e _ _ h2).trans h6, fun j x hx => ?_, h8, h9⟩
  obtain ⟨g', o', q1, q2, q3, q4⟩ := h7 j x hx
  exact ⟨g', o', q1, q2, Nat.lt_of_lt_of_le q3 hb.size, (e _ _ (h8 _ q2)).trans q4⟩

/-- Where the law is: the iterator and its list. -/
structure Lw (W : World) (most : Int) (oa : Option Addr) (oc : Nat) (os xs : List Int) (gf : Nat) (lb : Array Value) (R T : Nat → Prop) (Sq : World → Prop) (a : Option Addr) (c : Nat) (K : Nat → Prop) (wr : World) : Prop where
  eg : ∀ args w, (callFunc gf args).run Try.prog w = .ok (.enter gf args) w
  seq : IsSeq Try.prog gf lb encI xs R T Sq
  sq : Sq wr
  mb : IsC wr W.heap.size #[.int .i64 most]
  ob : IsC wr (W.heap.size + 1) #[.slice oa os.length oc]
  rb : IsC wr (W.heap.size + 2) #[.bool false]
  wb : IsC wr (W.heap.size + 6) #[.slice a xs.length c]
  nums : NumsAt wr K a xs
  hK : ∀ b, K b → ¬ T b ∧ b < wr.heap.size ∧ (b < W.heap.size ∨ W.heap.size + 7 ≤ b)
  hT : ∀ b, T b → b = W.heap.size + 3 ∨ W.heap.size + 7 ≤ b
  hR : ∀ b, R b → b < W.heap.size ∨ b = W.heap.size + 3 ∨ b = W.heap.size + 4 ∨ b = W.heap.size + 5 ∨ W.heap.size + 7 ≤ b
  bel : Below W.heap.size W wr
  sz : W.heap.size + 7 ≤ wr.heap.size
theorem Lw.tn {W : World} {most : Int} {oa : Option Addr} {oc : Nat} {os xs : List Int} {gf : Nat} {lb : Array Value} {R T : Nat → Prop} {Sq : World → Prop} {a : Option Addr} {c : Nat} {K : Nat → Prop} {wr Y : World} (h : Lw W most oa oc os xs gf lb R T Sq a c K wr) (t : Tn T wr Y) (q : Sq Y) : Lw W most oa oc os xs gf lb R T Sq a c K Y := by
  have n : ∀ j, j ≠ 3 → j ≤ 6 → ¬ T (W.heap.size + j) := fun j h3 h6 hT => by have := h.hT _ hT; omega
  have hs := h.sz
  exact ⟨h.eg, h.seq, q, h.mb.tn t (n 0 (by omega) (by omega)), h.ob.tn t (n 1 (by omega) (by omega)), h.rb.tn t (n 2 (by omega) (by omega)), h.wb.tn t (n 6 (by omega) (by omega)), h.nums.tn t (fun b hb => (h.hK b hb).1), fun b hb => ⟨(h.hK b hb).1, Nat.lt_of_lt_of_le (h.hK b hb).2.1 t.size, (h.hK b hb).2.2⟩, h.hT, h.hR, h.bel.trans (t.below (by omega) (fun k hk => by have := h.hT k hk; omega)), Nat.le_trans hs t.size⟩
theorem Lw.no {W : World} {most : Int} {oa : Option Addr} {oc : Nat} {os xs : List Int} {gf : Nat} {lb : Array Value} {R T : Nat → Prop} {Sq : World → Prop} {a : Option Addr} {c : Nat} {K : Nat → Prop} {wr Y : World} (h : Lw W most oa oc os xs gf lb R T Sq a c K wr) (t : Tn (fun _ => False) wr Y) : Lw W most oa oc os xs gf lb R T Sq a c K Y :=
  h.tn (t.mono (fun _ _ h => h.elim)) (h.seq.stab _ _ _ h.sq t (fun _ _ h => h))
/-- Some iterator and its list. -/
def LwE (W : World) (most : Int) (oa : Option Addr) (oc : Nat) (os xs : List Int) (fv sv : Value) (wr : World) : Prop :=
  ∃ gf lb R T Sq a c K, fv = .func (.func gf) #[] lb ∧ sv = .slice a xs.length c ∧ Lw W most oa oc os xs gf lb R T Sq a c K wr ∧ IsC wr (W.heap.size + 3) #[.int .i64 0]
/-- A link more. -/
theorem lw_step {W : World} {most : Int} {oa : Option Addr} {oc : Nat} {os xs xs' : List Int} {gf : Nat} {lb : Array Value} {R T : Nat → Prop} {Sq : World → Prop} {a : Option Addr} {c : Nat} {K : Nat → Prop} {wr Y : World} {e : Ending} (h : Lw W most oa oc os xs gf lb R T Sq a c K wr) (h0 : IsC wr (W.heap.size + 3) #[.int .i64 0]) (hp : LinkP W.heap.size wr R T K xs' e Y) :
    ∃ fv a' c', e = .returned (.tuple #[fv, .slice a' xs'.length c']) ∧ Tn (fun _ => False) wr Y ∧ (∃ gf lb, fv = .func (.func gf) #[] lb) ∧ Hid (LwE W most oa oc os xs' fv (.slice a' xs'.length c') (Y.setCell ⟨W.heap.size + 6, 0, none⟩ (.slice a' xs'.length c'))) := by
  obtain ⟨gf', lb', R', T', Sq', a', c', K', rfl, eg', sq', q', nu', hK', hT', tY, hR'⟩ := hp
  have hs := h.sz
  have hz := tY.size
  have tS : Tn (fun b => b = W.heap.size + 6) Y (Y.setCell ⟨W.heap.size + 6, 0, none⟩ (.slice a' xs'.length c')) := (Tn.refl (fun b => b = W.heap.size + 6) Y).set (p := ⟨W.heap.size + 6, 0, none⟩) (.inl rfl) _
  have hRR : ∀ b, R' b → b < W.heap.size ∨ b = W.heap.size + 3 ∨ b = W.heap.size + 4 ∨ b = W.heap.size + 5 ∨ W.heap.size + 7 ≤ b := fun b hb => by
    rcases hR' b hb with h1 | h1 | h1
    · exact h.hR b h1
    · omega
    · omega
  have hKK : ∀ b, K' b → b < W.heap.size ∨ W.heap.size + 7 ≤ b := fun b hb => by
    rcases (hK' b hb).2.2 with h1 | h1
    · exact (h.hK b h1).2.2
    · omega
  have w6 : IsC (Y.setCell ⟨W.heap.size + 6, 0, none⟩ (.slice a' xs'.length c')) (W.heap.size + 6) #[.slice a' xs'.length c'] := by
    obtain ⟨t, ht⟩ := h.wb.tn tY id
    refine ⟨t, ?_⟩
    simp [World.setCell, Array.getElem?_modify, ht]
  refine ⟨_, a', c', rfl, tY, ⟨_, _, rfl⟩, gf', lb', R', T', Sq', a', c', K', rfl, rfl, ?_, (h0.tn tY id).tn tS (by omega)⟩
  exact ⟨eg', sq', sq'.stab _ _ _ q' tS (fun b hb (e : b = W.heap.size + 6) => by have := hRR b hb; omega), (h.mb.tn tY id).tn tS (by omega), (h.ob.tn tY id).tn tS (by omega), (h.rb.tn tY id).tn tS (by omega), w6, nu'.tn tS (fun b hb (e : b = W.heap.size + 6) => by have := hKK b hb; omega), fun b hb => ⟨(hK' b hb).1, Nat.lt_of_lt_of_le (hK' b hb).2.1 tS.size, hKK b hb⟩, fun b hb => by
      rcases hT' b hb with h1 | h1
      · exact h.hT b h1
      · omega, hRR, (h.bel.trans (tY.below (by omega) (fun _ h => h.elim))).trans (tS.below (by omega) (fun k (e : k = W.heap.size + 6) => by omega)), Nat.le_trans hs (Nat.le_trans tY.size tS.size)⟩

end Go.Proofs.Ytjkgjckkglfokaa
