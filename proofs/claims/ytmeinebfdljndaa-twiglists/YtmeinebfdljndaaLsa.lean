/- Lists on both sides, each as one contract. -/
import Derived.Test.YtmeinebfdljndaaCas
namespace Go.Proofs.Ytmeinebfdljndaa
open Go.RowKit
set_option linter.unusedVariables false

/-- What is wrong with a pattern and a list. -/
def lsE (n : Nat) (t : TP n) (N : List Pl) (q : Bool) : Int := if chkT n t ≠ 0 then chkT n t else wrE [N] q
theorem lsE_chk {n : Nat} {t : TP n} {N : List Pl} {q : Bool} (h : lsE n t N q = 0) : chkT n t = 0 ∧ wrE [N] q = 0 := by
  unfold lsE at h
  by_cases h1 : chkT n t ≠ 0
  · rw [if_pos h1] at h
    exact absurd h h1
  · rw [if_neg h1] at h
    exact ⟨Decidable.not_not.1 h1, h⟩
theorem lsE_cases {n : Nat} {t : TP n} {N : List Pl} {q : Bool} : (chkT n t ≠ 0 ∧ lsE n t N q = chkT n t) ∨ (chkT n t = 0 ∧ wrE [N] q = lsE n t N q) := by
  unfold lsE
  by_cases h1 : chkT n t ≠ 0
  · exact .inl ⟨h1, if_pos h1⟩
  · exact .inr ⟨Decidable.not_not.1 h1, (if_neg h1).symm⟩
/-- What Lists leaves: a fault, a panic, or the lists. -/
def LsO (n : Nat) (t : TP n) (N : List Pl) (C : List ByteArray) (pan : Int) (q : Bool) (fa : Option Addr) (fl : Nat) (y c : Int) (w' : World) : Prop :=
  (lsE n t N q ≠ 0 ∧ y = lsE n t N q ∧ fl = 0) ∨ (lsE n t N q = 0 ∧ y = 9 ∧ fl = 0 ∧ 1 ≤ pan ∧ pan ≤ N.length ∧ c = pan) ∨ (lsE n t N q = 0 ∧ y = 0 ∧ ¬ (1 ≤ pan ∧ pan ≤ N.length) ∧ c = N.length ∧ fl = (plA n t).length ∧ LlAt w' fa (LLf (plA n t) N C))
theorem lists_all {n : Nat} (w : World) {nm : ByteArray} {dr : Bool} {ka : Option Addr} {kl kc : Nat} {t : TP n} (h : TwAt w w.heap.size n #[.string nm, .bool dr, .slice ka kl kc] t) {ad : Addr} {lc : Nat} {N : List Pl} (hN : PlsAt w w.heap.size (some ad) N) (hc : N.length ≤ lc) (hv : ∀ x ∈ N, Lvl x.s) (q : Bool) (hq : q = true ↔ (sps N).Pairwise Ok)
    {cb gb pb nb clb lb0 : Nat} {C : List ByteArray} {pan : Int} {na : Option Addr} {nc : Nat} {ca : Option Addr} {cc : Nat} (hE : NmI w.heap.size cb gb lb0 pb nb clb N C pan na nc ca cc 0 w) (hC : C.length = N.length) :
    Calls Try.prog 6 #[.agg #[.string nm, .bool dr, .slice ka kl kc], .slice (some ad) N.length lc, .func (.func 8) #[] #[.pointer (some ⟨cb, 0, none⟩), .pointer (some ⟨pb, 0, none⟩), .pointer (some ⟨gb, 0, none⟩), .pointer (some ⟨nb, 0, none⟩), .pointer (some ⟨clb, 0, none⟩)]] w fun e w' => ∃ fa fl fc y c, e = .returned (.tuple #[.slice fa fl fc, .int .i64 y]) ∧ LsO n t N C pan q fa fl y c w' ∧ IsCells w' cb #[.int .i64 c] ∧ IsCells w' gb #[.bool true] ∧ Tn (fun b => b = cb ∨ b = gb) w w' := by
  by_cases h0 : lsE n t N q = 0
  · obtain ⟨hk, hy⟩ := lsE_chk h0
    refine lists_run w h hN hc hv q hq hk hy hE hC _ ?_ ?_
    · intro k w' h1 h2 h3 h4 h5
      exact ⟨none, 0, 0, 9, (k : Int) + 1, rfl, .inr (.inl ⟨h0, rfl, rfl, by omega, by omega, h1⟩), h3, h4, h5⟩
    · intro a c w' h1 h2 h3 h4 h5
      refine ⟨a, _, c, 0, _, rfl, .inr (.inr ⟨h0, rfl, fun ⟨p1, p2⟩ => h1 (pan - 1).toNat (by omega) (by omega), rfl, rfl, h2⟩), h3, h4, h5⟩
  · have key : ∀ (e : Ending) (w' : World), (e = .returned (.tuple #[.slice none 0 0, .int .i64 (lsE n t N q)]) ∧ Below w.heap.size w w') → ∃ fa fl fc y c, e = .returned (.tuple #[.slice fa fl fc, .int .i64 y]) ∧ LsO n t N C pan q fa fl y c w' ∧ IsCells w' cb #[.int .i64 c] ∧ IsCells w' gb #[.bool true] ∧ Tn (fun b => b = cb ∨ b = gb) w w' := by
      rintro e w' ⟨rfl, hb⟩
      exact ⟨none, 0, 0, _, _, rfl, .inl ⟨h0, rfl, rfl⟩, hE.c.of_block (hb.block _ hE.c.lt), hE.g.of_block (hb.block _ hE.g.lt), Tn.of_below hb (Nat.le_refl _)⟩
    rcases lsE_cases (n := n) (t := t) (N := N) (q := q) with ⟨h1, h2⟩ | ⟨h1, h2⟩
    · exact (lists_first w h _ _ ⟨_, _, _, rfl⟩ (.inr ⟨_, rfl⟩) _ (.inl ⟨h1, h2⟩)).mono key
    · exact (lists_wrong w h hN hc hv _ q hq h1 _ h2 h0).mono key
theorem rlists_all {n : Nat} (w : World) {nm : ByteArray} {dr : Bool} {ka : Option Addr} {kl kc : Nat} {t : TP n} (h : TwAt w w.heap.size n #[.string nm, .bool dr, .slice ka kl kc] t) {la : Option Addr} {lc : Nat} {N : List Pl} (hN : PlsAt w w.heap.size la N) (hc : N.length ≤ lc) (hNm : N.length ≤ 1152921504606846976) (hv : ∀ x ∈ N, Lvl x.s) {ca : Option Addr} {cc : Nat} {C : List ByteArray} (hC : StA w ca C) (hCl : C.length = N.length) (q : Bool) (hq : q = true ↔ (sps N).Pairwise Ok) :
    Calls Try.prog 9 #[.agg #[.string nm, .bool dr, .slice ka kl kc], .slice la N.length lc, .slice ca C.length cc] w fun e w' => ∃ ga gl gc, e = .returned (.tuple #[.slice ga gl gc, .int .i64 (lsE n t N q)]) ∧ (lsE n t N q ≠ 0 → gl = 0) ∧ (lsE n t N q = 0 → gl = (plA n t).length ∧ LlAt w' ga (LLf (plA n t) N C)) ∧ Below w.heap.size w w' := by
  by_cases h0 : lsE n t N q = 0
  · obtain ⟨hk, hy⟩ := lsE_chk h0
    refine (rlists_ok w h hN hc hv hC hCl q hq hk hy _ rfl).mono ?_
    rintro e w' ⟨a, c, rfl, h1, h2⟩
    exact ⟨a, _, c, by rw [h0], fun h => absurd h0 h, fun _ => ⟨rfl, h1⟩, h2⟩
  · refine (rlists_err w h hN hc hNm hv ca _ cc q hq _ lsE_cases h0).mono ?_
    rintro e w' ⟨rfl, hb⟩
    exact ⟨none, 0, 0, rfl, fun _ => rfl, fun h => absurd h h0, hb⟩
/-- Lists where no function is handed in. -/
theorem lists_nil {n : Nat} (w : World) {nm : ByteArray} {dr : Bool} {ka : Option Addr} {kl kc : Nat} {t : TP n} (h : TwAt w w.heap.size n #[.string nm, .bool dr, .slice ka kl kc] t) (a : Option Addr) (m c : Nat) :
    Calls Try.prog 6 #[.agg #[.string nm, .bool dr, .slice ka kl kc], .slice a m c, .nilFunc] w fun e w' => ∃ z, e = .returned (.tuple #[.slice none 0 0, .int .i64 z]) ∧ (chkT n t = 0 → z = 1) ∧ Below w.heap.size w w' := by
  by_cases h0 : chkT n t = 0
  · refine (lists_first w h _ .nilFunc ⟨_, _, _, rfl⟩ (.inl rfl) 1 (.inr ⟨h0, rfl, rfl⟩)).mono ?_
    rintro e w' ⟨rfl, hb⟩
    exact ⟨1, rfl, fun _ => rfl, hb⟩
  · refine (lists_first w h _ .nilFunc ⟨_, _, _, rfl⟩ (.inl rfl) _ (.inl ⟨h0, rfl⟩)).mono ?_
    rintro e w' ⟨rfl, hb⟩
    exact ⟨_, rfl, fun h => absurd h h0, hb⟩

end Go.Proofs.Ytmeinebfdljndaa
