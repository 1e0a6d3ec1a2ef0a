/- The law's own function where it panics; names by node, in plain. -/
import Derived.Test.YtmeinebfdljndaaAsk
namespace Go.Proofs.Ytmeinebfdljndaa
open Go.RowKit Go.Shelf
set_option linter.unusedVariables false
attribute [local go_sem] Oper.semAt_some

set_option maxRecDepth 100000 in
set_option maxHeartbeats 4000000 in
theorem ask_panics {B cb gb lb pb nb clb : Nat} {N : List Pl} {C : List ByteArray} {pan : Int} {na : Option Addr} {nc : Nat} {ca : Option Addr} {cc : Nat} {k : Nat} (w : World) (h : NmI B cb gb lb pb nb clb N C pan na nc ca cc k w) (hd : Int) (hk : k ≤ 4096) (hp : (k : Int) + 1 = pan) :
    Calls Try.prog 8 #[.int .u64 hd, .pointer (some ⟨cb, 0, none⟩), .pointer (some ⟨pb, 0, none⟩), .pointer (some ⟨gb, 0, none⟩), .pointer (some ⟨nb, 0, none⟩), .pointer (some ⟨clb, 0, none⟩)] w fun e w' => (∃ v, e = .panicked [{ v := v, recovered := false }]) ∧ NmI B cb gb lb pb nb clb N C pan na nc ca cc (k + 1) w' ∧ Tn (fun b => b = cb ∨ b = gb) w w' := by
  obtain ⟨n1, n2, n3⟩ := h.e.ne
  have hp1 := h.e.p.2
  unfold Gd at hp1
  have x0 : w.cell? ⟨cb, 0, none⟩ = some (.int .i64 (k : Int)) := h.c.cell 0
  have x1 : w.frozen? ⟨cb, 0, none⟩ = false := h.c.frozen 0
  have x2 : w.cell? ⟨pb, 0, none⟩ = some (.int .i64 pan) := h.e.p.1.cell 0
  have l1 := h.c.lt
  have l3 := h.e.p.1.lt
  obtain ⟨v, W', hpn, ht⟩ := index_none (w.setCell ⟨cb, 0, none⟩ (.int .i64 ((k : Int) + 1))) (k + 1)
  rw [show ((k + 1 : Nat) : Int) = (k : Int) + 1 by omega] at hpn
  have HE : Hid (NmI B cb gb lb pb nb clb N C pan na nc ca cc (k + 1) W' ∧ Tn (fun b => b = cb ∨ b = gb) w W') := by
    have t0 : Tn (fun b => b = cb ∨ b = gb) w (w.setCell ⟨cb, 0, none⟩ (.int .i64 ((k : Int) + 1))) := (Tn.refl _ _).set (.inl (.inl rfl)) _
    have t : Tn (fun b => b = cb ∨ b = gb) w W' := t0.trans (ht.mono (fun _ _ h => h.elim)) (fun _ _ h => h)
    refine ⟨⟨h.e.tn t (fun b hb hg => ?_), ?_, ?_⟩, t⟩
    · unfold Gd at hg
      omega
    · have := (h.c.set1 (u' := .int .i64 ((k : Int) + 1))).tn ht id
      rw [show ((k + 1 : Nat) : Int) = (k : Int) + 1 by omega]
      exact this
    · exact (h.g.other (a := ⟨cb, 0, none⟩) (Ne.symm n1) (.int .i64 ((k : Int) + 1))).tn ht id
  subst hp
  clear h ht
  have m1 : ¬ cb = pb := by omega
  go_enter Try.func8, Try.ntmps8
  go_wp2
  exact ⟨rfl, ⟨_, rfl⟩, HE.out⟩

/-- Of the first nodes those that may stand at a place, by their names. -/
def fl (p : Plc) (N : List Pl) (C : List ByteArray) : Nat → List Pl
  | 0 => []
  | k + 1 => fl p N C k ++ (match N[k]?, C[k]? with | some x, some c => if mt p c then [x] else [] | _, _ => [])
theorem fl_len (p : Plc) (N : List Pl) (C : List ByteArray) : ∀ k, (fl p N C k).length ≤ k
  | 0 => by simp [fl]
  | k + 1 => by
    have := fl_len p N C k
    simp only [fl, List.length_append]
    split
    · split <;> simp <;> omega
    · simp; omega
/-- All lists, when so many nodes were asked. -/
def flR (P : List Plc) (N : List Pl) (C : List ByteArray) (k : Nat) : Nat → List Pl := fun j => match P[j]? with | some p => fl p N C k | none => []
theorem flR_zero (P : List Plc) (N : List Pl) (C : List ByteArray) : flR P N C 0 = fun _ => [] := by
  funext j
  unfold flR
  cases P[j]? <;> rfl
theorem flR_len (P : List Plc) (N : List Pl) (C : List ByteArray) (k j : Nat) : (flR P N C k j).length ≤ k := by
  unfold flR
  cases P[j]? with
  | none => simp
  | some p => exact fl_len p N C k
theorem flR_step {P : List Plc} {N : List Pl} {C : List ByteArray} {k : Nat} {x : Pl} {c : ByteArray} (hx : N[k]? = some x) (hc : C[k]? = some c) : shR P c x (flR P N C k) P.length = flR P N C (k + 1) := by
  funext j
  unfold shR flR mtA
  cases hj : P[j]? with
  | none => simp
  | some p =>
    have hlt := (List.getElem?_eq_some_iff.1 hj).1
    simp only [fl, hx, hc]
    cases mt p c <;> simp [hlt]

end Go.Proofs.Ytmeinebfdljndaa
