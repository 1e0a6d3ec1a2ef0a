/- The nodes gone through by Lists: each is asked for its name and put into the lists. -/
import Derived.Test.YtmeinebfdljndaaAskp
namespace Go.Proofs.Ytmeinebfdljndaa
open Go.RowKit Go.Shelf
set_option linter.unusedVariables false

/-- What Lists' own function caught: boxes that nobody turns. -/
structure LsE (B cb gb lb ab lbx psb nmb n : Nat) (aa : Option Addr) (ac : Nat) (N : List Pl) (pa : Option Addr) (pc : Nat) (P : List Plc) (ptrs : Array Value) (w : World) : Prop where
  size : B ≤ w.heap.size
  a : IsCells w ab #[.slice aa N.length ac] ∧ Gd B cb gb lb ab
  l : IsCells w lbx #[.slice (some ⟨lb, 0, none⟩) n n] ∧ Gd B cb gb lb lbx
  p : IsCells w psb #[.slice pa n pc] ∧ Gd B cb gb lb psb
  f : IsCells w nmb #[.func (.func 8) #[] ptrs] ∧ Gd B cb gb lb nmb
  A : ∀ i x, N[i]? = some x → ∃ b o, aa = some ⟨b, o, none⟩ ∧ Gd B cb gb lb b ∧ w.cell? ⟨b, o + i * 4, none⟩ = some (.int .u64 x.n) ∧ w.cell? ⟨b, o + i * 4 + 1, none⟩ = some (.int .u64 x.s.b) ∧ w.cell? ⟨b, o + i * 4 + 2, none⟩ = some (.int .u64 x.s.e) ∧ w.cell? ⟨b, o + i * 4 + 3, none⟩ = some (.int .i64 x.s.l)
  P : PcAt w pa P ∧ ∀ g, pa = some ⟨g, 0, none⟩ → Gd B cb gb lb g
theorem LsE.tn {B cb gb lb ab lbx psb nmb n : Nat} {aa : Option Addr} {ac : Nat} {N : List Pl} {pa : Option Addr} {pc : Nat} {P : List Plc} {ptrs : Array Value} {w w' : World} {A : Nat → Prop} (h : LsE B cb gb lb ab lbx psb nmb n aa ac N pa pc P ptrs w) (t : Tn A w w') (hA : ∀ b, A b → ¬ Gd B cb gb lb b) : LsE B cb gb lb ab lbx psb nmb n aa ac N pa pc P ptrs w' := by
  have hs := h.size
  refine ⟨Nat.le_trans hs t.size, ⟨h.a.1.tn t (fun a => hA _ a h.a.2), h.a.2⟩, ⟨h.l.1.tn t (fun a => hA _ a h.l.2), h.l.2⟩, ⟨h.p.1.tn t (fun a => hA _ a h.p.2), h.p.2⟩, ⟨h.f.1.tn t (fun a => hA _ a h.f.2), h.f.2⟩, fun i x hx => ?_, fun i p hp => ?_, h.P.2⟩
  · obtain ⟨b, o, h1, h2, h3, h4, h5, h6⟩ := h.A i x hx
    have e : ∀ o', w'.cell? ⟨b, o', none⟩ = w.cell? ⟨b, o', none⟩ := fun o' => t.cell (by have := h2.1; omega) (fun a => hA _ a h2)
    exact ⟨b, o, h1, h2, (e _).trans h3, (e _).trans h4, (e _).trans h5, (e _).trans h6⟩
  · obtain ⟨g, h1, h2, h3, h4, h5⟩ := h.P.1 i p hp
    have e : ∀ o', w'.cell? ⟨g, o', none⟩ = w.cell? ⟨g, o', none⟩ := fun o' => t.cell h2 (fun a => hA _ a (h.P.2 g h1))
    exact ⟨g, h1, Nat.lt_of_lt_of_le h2 t.size, (e _).trans h3, (e _).trans h4, (e _).trans h5⟩
/-- When so many were asked. -/
structure LsS (B cb gb lb pb nb clb : Nat) (N : List Pl) (C : List ByteArray) (pan : Int) (na : Option Addr) (nc : Nat) (ca : Option Addr) (cc : Nat) (ab lbx psb nmb n : Nat) (aa : Option Addr) (ac : Nat) (pa : Option Addr) (pc : Nat) (P : List Plc) (ptrs : Array Value) (k : Nat) (w : World) : Prop where
  m : NmI B cb gb lb pb nb clb N C pan na nc ca cc k w
  e : LsE B cb gb lb ab lbx psb nmb n aa ac N pa pc P ptrs w
  s : ∃ sl, Shv lb B n (flR P N C k) sl w
  d : lb ≠ cb ∧ lb ≠ gb
theorem LsS.new {B cb gb lb pb nb clb : Nat} {N : List Pl} {C : List ByteArray} {pan : Int} {na : Option Addr} {nc : Nat} {ca : Option Addr} {cc : Nat} {ab lbx psb nmb n : Nat} {aa : Option Addr} {ac : Nat} {pa : Option Addr} {pc : Nat} {P : List Plc} {ptrs : Array Value} {k : Nat} {w w' : World} (h : LsS B cb gb lb pb nb clb N C pan na nc ca cc ab lbx psb nmb n aa ac pa pc P ptrs k w) (t : Tn (fun _ => False) w w') : LsS B cb gb lb pb nb clb N C pan na nc ca cc ab lbx psb nmb n aa ac pa pc P ptrs k w' := by
  obtain ⟨sl, hs⟩ := h.s
  exact ⟨⟨h.m.e.tn t (fun _ h => h.elim), h.m.c.tn t id, h.m.g.tn t id⟩, h.e.tn t (fun _ h => h.elim), ⟨sl, hs.tn t (fun _ h => h.elim)⟩, h.d⟩
theorem LsS.asked {B cb gb lb pb nb clb : Nat} {N : List Pl} {C : List ByteArray} {pan : Int} {na : Option Addr} {nc : Nat} {ca : Option Addr} {cc : Nat} {ab lbx psb nmb n : Nat} {aa : Option Addr} {ac : Nat} {pa : Option Addr} {pc : Nat} {P : List Plc} {ptrs : Array Value} {k : Nat} {w w' : World} (h : LsS B cb gb lb pb nb clb N C pan na nc ca cc ab lbx psb nmb n aa ac pa pc P ptrs k w) (t : Tn (fun b => b = cb ∨ b = gb) w w') : LsE B cb gb lb ab lbx psb nmb n aa ac N pa pc P ptrs w' ∧ ∃ sl, Shv lb B n (flR P N C k) sl w' := by
  obtain ⟨sl, hs⟩ := h.s
  have hne := h.m.e.ne
  have hd := h.d
  refine ⟨h.e.tn t (fun b hb hg => ?_), sl, hs.tn t (fun b hb => ?_)⟩
  · unfold Gd at hg
    omega
  · omega
theorem LsS.shelved {B cb gb lb pb nb clb : Nat} {N : List Pl} {C : List ByteArray} {pan : Int} {na : Option Addr} {nc : Nat} {ca : Option Addr} {cc : Nat} {ab lbx psb nmb n : Nat} {aa : Option Addr} {ac : Nat} {pa : Option Addr} {pc : Nat} {P : List Plc} {ptrs : Array Value} {k : Nat} {w w' : World} (hm : NmI B cb gb lb pb nb clb N C pan na nc ca cc (k + 1) w) (he : LsE B cb gb lb ab lbx psb nmb n aa ac N pa pc P ptrs w) (hd : lb ≠ cb ∧ lb ≠ gb) {sl : Nat → Option Addr × Nat} (hs : Shv lb B n (flR P N C (k + 1)) sl w') (t : Tn (fun b => b = lb ∨ B ≤ b) w w') : LsS B cb gb lb pb nb clb N C pan na nc ca cc ab lbx psb nmb n aa ac pa pc P ptrs (k + 1) w' := by
  have hne := hm.e.ne
  have hA : ∀ b, (b = lb ∨ B ≤ b) → ¬ Gd B cb gb lb b := fun b hb hg => by unfold Gd at hg; omega
  exact ⟨⟨hm.e.tn t hA, hm.c.tn t (by omega), hm.g.tn t (by omega)⟩, he.tn t hA, ⟨sl, hs⟩, hd⟩

end Go.Proofs.Ytmeinebfdljndaa
