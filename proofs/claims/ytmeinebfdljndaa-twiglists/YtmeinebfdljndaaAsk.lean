/- What is called that may panic: runs; the law's own function that is asked for names. -/
import Derived.Test.YtmeinebfdljndaaShw
import Derived.Recover
import Derived.Lib.BoundsPanic
namespace Go.Proofs.Ytmeinebfdljndaa
open Go.RowKit Go.Shelf
set_option linter.unusedVariables false
attribute [local go_sem] Oper.semAt_some

theorem rec_idle (w : World) : CallsD Try.prog 42 #[] .returning w fun e u' w' => e = .returned (.tuple #[]) ∧ u' = .returning ∧ w' = w := by
  refine callsD_of_wpS Try.func42 rfl fun c₀ cs hu => ?_
  first
    | apply wpS_region
    | (apply wpS_seq; apply wpS_region)
  simp [wpOpsS, go_sem, recoverD, hu, Try.ntmps42]
  cases c₀
  simp_all [bodyPostS, results, Try.results42]
set_option maxRecDepth 100000 in
set_option maxHeartbeats 1000000 in
theorem runs_any (W : World) (mf : Nat) (ml : Array Value) (Q : World → Prop) (em : ∀ args w, (callFunc mf args).run Try.prog w = .ok (.enter mf args) w) (hc : Calls Try.prog mf ml W fun e Y => (∃ v, e = .returned v) ∧ Q Y) :
    Calls Try.prog 24 #[.func (.func mf) #[] ml] W fun e Y => e = .returned (.bool true) ∧ Q Y := by
  go_enter_defers Try.func24, Try.ntmps24
  go_wp2_with fail
  refine hc.mono ?_
  rintro e Y ⟨⟨v, rfl⟩, hq⟩
  have HQ : Hid (Q Y) := hq
  clear hq hc
  go_wp2
  refine leaves_cons (f := 42) (args := #[]) (by simp) (by simp [go_sem]) ?_
  refine (rec_idle _).mono ?_
  rintro e u' w6 ⟨rfl, rfl, rfl⟩
  exact ⟨_, results_tmp rfl _ _ _, rfl, HQ.out⟩
theorem index_none (W : World) (k : Nat) : ∃ v W', (Instr.indexAt 34 (.slice none 0 0) (.int .i64 (k : Int))).run Try.prog W = .halt (.panic v) W' ∧ Tn (fun _ => False) W W' := by
  rw [Go.Lib.run_indexAt_nil W 34 3 0 0 .i64 (k : Int) Try.underlying34]
  unfold boundsPanic
  split
  · refine ⟨_, W.drew, by simp [runtimePanic, goPanic, go_sem]; rfl, (Tn.refl _ W).drew⟩
  · refine ⟨_, W, by simp [runtimePanic, goPanic, go_sem]; rfl, Tn.refl _ W⟩
theorem rec_caught (v : Value) (w : World) : CallsD Try.prog 42 #[] (.panicking [{ v := v, recovered := false }]) w fun e u' w' => e = .returned (.tuple #[]) ∧ u' = .panicking [{ v := v, recovered := true }] ∧ w' = w := by
  refine callsD_of_wpS Try.func42 rfl fun c₀ cs hu => ?_
  first
    | apply wpS_region
    | (apply wpS_seq; apply wpS_region)
  simp [wpOpsS, go_sem, recoverD, hu, Try.ntmps42]
  cases c₀
  simp_all [bodyPostS, results, Try.results42]
set_option maxRecDepth 100000 in
set_option maxHeartbeats 1000000 in
theorem runs_caught (W : World) (mf : Nat) (ml : Array Value) (Q : World → Prop) (em : ∀ args w, (callFunc mf args).run Try.prog w = .ok (.enter mf args) w) (hc : Calls Try.prog mf ml W fun e Y => (∃ v, e = .panicked [{ v := v, recovered := false }]) ∧ Q Y) :
    Calls Try.prog 24 #[.func (.func mf) #[] ml] W fun e Y => e = .returned (.bool false) ∧ Q Y := by
  go_enter_defers Try.func24, Try.ntmps24
  go_wp2_with fail
  refine hc.mono ?_
  rintro e Y ⟨⟨v, rfl⟩, hq⟩
  have HQ : Hid (Q Y) := hq
  clear hq hc
  go_wp2
  refine leaves_cons (f := 42) (args := #[]) (by simp) (by simp [go_sem]) ?_
  refine (rec_caught _ _).mono ?_
  rintro e u' w6 ⟨rfl, rfl, rfl⟩
  exact ⟨_, results_tmp rfl _ _ _, rfl, HQ.out⟩

/-- Blocks that nobody turns. -/
def Gd (B cb gb lb : Nat) (b : Nat) : Prop := b < B ∧ b ≠ cb ∧ b ≠ gb ∧ b ≠ lb
/-- What the function that is asked for names caught, besides what it turns. -/
structure EnvS (B cb gb lb pb nb clb : Nat) (N : List Pl) (C : List ByteArray) (pan : Int) (na : Option Addr) (nc : Nat) (ca : Option Addr) (cc : Nat) (w : World) : Prop where
  size : B ≤ w.heap.size
  p : IsCells w pb #[.int .i64 pan] ∧ Gd B cb gb lb pb
  n : IsCells w nb #[.slice na N.length nc] ∧ Gd B cb gb lb nb
  l : IsCells w clb #[.slice ca C.length cc] ∧ Gd B cb gb lb clb
  N : ∀ i x, N[i]? = some x → ∃ b o, na = some ⟨b, o, none⟩ ∧ Gd B cb gb lb b ∧ w.cell? ⟨b, o + i * 4, none⟩ = some (.int .u64 x.n)
  C : ∀ i s, C[i]? = some s → ∃ b o, ca = some ⟨b, o, none⟩ ∧ Gd B cb gb lb b ∧ w.cell? ⟨b, o + i, none⟩ = some (.string s)
  ne : cb ≠ gb ∧ cb < B ∧ gb < B
theorem EnvS.tn {B cb gb lb pb nb clb : Nat} {N : List Pl} {C : List ByteArray} {pan : Int} {na : Option Addr} {nc : Nat} {ca : Option Addr} {cc : Nat} {w w' : World} {A : Nat → Prop} (h : EnvS B cb gb lb pb nb clb N C pan na nc ca cc w) (t : Tn A w w') (hA : ∀ b, A b → ¬ Gd B cb gb lb b) : EnvS B cb gb lb pb nb clb N C pan na nc ca cc w' := by
  have hs := h.size
  refine ⟨Nat.le_trans hs t.size, ⟨h.p.1.tn t (fun a => hA _ a h.p.2), h.p.2⟩, ⟨h.n.1.tn t (fun a => hA _ a h.n.2), h.n.2⟩, ⟨h.l.1.tn t (fun a => hA _ a h.l.2), h.l.2⟩, fun i x hx => ?_, fun i s hi => ?_, h.ne⟩
  · obtain ⟨b, o, h1, h2, h3⟩ := h.N i x hx
    exact ⟨b, o, h1, h2, (t.cell (by have := h2.1; omega) (fun a => hA _ a h2)).trans h3⟩
  · obtain ⟨b, o, h1, h2, h3⟩ := h.C i s hi
    exact ⟨b, o, h1, h2, (t.cell (by have := h2.1; omega) (fun a => hA _ a h2)).trans h3⟩
/-- When it was called so often. -/
structure NmI (B cb gb lb pb nb clb : Nat) (N : List Pl) (C : List ByteArray) (pan : Int) (na : Option Addr) (nc : Nat) (ca : Option Addr) (cc : Nat) (k : Nat) (w : World) : Prop where
  e : EnvS B cb gb lb pb nb clb N C pan na nc ca cc w
  c : IsCells w cb #[.int .i64 (k : Int)]
  g : IsCells w gb #[.bool true]

set_option maxRecDepth 100000 in
set_option maxHeartbeats 4000000 in
theorem ask_ok {B cb gb lb pb nb clb : Nat} {N : List Pl} {C : List ByteArray} {pan : Int} {na : Option Addr} {nc : Nat} {ca : Option Addr} {cc : Nat} {k : Nat} (w : World) (h : NmI B cb gb lb pb nb clb N C pan na nc ca cc k w) {x : Pl} (hx : N[k]? = some x) {s : ByteArray} (hs : C[k]? = some s) (hN : N.length ≤ 4096) (hC : C.length = N.length) (hp : (k : Int) + 1 ≠ pan) :
    Calls Try.prog 8 #[.int .u64 x.n, .pointer (some ⟨cb, 0, none⟩), .pointer (some ⟨pb, 0, none⟩), .pointer (some ⟨gb, 0, none⟩), .pointer (some ⟨nb, 0, none⟩), .pointer (some ⟨clb, 0, none⟩)] w fun e w' => e = .returned (.string s) ∧ NmI B cb gb lb pb nb clb N C pan na nc ca cc (k + 1) w' ∧ Tn (fun b => b = cb ∨ b = gb) w w' := by
  obtain ⟨n1, n2, n3⟩ := h.e.ne
  have klt : k < N.length := (List.getElem?_eq_some_iff.1 hx).1
  obtain ⟨bn, on', rfl, gn, cn⟩ := h.e.N k x hx
  obtain ⟨bs, os', rfl, gs, cs⟩ := h.e.C k s hs
  have hp1 := h.e.p.2
  have hn1 := h.e.n.2
  have hl1 := h.e.l.2
  unfold Gd at gn gs hp1 hn1 hl1
  have x0 : w.cell? ⟨cb, 0, none⟩ = some (.int .i64 (k : Int)) := h.c.cell 0
  have x1 : w.frozen? ⟨cb, 0, none⟩ = false := h.c.frozen 0
  have x2 : w.cell? ⟨pb, 0, none⟩ = some (.int .i64 pan) := h.e.p.1.cell 0
  have x3 : w.cell? ⟨gb, 0, none⟩ = some (.bool true) := h.g.cell 0
  have x4 : w.frozen? ⟨gb, 0, none⟩ = false := h.g.frozen 0
  have x5 : w.cell? ⟨nb, 0, none⟩ = some (.slice (some ⟨bn, on', none⟩) N.length nc) := h.e.n.1.cell 0
  have x6 : w.cell? ⟨clb, 0, none⟩ = some (.slice (some ⟨bs, os', none⟩) C.length cc) := h.e.l.1.cell 0
  have l1 := h.c.lt
  have l2 := h.g.lt
  have l3 := h.e.p.1.lt
  have l4 := h.e.n.1.lt
  have l5 := h.e.l.1.lt
  have lB := h.e.size
  have HE : Hid (NmI B cb gb lb pb nb clb N C pan (some ⟨bn, on', none⟩) nc (some ⟨bs, os', none⟩) cc (k + 1) ((w.setCell ⟨cb, 0, none⟩ (.int .i64 ((k : Int) + 1))).setCell ⟨gb, 0, none⟩ (.bool true)) ∧ Tn (fun b => b = cb ∨ b = gb) w ((w.setCell ⟨cb, 0, none⟩ (.int .i64 ((k : Int) + 1))).setCell ⟨gb, 0, none⟩ (.bool true))) := by
    have t : Tn (fun b => b = cb ∨ b = gb) w ((w.setCell ⟨cb, 0, none⟩ (.int .i64 ((k : Int) + 1))).setCell ⟨gb, 0, none⟩ (.bool true)) := ((Tn.refl _ _).set (.inl (.inl rfl)) _).set (.inl (.inr rfl)) _
    refine ⟨⟨h.e.tn t (fun b hb hg => ?_), ?_, ?_⟩, t⟩
    · unfold Gd at hg
      omega
    · have := (h.c.set1 (u' := .int .i64 ((k : Int) + 1))).other (a := ⟨gb, 0, none⟩) n1 (.bool true)
      rw [show ((k + 1 : Nat) : Int) = (k : Int) + 1 by omega]
      exact this
    · exact ((h.g.other (a := ⟨cb, 0, none⟩) (Ne.symm n1) (.int .i64 ((k : Int) + 1))).set1 (u' := .bool true))
  clear h hx hs
  have m1 : ¬ cb = pb := by omega
  have m2 : ¬ cb = gb := by omega
  have m3 : ¬ cb = nb := by omega
  have m4 : ¬ cb = clb := by omega
  have m5 : ¬ gb = cb := by omega
  have m6 : ¬ gb = clb := by omega
  have m7 : ¬ gb = nb := by omega
  have m8 : ¬ cb = bn := by omega
  have m9 : ¬ cb = bs := by omega
  have m10 : ¬ gb = bs := by omega
  have m11 : ¬ gb = bn := by omega
  have k1 : (k : Int) + 1 - 1 = (k : Int) := by omega
  have k2 : (k : Int) < (N.length : Int) := by omega
  have k3 : (k : Int) < (C.length : Int) := by omega
  have k4 : (k : Int) + 1 ≤ (N.length : Int) := by omega
  have k5 : ¬ (C.length : Int) < (k : Int) + 1 := by omega
  have k6 : decide (k + 1 ≤ N.length) = true := by simp; omega
  have k7 : decide (k < N.length) = true := by simp; omega
  have bq : bn < w.heap.size := by omega
  have bq2 : bs < w.heap.size := by omega
  clear gn gs hp1 hn1 hl1
  go_enter Try.func8, Try.ntmps8
  go_wp2
  go_ret
  exact ⟨rfl, HE.out⟩

end Go.Proofs.Ytmeinebfdljndaa
