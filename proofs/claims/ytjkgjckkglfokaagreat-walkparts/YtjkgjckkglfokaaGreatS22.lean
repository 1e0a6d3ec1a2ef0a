/- What is spoilt: cells keep what sort they are of, lists at most become none. -/
import Derived.Test.YtjkgjckkglfokaaGreatS21
import Derived.Test.YtjkgjckkglfokaaGreatS01
namespace Go.Proofs.YtjkgjckkglfokaaGreat.Gr
open Go.RowKit
set_option linter.unusedVariables false
set_option linter.unusedSimpArgs false
def Bt (v x : Value) : Prop :=
 (∃ a b, v = .string a /\ x = .string b) \/ (∃ k a b, v = .int k a /\ x = .int k b) \/ (∃ a b, v = .bool a /\ x = .bool b) \/ (∃ a n c, v = .slice a n c /\ x = .slice none 0 0)
def Wk (v x : Value) : Prop := x = v \/ Bt v x
theorem Bt.next {v x y : Value} (h : Bt v x) (k : Bt v y) : Bt x y := by
 rcases h with ⟨a, b, rfl, rfl⟩ | ⟨q, a, b, rfl, rfl⟩ | ⟨a, b, rfl, rfl⟩ | ⟨a, n, c, rfl, rfl⟩ <;> rcases k with ⟨a', b', e, rfl⟩ | ⟨q', a', b', e, rfl⟩ | ⟨a', b', e, rfl⟩ | ⟨a', n', c', e, rfl⟩ <;> first | cases e | skip
 ·exact .inl ⟨_, _, rfl, rfl⟩
 ·exact .inr (.inl ⟨_, _, _, rfl, rfl⟩)
 ·exact .inr (.inr (.inl ⟨_, _, rfl, rfl⟩))
 ·exact .inr (.inr (.inr ⟨_, _, _, rfl, rfl⟩))
theorem Bt.trans {v x y : Value} (h : Bt v x) (k : Bt x y) : Bt v y := by
 rcases h with ⟨a, b, rfl, rfl⟩ | ⟨q, a, b, rfl, rfl⟩ | ⟨a, b, rfl, rfl⟩ | ⟨a, n, c, rfl, rfl⟩ <;> rcases k with ⟨a', b', e, rfl⟩ | ⟨q', a', b', e, rfl⟩ | ⟨a', b', e, rfl⟩ | ⟨a', n', c', e, rfl⟩ <;> first | cases e | skip
 ·exact .inl ⟨_, _, rfl, rfl⟩
 ·exact .inr (.inl ⟨_, _, _, rfl, rfl⟩)
 ·exact .inr (.inr (.inl ⟨_, _, rfl, rfl⟩))
 ·exact .inr (.inr (.inr ⟨_, _, _, rfl, rfl⟩))
theorem Wk.trans {v x y : Value} (h : Wk v x) (k : Wk x y) : Wk v y := by
 rcases h with rfl | h
 ·exact k
 ·rcases k with rfl | k
  ·exact .inr h
  ·exact .inr (h.trans k)
theorem Wk.bt {v x y : Value} (h : Wk v x) (k : Bt v y) : Bt x y := by
 rcases h with rfl | h
 ·exact k
 ·exact h.next k
theorem Wk.str {a : ByteArray} {x : Value} (h : Wk (.string a) x) : ∃ b, x = .string b := by
 rcases h with rfl | ⟨a, b, e, rfl⟩ | ⟨q, a, b, e, rfl⟩ | ⟨a, b, e, rfl⟩ | ⟨a, n, c, e, rfl⟩ <;> first | cases e | skip
 ·exact ⟨_, rfl⟩
 ·exact ⟨_, rfl⟩
theorem Wk.int {k : IntKind} {a : Int} {x : Value} (h : Wk (.int k a) x) : ∃ b, x = .int k b := by
 rcases h with rfl | ⟨a, b, e, rfl⟩ | ⟨q, a, b, e, rfl⟩ | ⟨a, b, e, rfl⟩ | ⟨a, n, c, e, rfl⟩ <;> first | cases e | skip
 ·exact ⟨_, rfl⟩
 ·exact ⟨_, rfl⟩
theorem Wk.bool {a : Bool} {x : Value} (h : Wk (.bool a) x) : ∃ b, x = .bool b := by
 rcases h with rfl | ⟨a, b, e, rfl⟩ | ⟨q, a, b, e, rfl⟩ | ⟨a, b, e, rfl⟩ | ⟨a, n, c, e, rfl⟩ <;> first | cases e | skip
 ·exact ⟨_, rfl⟩
 ·exact ⟨_, rfl⟩
theorem Wk.slice {a : Option Addr} {n c : Nat} {x : Value} (h : Wk (.slice a n c) x) : x = .slice a n c \/ x = .slice none 0 0 := by
 rcases h with rfl | ⟨a, b, e, rfl⟩ | ⟨q, a, b, e, rfl⟩ | ⟨a, b, e, rfl⟩ | ⟨a, n, c, e, rfl⟩ <;> first | cases e | skip
 ·exact .inl rfl
 ·exact .inr rfl
structure Sv (R : Nat -> Prop) (w w' : World) : Prop where
 turn : Turn R w w'
 wr : ∀ b, R b -> Wr w b -> Wr w' b
 keep : ∀ b o v, R b -> Wr w b -> w.cell? ⟨b, o, none⟩ = some v -> ∃ v', w'.cell? ⟨b, o, none⟩ = some v' /\ Wk v v'
theorem Sv.refl (R : Nat -> Prop) (w : World) : Sv R w w := ⟨Turn.refl _ _, fun _ _ h => h, fun b o v _ _ h => ⟨v, h, .inl rfl⟩⟩
theorem Sv.trans {R : Nat -> Prop} {a b c : World} (h : Sv R a b) (k : Sv R b c) : Sv R a c := by
 refine ⟨h.turn.trans k.turn, fun b hb hw => k.wr b hb (h.wr b hb hw), fun b o v hb hw hc => ?_⟩
 obtain ⟨v1, h1, h2⟩ := h.keep b o v hb hw hc
 obtain ⟨v2, h3, h4⟩ := k.keep b o v1 hb (h.wr b hb hw) h1
 exact ⟨v2, h3, h2.trans h4⟩
theorem Wr.lt {w : World} {b : Nat} (h : Wr w b) : b < w.heap.size := by obtain ⟨cs, h⟩ := h; exact h.lt
theorem Sv.below {R : Nat -> Prop} {w w' : World} (h : Below w.heap.size w w') : Sv R w w' :=
 ⟨⟨h.os, h.tape, h.output, h.size, fun k hk _ => h.block k hk⟩, fun b _ hw => hw.of_block (h.block b hw.lt), fun b o v _ hw hc => ⟨v, (h.cell (p := ⟨b, o, none⟩) hw.lt).trans hc, .inl rfl⟩⟩
theorem Sv.alloc {R : Nat -> Prop} {a w : World} (h : Sv R a w) (o : Obj) : Sv R a (w.alloc o) := h.trans (Sv.below ((Below.refl _ _).alloc (Nat.le_refl _) _))
theorem Sv.set1 {R : Nat -> Prop} {w : World} {b o : Nat} {v x : Value} (hb : R b) (hw : Wr w b) (hc : w.cell? ⟨b, o, none⟩ = some v) (hx : Bt v x) : Sv R w (w.setCell ⟨b, o, none⟩ x) := by
 refine ⟨(Turn.refl _ _).setCell (p := ⟨b, o, none⟩) hb _, fun b' _ h => h.setCell _ _ _, fun b' o' v' _ hw' hc' => ?_⟩
 obtain ⟨cs, hcs⟩ := hw
 by_cases e : b' = b
 ·subst e
  rw [(hcs.set o x).cell]
  rw [hcs.cell] at hc hc'
  by_cases eo : o' = o
  ·subst eo
   rw [hc] at hc'
   cases hc'
   have hlt := (Array.getElem?_eq_some_iff.1 hc).1
   exact ⟨x, by simp [hlt], .inr hx⟩
  ·exact ⟨v', by rw [Array.getElem?_setIfInBounds_ne (Ne.symm eo)]; exact hc', .inl rfl⟩
 ·obtain ⟨cs', hcs'⟩ := hw'
  exact ⟨v', by rw [(hcs'.other (a := ⟨b, o, none⟩) e x).cell, <- hcs'.cell]; exact hc', .inl rfl⟩
theorem Sv.put {R : Nat -> Prop} {w wr : World} (h : Sv R w wr) {b o : Nat} {v x : Value} (hb : R b) (hw : Wr w b) (hc : w.cell? ⟨b, o, none⟩ = some v) (hx : Bt v x) : Sv R w (wr.setCell ⟨b, o, none⟩ x) := by
 obtain ⟨v', h1, h2⟩ := h.keep b o v hb hw hc
 exact h.trans (Sv.set1 hb (h.wr b hb hw) h1 (h2.bt hx))
theorem Bt.s (a b : ByteArray) : Bt (.string a) (.string b) := .inl ⟨_, _, rfl, rfl⟩
theorem Bt.i (k : IntKind) (a b : Int) : Bt (.int k a) (.int k b) := .inr (.inl ⟨_, _, _, rfl, rfl⟩)
theorem Bt.b (a b : Bool) : Bt (.bool a) (.bool b) := .inr (.inr (.inl ⟨_, _, rfl, rfl⟩))
theorem Bt.l (a : Option Addr) (n c : Nat) : Bt (.slice a n c) (.slice none 0 0) := .inr (.inr (.inr ⟨_, _, _, rfl, rfl⟩))
def AW (w : World) (R : Nat -> Prop) (a : Option Addr) (n : Nat) : Prop :=
 ∀ i, i < n -> ∃ b o x y, a = some ⟨b, o, none⟩ /\ R b /\ w.cell? ⟨b, o + i * 2, none⟩ = some (.string x) /\ w.cell? ⟨b, o + i * 2 + 1, none⟩ = some (.string y)
def HW (w : World) (R : Nat -> Prop) (a : Option Addr) (n : Nat) : Prop :=
 ∀ i, i < n -> ∃ b o x, a = some ⟨b, o, none⟩ /\ R b /\ w.cell? ⟨b, o + i, none⟩ = some (.int .u64 x)
def WT (w : World) (R : Nat -> Prop) : Nat -> Array Value -> Prop
 | 0, _ => False
 | n + 1, v => ∃ k nm a al ac tx ka kl kc, v = #[.int .i64 k, .string nm, .slice a al ac, .string tx, .slice ka kl kc] /\ al <= maxA /\ kl <= maxK /\ al <= ac /\ kl <= kc /\ AW w R a al /\
   ∀ i, i < kl -> ∃ (b o : Nat) (u : Array Value), ka = some ⟨b, o, none⟩ /\ R b /\ u.size = 5 /\ (∀ j, j < 5 -> w.cell? ⟨b, o + i * 5 + j, none⟩ = u[j]?) /\ WT w R n u
theorem AttrsR.weak {w : World} {R : Nat -> Prop} {a : Option Addr} {l : List (ByteArray × ByteArray)} (h : AttrsR w R a l) : AW w R a l.length := by
 intro i hi
 obtain ⟨b, o, h1, h2, h3, h4⟩ := h i _ (List.getElem?_eq_getElem hi)
 exact ⟨b, o, _, _, h1, h2, h3, h4⟩
theorem HandsAt.weak {w : World} {R : Nat -> Prop} {a : Option Addr} {l : List Nat} (h : HandsAt w R a l) : HW w R a l.length := by
 intro i hi
 obtain ⟨b, o, h1, h2, h3⟩ := h i _ (List.getElem?_eq_getElem hi)
 exact ⟨b, o, _, h1, h2, h3⟩
theorem TreeR.weak {w : World} {R : Nat -> Prop} : ∀ {n : Nat} {v : Array Value} {t : T n}, TreeR w R n v t -> WT w R n v
 | 0, _, _, h => h.elim
 | n + 1, v, t, h => by
  obtain ⟨a, ac, ka, kc, h1, h2, h3, h4, h5, h6, h7⟩ := h
  refine ⟨_, _, _, _, _, _, _, _, _, h1, h2, h3, h4, h5, h6.weak, fun i hi => ?_⟩
  obtain ⟨b, o, u, g1, g2, g4, g5, g6⟩ := h7 i _ (List.getElem?_eq_getElem hi)
  exact ⟨b, o, u, g1, g2, g4, g5, TreeR.weak g6⟩
theorem AW.nil (w : World) (R : Nat -> Prop) (a : Option Addr) : AW w R a 0 := fun i hi => by omega
theorem HW.nil (w : World) (R : Nat -> Prop) (a : Option Addr) : HW w R a 0 := fun i hi => by omega
theorem Sv.aw {R : Nat -> Prop} {w w' : World} (s : Sv R w w') (hR : ∀ b, R b -> Wr w b) {a : Option Addr} {n : Nat} (h : AW w R a n) : AW w' R a n := by
 intro i hi
 obtain ⟨b, o, x, y, h1, h2, h3, h4⟩ := h i hi
 obtain ⟨v1, c1, k1⟩ := s.keep _ _ _ h2 (hR b h2) h3
 obtain ⟨v2, c2, k2⟩ := s.keep _ _ _ h2 (hR b h2) h4
 obtain ⟨x', rfl⟩ := k1.str
 obtain ⟨y', rfl⟩ := k2.str
 exact ⟨b, o, _, _, h1, h2, c1, c2⟩
theorem Sv.hw {R : Nat -> Prop} {w w' : World} (s : Sv R w w') (hR : ∀ b, R b -> Wr w b) {a : Option Addr} {n : Nat} (h : HW w R a n) : HW w' R a n := by
 intro i hi
 obtain ⟨b, o, x, h1, h2, h3⟩ := h i hi
 obtain ⟨v1, c1, k1⟩ := s.keep _ _ _ h2 (hR b h2) h3
 obtain ⟨x', rfl⟩ := k1.int
 exact ⟨b, o, _, h1, h2, c1⟩
theorem WT.form {w : World} {R : Nat -> Prop} {n : Nat} {v : Array Value} (h : WT w R n v) : ∃ k nm a al ac tx ka kl kc, v = #[.int .i64 k, .string nm, .slice a al ac, .string tx, .slice ka kl kc] := by
 cases n with
 | zero => exact h.elim
 | succ n => obtain ⟨k, nm, a, al, ac, tx, ka, kl, kc, h1, _⟩ := h; exact ⟨_, _, _, _, _, _, _, _, _, h1⟩
theorem WT.less {w : World} {R : Nat -> Prop} {n : Nat} {k : Int} {nm : ByteArray} {a : Option Addr} {al ac : Nat} {tx : ByteArray} {ka : Option Addr} {kl kc : Nat} (h : WT w R n #[.int .i64 k, .string nm, .slice a al ac, .string tx, .slice ka kl kc])
  (k' : Int) (nm' tx' : ByteArray) {a' : Option Addr} {al' ac' : Nat} {ka' : Option Addr} {kl' kc' : Nat} (h1 : Value.slice a' al' ac' = .slice a al ac \/ Value.slice a' al' ac' = .slice none 0 0) (h2 : Value.slice ka' kl' kc' = .slice ka kl kc \/ Value.slice ka' kl' kc' = .slice none 0 0) :
  WT w R n #[.int .i64 k', .string nm', .slice a' al' ac', .string tx', .slice ka' kl' kc'] := by
 cases n with
 | zero => exact h.elim
 | succ n =>
  obtain ⟨k1, nm1, a1, al1, ac1, tx1, ka1, kl1, kc1, e, g1, g2, g3, g4, g5, g6⟩ := h
  simp only [Array.mk.injEq, List.cons.injEq, Value.int.injEq, Value.string.injEq, Value.slice.injEq, true_and, and_true] at e
  obtain ⟨rfl, rfl, ⟨rfl, rfl, rfl⟩, rfl, ⟨rfl, rfl, rfl⟩⟩ := e
  have ha : al' <= maxA /\ al' <= ac' /\ AW w R a' al' := by
   rcases h1 with h1 | h1 <;> cases h1
   ·exact ⟨g1, g3, g5⟩
   ·exact ⟨Nat.zero_le _, Nat.zero_le _, AW.nil _ _ _⟩
  have hk : kl' <= maxK /\ kl' <= kc' /\ ∀ i, i < kl' -> ∃ (b o : Nat) (u : Array Value), ka' = some ⟨b, o, none⟩ /\ R b /\ u.size = 5 /\ (∀ j, j < 5 -> w.cell? ⟨b, o + i * 5 + j, none⟩ = u[j]?) /\ WT w R n u := by
   rcases h2 with h2 | h2 <;> cases h2
   ·exact ⟨g2, g4, g6⟩
   ·exact ⟨Nat.zero_le _, Nat.zero_le _, fun i hi => by omega⟩
  exact ⟨_, _, _, _, _, _, _, _, _, rfl, ha.1, hk.1, ha.2.1, hk.2.1, ha.2.2, hk.2.2⟩
theorem Sv.wt {R : Nat -> Prop} {w w' : World} (s : Sv R w w') (hR : ∀ b, R b -> Wr w b) : ∀ {n : Nat} {v : Array Value}, WT w R n v -> WT w' R n v
 | 0, _, h => h.elim
 | n + 1, v, h => by
  obtain ⟨k, nm, a, al, ac, tx, ka, kl, kc, e, g1, g2, g3, g4, g5, g6⟩ := h
  refine ⟨k, nm, a, al, ac, tx, ka, kl, kc, e, g1, g2, g3, g4, s.aw hR g5, fun i hi => ?_⟩
  obtain ⟨b, o, u, e1, e2, e3, e4, e5⟩ := g6 i hi
  obtain ⟨k2, nm2, a2, al2, ac2, tx2, ka2, kl2, kc2, rfl⟩ := e5.form
  obtain ⟨v0, c0, k0⟩ := s.keep _ _ _ e2 (hR b e2) (e4 0 (by omega))
  obtain ⟨v1, c1, k1⟩ := s.keep _ _ _ e2 (hR b e2) (e4 1 (by omega))
  obtain ⟨v2, c2, k2'⟩ := s.keep _ _ _ e2 (hR b e2) (e4 2 (by omega))
  obtain ⟨v3, c3, k3⟩ := s.keep _ _ _ e2 (hR b e2) (e4 3 (by omega))
  obtain ⟨v4, c4, k4⟩ := s.keep _ _ _ e2 (hR b e2) (e4 4 (by omega))
  obtain ⟨x0, rfl⟩ := k0.int
  obtain ⟨x1, rfl⟩ := k1.str
  obtain ⟨x3, rfl⟩ := k3.str
  have h2 : ∃ a' n' c', v2 = .slice a' n' c' /\ (Value.slice a' n' c' = .slice a2 al2 ac2 \/ Value.slice a' n' c' = .slice none 0 0) := by
   rcases k2'.slice with rfl | rfl
   ·exact ⟨_, _, _, rfl, .inl rfl⟩
   ·exact ⟨_, _, _, rfl, .inr rfl⟩
  have h4 : ∃ a' n' c', v4 = .slice a' n' c' /\ (Value.slice a' n' c' = .slice ka2 kl2 kc2 \/ Value.slice a' n' c' = .slice none 0 0) := by
   rcases k4.slice with rfl | rfl
   ·exact ⟨_, _, _, rfl, .inl rfl⟩
   ·exact ⟨_, _, _, rfl, .inr rfl⟩
  obtain ⟨a', n', c', rfl, h2⟩ := h2
  obtain ⟨a'', n'', c'', rfl, h4⟩ := h4
  refine ⟨b, o, #[.int .i64 x0, .string x1, .slice a' n' c', .string x3, .slice a'' n'' c''], e1, e2, rfl, fun j hj => ?_, (Sv.wt s hR e5).less x0 x1 x3 h2 h4⟩
  rcases j with _ | _ | _ | _ | _ | j
  ·exact c0
  ·exact c1
  ·exact c2
  ·exact c3
  ·exact c4
  ·omega
end Go.Proofs.YtjkgjckkglfokaaGreat.Gr
/- Spoil: a tree is spoilt. -/
namespace Go.Proofs.YtjkgjckkglfokaaGreat.Gr
open Go.RowKit
set_option linter.unusedVariables false
set_option linter.unusedSimpArgs false
set_option maxRecDepth 100000
set_option maxHeartbeats 1000000
def SpP (R : Nat -> Prop) (w : World) (e : Ending) (w' : World) : Prop := e = .returned (.tuple #[]) /\ Sv R w w'
def SpAll (n : Nat) : Prop := ∀ (w : World) (R : Nat -> Prop) (v : Array Value), (∀ b, R b -> Wr w b) -> WT w R n v -> Calls Tryz.prog 38 #[.agg v] w (SpP R w)
theorem Sv.box {R : Nat -> Prop} {a b : World} (h : Sv R a b) {x : Nat} {cs : Array Value} (hx : IsCells a x cs) (hn : ¬ R x) : IsCells b x cs := hx.of_block (h.turn.block x hx.lt hn)
def KW (w : World) (R : Nat -> Prop) (n : Nat) (ka : Option Addr) (kl : Nat) : Prop := ∀ i, i < kl -> ∃ (b o : Nat) (u : Array Value), ka = some ⟨b, o, none⟩ /\ R b /\ u.size = 5 /\ (∀ j, j < 5 -> w.cell? ⟨b, o + i * 5 + j, none⟩ = u[j]?) /\ WT w R n u
theorem Sv.kw {R : Nat -> Prop} {w w' : World} (s : Sv R w w') (hR : ∀ b, R b -> Wr w b) {n : Nat} {ka : Option Addr} {kl : Nat} (h : KW w R n ka kl) (hk : kl <= maxK) : KW w' R n ka kl := by
 have h0 : WT w R (n + 1) #[.int .i64 0, .string ⟨#[]⟩, .slice none 0 0, .string ⟨#[]⟩, .slice ka kl kl] := ⟨_, _, _, _, _, _, _, _, _, rfl, Nat.zero_le _, hk, Nat.zero_le _, Nat.le_refl _, AW.nil _ _ _, h⟩
 obtain ⟨k1, nm1, a1, al1, ac1, tx1, ka1, kl1, kc1, e, g1, g2, g3, g4, g5, g6⟩ := s.wt hR h0
 simp only [Array.mk.injEq, List.cons.injEq, Value.int.injEq, Value.string.injEq, Value.slice.injEq, true_and, and_true] at e
 obtain ⟨rfl, rfl, ⟨rfl, rfl, rfl⟩, rfl, ⟨rfl, rfl, rfl⟩⟩ := e
 exact g6
theorem KW.get {w : World} {R : Nat -> Prop} {n : Nat} {ka : Option Addr} {kl : Nat} (h : KW w R n ka kl) {i : Nat} (hi : i < kl) : ∃ b o kk nm a al ac tx ka' kl' kc, ka = some ⟨b, o, none⟩ /\ R b /\ w.cell? ⟨b, o + i * 5, none⟩ = some (.int .i64 kk) /\ w.cell? ⟨b, o + i * 5 + 1, none⟩ = some (.string nm) /\ w.cell? ⟨b, o + i * 5 + 2, none⟩ = some (.slice a al ac) /\
   w.cell? ⟨b, o + i * 5 + 3, none⟩ = some (.string tx) /\ w.cell? ⟨b, o + i * 5 + 4, none⟩ = some (.slice ka' kl' kc) /\ WT w R n #[.int .i64 kk, .string nm, .slice a al ac, .string tx, .slice ka' kl' kc] := by
 obtain ⟨b, o, u, h1, h2, h4, h5, h6⟩ := h i hi
 obtain ⟨kk, nm, a, al, ac, tx, ka', kl', kc, rfl⟩ := h6.form
 exact ⟨b, o, kk, nm, a, al, ac, tx, ka', kl', kc, h1, h2, h5 0 (by omega), h5 1 (by omega), h5 2 (by omega), h5 3 (by omega), h5 4 (by omega), h6⟩
theorem spoilT_any : ∀ (n : Nat), SpAll n
 | 0 => fun _ _ _ _ h => h.elim
 | n + 1 => by
  intro w R v hR h
  have ih := spoilT_any n
  obtain ⟨k, nm, a, al, ac, tx, ka, kl, kc, rfl, h1, h2, h3, h4, h5, h6⟩ := h
  unfold maxA at h1
  have HIH : Hid (SpAll n) := ih
  have HKM : Hid (kl <= maxK) := h2
  unfold maxK at h2
  have HR : Hid (∀ b, R b -> Wr w b) := hR
  have HA : Hid (AW w R a al) := h5
  have HK : Hid (KW w R n ka kl) := h6
  have HX : Hid (¬ R w.heap.size) := fun hr => by have := (hR _ hr).lt; omega
  have HB0 : Hid (IsCells (w.alloc (.cells #[.int .i64 k, .string nm, .slice a al ac, .string tx, .slice ka kl kc] 31)) w.heap.size #[.int .i64 k, .string nm, .slice a al ac, .string tx, .slice ka kl kc]) := isCells_new _ _ _
  clear hR h5 h6 ih
  go_enter Tryz.func38, Tryz.ntmps38
  go_wp2
  go_loopw [2] (fun iv wr => ∃ i : Nat, i <= al /\ iv = .int .i64 (i : Int) /\ Hid (Sv R w wr) /\ Hid (IsCells wr w.heap.size #[.int .i64 k, .string nm, .slice a al ac, .string tx, .slice ka kl kc])) (fun iv _ => al - (intOf iv).toNat)
  case atStart => exact ⟨0, Nat.zero_le _, rfl, (Sv.refl _ _).alloc _, HB0⟩
  case round =>
   obtain ⟨i, hi, rfl, HS, HB⟩ := hrel
   have hbc := HB.out.cell
   have hbx := HB.out.lt
   by_cases hlt : i < al
   ·obtain ⟨b, o, x, y, ha, hb, hc1, hc2⟩ := HA.out i hlt
    subst ha
    have hwb := HS.out.wr b hb (HR.out b hb)
    have hf := hwb.frozen
    have hbl := hwb.lt
    obtain ⟨v1, hc1', hk1⟩ := HS.out.keep b _ _ hb (HR.out b hb) hc1
    obtain ⟨x', rfl⟩ := hk1.str
    obtain ⟨v2, hc2', hk2⟩ := HS.out.keep b _ _ hb (HR.out b hb) hc2
    obtain ⟨y', rfl⟩ := hk2.str
    have hne : ¬ w.heap.size = b := fun e => HX.out (e ▸ hb)
    have hne' : ¬ b = w.heap.size := fun e => hne e.symm
    have HS2 : Hid (∀ p q, Sv R w ((wr.setCell ⟨b, o + i * 2, none⟩ (.string p)).setCell ⟨b, o + i * 2 + 1, none⟩ (.string q))) := fun p q => (HS.out.put hb (HR.out b hb) hc1 (Bt.s _ _)).put hb (HR.out b hb) hc2 (Bt.s _ _)
    have HB2 : Hid (∀ p q, IsCells ((wr.setCell ⟨b, o + i * 2, none⟩ p).setCell ⟨b, o + i * 2 + 1, none⟩ q) w.heap.size #[.int .i64 k, .string nm, .slice (some ⟨b, o, none⟩) al ac, .string tx, .slice ka kl kc]) := fun p q => (HB.out.other (a := ⟨b, o + i * 2, none⟩) hne p).other (a := ⟨b, o + i * 2 + 1, none⟩) hne q
    clear hk1 hk2 hwb hc1 hc2 HB0
    go_wp2
    go_roundw
    case rel => exact ⟨i + 1, by omega, by go_num, HS2.out _ _, HB2.out _ _⟩
    case measure => simp [intOf]; omega
   ·clear HA
    go_wp2
    go_loopw [3] (fun iv wr => ∃ i : Nat, i <= kl /\ iv = .int .i64 (i : Int) /\ Hid (Sv R w wr) /\ Hid (IsCells wr w.heap.size #[.int .i64 k, .string nm, .slice a al ac, .string tx, .slice ka kl kc])) (fun iv _ => kl - (intOf iv).toNat)
    case atStart => exact ⟨0, Nat.zero_le _, rfl, HS, HB⟩
    case round =>
     clear HS HB hbc hbx HB0
     obtain ⟨i', hi', rfl, HS, HB⟩ := hrel
     have hbc := HB.out.cell
     have hbx := HB.out.lt
     by_cases hlt' : i' < kl
     ·have HKr : Hid (KW _ R n ka kl) := HS.out.kw HR.out HK.out HKM.out
      obtain ⟨b, o, kk, nm', a', al', ac', tx', ka2, kl2, kc2, e, hb, c0, c1, c2, c3, c4, htr⟩ := HKr.out.get hlt'
      subst e
      have HRr : Hid (∀ b, R b -> Wr _ b) := fun b hb => HS.out.wr b hb (HR.out b hb)
      have hcall := HIH.out _ R _ HRr.out htr
      have hwb := HRr.out b hb
      have hf := hwb.frozen
      have hbl := hwb.lt
      have hne : ¬ w.heap.size = b := fun e => HX.out (e ▸ hb)
      have hne' : ¬ b = w.heap.size := fun e => hne e.symm
      have HC : Hid _ := And.intro c0 (And.intro c1 (And.intro c2 (And.intro c3 c4)))
      go_wp2_with fail
      refine hcall.mono ?_
      rintro e w2 ⟨rfl, hs2⟩
      have HS2 : Hid (Sv R _ w2) := hs2
      have hbc2 := (hs2.box HB.out HX.out).cell
      have HB2 : Hid (IsCells w2 _ _) := hs2.box HB.out HX.out
      have hwb2 := hs2.wr b hb hwb
      have hf2 := hwb2.frozen
      have hbl2 := hwb2.lt
      have hbx2 := HB2.out.lt
      obtain ⟨v0, d0, k0⟩ := hs2.keep b _ _ hb hwb c0
      obtain ⟨v1, d1, k1⟩ := hs2.keep b _ _ hb hwb c1
      obtain ⟨v2, d2, k2⟩ := hs2.keep b _ _ hb hwb c2
      obtain ⟨v3, d3, k3⟩ := hs2.keep b _ _ hb hwb c3
      obtain ⟨v4, d4, k4⟩ := hs2.keep b _ _ hb hwb c4
      have HS3 : Hid (∀ p q r, Sv R w (((((w2.setCell ⟨b, o + i' * 5, none⟩ (.int .i64 p)).setCell ⟨b, o + i' * 5 + 1, none⟩ (.string q)).setCell ⟨b, o + i' * 5 + 2, none⟩ (.slice none 0 0)).setCell ⟨b, o + i' * 5 + 3, none⟩ (.string r)).setCell ⟨b, o + i' * 5 + 4, none⟩ (.slice none 0 0))) := fun p q r => HS.out.trans (((((hs2.put hb hwb c0 (Bt.i _ _ _)).put hb hwb c1 (Bt.s _ _)).put hb hwb c2 (Bt.l _ _ _)).put hb hwb c3 (Bt.s _ _)).put hb hwb c4 (Bt.l _ _ _))
      have HB3 : Hid (∀ p q r s t, IsCells (((((w2.setCell ⟨b, o + i' * 5, none⟩ p).setCell ⟨b, o + i' * 5 + 1, none⟩ q).setCell ⟨b, o + i' * 5 + 2, none⟩ r).setCell ⟨b, o + i' * 5 + 3, none⟩ s).setCell ⟨b, o + i' * 5 + 4, none⟩ t) w.heap.size #[.int .i64 k, .string nm, .slice a al ac, .string tx, .slice (some ⟨b, o, none⟩) kl kc]) := fun p q r s t => ((((HB2.out.other (a := ⟨b, o + i' * 5, none⟩) hne p).other (a := ⟨b, o + i' * 5 + 1, none⟩) hne q).other (a := ⟨b, o + i' * 5 + 2, none⟩) hne r).other (a := ⟨b, o + i' * 5 + 3, none⟩) hne s).other (a := ⟨b, o + i' * 5 + 4, none⟩) hne t
      clear hs2 k0 k1 k2 k3 k4 c0 c1 c2 c3 c4 htr HS HB HC hwb hwb2 hf hbl hbc hbx HRr HKr HIH hcall HS2 HB2
      go_wp2
      go_roundw
      case rel => exact ⟨i' + 1, by omega, by go_num, HS3.out _ _ _, HB3.out _ _ _ _ _⟩
      case measure => simp [intOf]; omega
     ·clear HK HIH
      go_wp2
      go_end0
      exact ⟨rfl, HS.out⟩
end Go.Proofs.YtjkgjckkglfokaaGreat.Gr
/- SpoilImage: an image is spoilt. -/
namespace Go.Proofs.YtjkgjckkglfokaaGreat.Gr
open Go.RowKit
set_option linter.unusedVariables false
set_option linter.unusedSimpArgs false
def SW (w : World) (R : Nat -> Prop) (sa : Option Addr) (n : Nat) : Prop :=
 ∀ i, i < n -> ∃ b o gn lv kd nm aa al ac tx pa ka kl kc, sa = some ⟨b, o, none⟩ /\ R b /\ w.cell? ⟨b, o + i * 8, none⟩ = some (.int .u32 gn) /\ w.cell? ⟨b, o + i * 8 + 1, none⟩ = some (.bool lv) /\ w.cell? ⟨b, o + i * 8 + 2, none⟩ = some (.int .i64 kd) /\ w.cell? ⟨b, o + i * 8 + 3, none⟩ = some (.string nm) /\
  w.cell? ⟨b, o + i * 8 + 4, none⟩ = some (.slice aa al ac) /\ w.cell? ⟨b, o + i * 8 + 5, none⟩ = some (.string tx) /\ w.cell? ⟨b, o + i * 8 + 6, none⟩ = some (.int .u64 pa) /\ w.cell? ⟨b, o + i * 8 + 7, none⟩ = some (.slice ka kl kc) /\
  al <= ac /\ kl <= kc /\ al < 4611686018427387904 /\ kl < 4611686018427387904 /\ AW w R aa al /\ HW w R ka kl
theorem SlotsAt.weak {w : World} {R : Nat -> Prop} {a : Option Addr} {S : List Sl} (h : SlotsAt w R a S) (hs : ∀ s ∈ S, s.attrs.length < 4611686018427387904 /\ s.kids.length < 4611686018427387904) : SW w R a S.length := by
 intro i hi
 obtain ⟨b, o, h1, h2, aa, ac, ka, kc, c0, c1, c2, c3, c4, c5, c6, c7, l1, l2, ha, hk⟩ := h i _ (List.getElem?_eq_getElem hi)
 obtain ⟨m1, m2⟩ := hs _ (List.getElem_mem hi)
 exact ⟨b, o, _, _, _, _, _, _, _, _, _, _, _, _, h1, h2, c0, c1, c2, c3, c4, c5, c6, c7, l1, l2, m1, m2, ha.weak, hk.weak⟩
end Go.Proofs.YtjkgjckkglfokaaGreat.Gr
/- Images: two images of one document are told to be the same. -/
namespace Go.Proofs.YtjkgjckkglfokaaGreat.Gr
open Go.RowKit
set_option linter.unusedVariables false
set_option linter.unusedSimpArgs false
def Two (z wx : World) (X Y : Nat) (a b : Array Value) : Prop := Below z.heap.size z wx /\ IsCells wx X a /\ IsCells wx Y b
end Go.Proofs.YtjkgjckkglfokaaGreat.Gr
/- Meant: what an act means at a document. -/
namespace Go.Proofs.YtjkgjckkglfokaaGreat.Gr
open Go.RowKit
set_option linter.unusedVariables false
set_option linter.unusedSimpArgs false
set_option maxRecDepth 100000
set_option maxHeartbeats 4000000
def actv (k wh : Int) (how : Bool) (n a : Nat) (nm vl : ByteArray) (xk : Int) (xn : ByteArray) (xa : Option Addr) (xal xac : Nat) (xt : ByteArray) (xka : Option Addr) (xkl xkc : Nat) : Array Value :=
 #[.int .i64 k, .int .i64 wh, .bool how, .int .u64 (n : Int), .int .u64 (a : Int), .string nm, .string vl, .int .i64 xk, .string xn, .slice xa xal xac, .string xt, .slice xka xkl xkc]
def MeantP (w : World) (k wh : Int) (nm vl : ByteArray) (xk : Int) (xn : ByteArray) (xa : Option Addr) (xal xac : Nat) (xt : ByteArray) (xka : Option Addr) (xkl xkc : Nat) (e : Ending) (w' : World) : Prop :=
 ∃ how n a, n < 18446744073709551616 /\ a < 18446744073709551616 /\ e = .returned (.agg (actv k wh how n a nm vl xk xn xa xal xac xt xka xkl xkc)) /\ Below w.heap.size w w'
theorem turn12 {A : Nat -> Prop} (w : World) (X : Nat) (h : A X) (v0 v1 v2 v3 v4 v5 v6 v7 v8 v9 v10 v11 : Value) : Turn A w ((((((((((((w.setCell ⟨X, 0, none⟩ v0).setCell ⟨X, 1, none⟩ v1).setCell ⟨X, 2, none⟩ v2).setCell ⟨X, 3, none⟩ v3).setCell ⟨X, 4, none⟩ v4).setCell ⟨X, 5, none⟩ v5).setCell ⟨X, 6, none⟩ v6).setCell ⟨X, 7, none⟩ v7).setCell ⟨X, 8, none⟩ v8).setCell ⟨X, 9, none⟩ v9).setCell ⟨X, 10, none⟩ v10).setCell ⟨X, 11, none⟩ v11) :=
 (((((((((((((Turn.refl A w).setCell (p := ⟨X, 0, none⟩) h v0).setCell (p := ⟨X, 1, none⟩) h v1).setCell (p := ⟨X, 2, none⟩) h v2).setCell (p := ⟨X, 3, none⟩) h v3).setCell (p := ⟨X, 4, none⟩) h v4).setCell (p := ⟨X, 5, none⟩) h v5).setCell (p := ⟨X, 6, none⟩) h v6).setCell (p := ⟨X, 7, none⟩) h v7).setCell (p := ⟨X, 8, none⟩) h v8).setCell (p := ⟨X, 9, none⟩) h v9).setCell (p := ⟨X, 10, none⟩) h v10).setCell (p := ⟨X, 11, none⟩) h v11)
theorem meant_any (w : World) (R : Nat -> Prop) (db : Nat) (D : Dc) (hv : View w R db D) (hw : WF D) (k wh : Int) (how : Bool) (n a : Nat) (nm vl : ByteArray) (xk : Int) (xn : ByteArray) (xa : Option Addr) (xal xac : Nat) (xt : ByteArray) (xka : Option Addr) (xkl xkc : Nat) (hn : n < 18446744073709551616) (ha : a < 18446744073709551616) :
  Calls Tryz.prog 35 #[.pointer (some ⟨db, 0, none⟩), .agg (actv k wh how n a nm vl xk xn xa xal xac xt xka xkl xkc)] w (MeantP w k wh nm vl xk xn xa xal xac xt xka xkl xkc) := by
 unfold actv
 obtain ⟨W1, hW1⟩ : ∃ W1, W1 = (w.alloc (.cells #[.int .i64 k, .int .i64 wh, .bool how, .int .u64 (n : Int), .int .u64 (a : Int), .string nm, .string vl, .int .i64 xk, .string xn, .slice xa xal xac, .string xt, .slice xka xkl xkc] 33)).alloc (.cells #[.int .i64 0, .int .i64 0, .bool false, .int .u64 0, .int .u64 0, .string ⟨#[]⟩, .string ⟨#[]⟩, .int .i64 0, .string ⟨#[]⟩, .slice none 0 0, .string ⟨#[]⟩, .slice none 0 0] 33) := ⟨_, rfl⟩
 have hs1 : W1.heap.size = w.heap.size + 2 := by rw [hW1]; simp
 have hb1 : Below w.heap.size w W1 := by rw [hW1]; exact (below_new' w _).alloc (by simp) _
 have HX1 : Hid (IsCells W1 w.heap.size #[.int .i64 k, .int .i64 wh, .bool how, .int .u64 (n : Int), .int .u64 (a : Int), .string nm, .string vl, .int .i64 xk, .string xn, .slice xa xal xac, .string xt, .slice xka xkl xkc]) := by rw [hW1]; exact (isCells_new w _ _).alloc _
 have HY1 : Hid (IsCells W1 (w.heap.size + 1) #[.int .i64 0, .int .i64 0, .bool false, .int .u64 0, .int .u64 0, .string ⟨#[]⟩, .string ⟨#[]⟩, .int .i64 0, .string ⟨#[]⟩, .slice none 0 0, .string ⟨#[]⟩, .slice none 0 0]) := by
  have := isCells_new (w.alloc (.cells #[.int .i64 k, .int .i64 wh, .bool how, .int .u64 (n : Int), .int .u64 (a : Int), .string nm, .string vl, .int .i64 xk, .string xn, .slice xa xal xac, .string xt, .slice xka xkl xkc] 33)) #[.int .i64 0, .int .i64 0, .bool false, .int .u64 0, .int .u64 0, .string ⟨#[]⟩, .string ⟨#[]⟩, .int .i64 0, .string ⟨#[]⟩, .slice none 0 0, .string ⟨#[]⟩, .slice none 0 0] 33
  rw [hW1]
  simp only [World.alloc, Array.size_push] at this ⊢
  exact this
 have hall := rAll_some W1 R db D 0 (hv.below hb1) hw (.inl rfl)
 rw [hW1] at hall
 have hlen := allA_len hw (h := 0) (.inl rfl)
 have HW1 := hid hW1
 have HB1 := hid hb1
 have HS1 := hid hs1
 clear hs1 hb1 hW1 hv
 go_enter Tryz.func35, Tryz.ntmps35
 go_wp2_with fail
 refine hall.mono ?_
 rw [<- HW1.out]
 rintro e w2 ⟨la, lc, rfl, hown, hb2⟩
 have HYL : Hid (∀ y ∈ allA D 0, y < 18446744073709551616) := fun y hy => by
  obtain ⟨s', hs'⟩ := allR_live hw y (by simpa [allA] using hy)
  exact (hw.lt hs').1
 generalize allA D 0 = ys at *
 have HO := hid hown
 have HX2 := hid (HX1.out.of_block (hb2.block _ HX1.out.lt))
 have HY2 := hid (HY1.out.of_block (hb2.block _ HY1.out.lt))
 have HB2 := hid (HB1.out.trans (hb2.mono HB1.out.size))
 have hc := HX2.out.cell
 have hf := HX2.out.frozen
 have hd := HY2.out.cell
 have hg := HY2.out.frozen
 have hl1 := HX2.out.lt
 have hl2 := HY2.out.lt
 have HTD : Hid (∀ w', Turn (fun b => b = w.heap.size \/ b = w.heap.size + 1) w2 w' -> Below w.heap.size w w') := fun w' ht => HB2.out.trans (ht.below HB2.out.size (fun k hk => by omega))
 clear hall hown hb2 HX1 HY1 HW1
 cases how with
 | false =>
  go_wp2
  refine bodyPost_ret (v := .agg (actv k wh false n a nm vl xk xn xa xal xac xt xka xkl xkc)) (by simp [results, Tryz.results35, go_sem, hd, actv]) rfl ⟨_, _, _, hn, ha, rfl, ?_⟩
  refine HTD.out _ ?_
  exact turn12 _ _ (.inr rfl) _ _ _ _ _ _ _ _ _ _ _ _
 | true =>
  by_cases h0 : ys.length = 0
  ·have hy : ys = [] := List.length_eq_zero_iff.1 h0
   subst hy
   clear h0
   go_wp2
   refine bodyPost_ret (v := .agg (actv k wh false n 0 nm vl xk xn xa xal xac xt xka xkl xkc)) (by simp [results, Tryz.results35, go_sem, hd, actv]) rfl ⟨_, _, _, hn, by omega, rfl, ?_⟩
   refine HTD.out _ ?_
   exact (((Turn.refl _ w2).setCell (p := ⟨w.heap.size, 2, none⟩) (.inl rfl) _).setCell (p := ⟨w.heap.size, 4, none⟩) (.inl rfl) _).trans (turn12 _ _ (.inr rfl) _ _ _ _ _ _ _ _ _ _ _ _)
  ·obtain ⟨-, -, hrow⟩ := row_cell HO.out
   have hpos : 0 < ys.length := by omega
   have hr1 : n % ys.length < ys.length := Nat.mod_lt _ hpos
   obtain ⟨x, hx⟩ : ∃ x, ys[n % ys.length]? = some x := ⟨_, List.getElem?_eq_getElem hr1⟩
   obtain ⟨g, e1, e2, e3, e4⟩ := hrow (n % ys.length) (.int .u64 (x : Int)) (by unfold hvals; rw [List.getElem?_map, hx]; rfl)
   subst e1
   have hg1 : ¬ g = w.heap.size := by have := HS1.out; omega
   have hg2 : ¬ w.heap.size = g := by have := HS1.out; omega
   have hxl : x < 18446744073709551616 := HYL.out x (List.mem_of_getElem? hx)
   have hcast : (a : Int) % ((ys.length : Int) + 1) = ((a % (ys.length + 1) : Nat) : Int) := by
    rw [show ((ys.length : Int) + 1) = ((ys.length + 1 : Nat) : Int) from by simp, <- Int.natCast_emod]
   by_cases ht : a % (ys.length + 1) = ys.length
   ·have hq : ((a : Int) % ((ys.length : Int) + 1) == (ys.length : Int)) = true := by rw [hcast, ht]; simp
    clear hcast ht
    go_wp2
    refine bodyPost_ret (v := .agg (actv k wh false x 0 nm vl xk xn xa xal xac xt xka xkl xkc)) (by simp [results, Tryz.results35, go_sem, hd, actv]) rfl ⟨_, _, _, hxl, by omega, rfl, ?_⟩
    refine HTD.out _ ?_
    exact ((((Turn.refl _ w2).setCell (p := ⟨w.heap.size, 2, none⟩) (.inl rfl) _).setCell (p := ⟨w.heap.size, 3, none⟩) (.inl rfl) _).setCell (p := ⟨w.heap.size, 4, none⟩) (.inl rfl) _).trans (turn12 _ _ (.inr rfl) _ _ _ _ _ _ _ _ _ _ _ _)
   ·have hq : ((a : Int) % ((ys.length : Int) + 1) == (ys.length : Int)) = false := by rw [hcast]; simp; omega
    have hr2 : a % (ys.length + 1) < ys.length := by have := Nat.mod_lt a (show 0 < ys.length + 1 by omega); omega
    obtain ⟨y, hy⟩ : ∃ y, ys[a % (ys.length + 1)]? = some y := ⟨_, List.getElem?_eq_getElem hr2⟩
    obtain ⟨g', e1', e2', e3', e4'⟩ := hrow (a % (ys.length + 1)) (.int .u64 (y : Int)) (by unfold hvals; rw [List.getElem?_map, hy]; rfl)
    cases e1'
    have hyl : y < 18446744073709551616 := HYL.out y (List.mem_of_getElem? hy)
    have hin : (0 : Int) <= (a : Int) % ((ys.length : Int) + 1) /\ (a : Int) % ((ys.length : Int) + 1) < (ys.length : Int) := by rw [hcast]; omega
    have hin1 := hin.1
    have hin2 := hin.2
    clear hcast ht hrow
    go_wp2
    refine bodyPost_ret (v := .agg (actv k wh false x y nm vl xk xn xa xal xac xt xka xkl xkc)) (by simp [results, Tryz.results35, go_sem, hd, actv]) rfl ⟨_, _, _, hxl, hyl, rfl, ?_⟩
    refine HTD.out _ ?_
    exact ((((Turn.refl _ w2).setCell (p := ⟨w.heap.size, 2, none⟩) (.inl rfl) _).setCell (p := ⟨w.heap.size, 3, none⟩) (.inl rfl) _).setCell (p := ⟨w.heap.size, 4, none⟩) (.inl rfl) _).trans (turn12 _ _ (.inr rfl) _ _ _ _ _ _ _ _ _ _ _ _)
end Go.Proofs.YtjkgjckkglfokaaGreat.Gr
/- Does: both documents, side by side. -/
namespace Go.Proofs.YtjkgjckkglfokaaGreat.Gr
open Go.RowKit
set_option linter.unusedVariables false
set_option linter.unusedSimpArgs false
set_option maxRecDepth 100000
set_option maxHeartbeats 4000000
structure Bo (w : World) (ro : Nat -> Nat) (db : Nat) (Q : Nat -> Prop) (rb : Nat) (D : Dc) : Prop where
 wf : WF D
 p : PDoc w ro db D
 r : RDoc w Q rb D
 ap : ∀ b, ro b ≠ 0 -> ¬ Q b /\ b ≠ rb
theorem Bo.turn {w w' : World} {ro : Nat -> Nat} {db : Nat} {Q : Nat -> Prop} {rb : Nat} {D : Dc} (h : Bo w ro db Q rb D) {A : Nat -> Prop} (ht : Turn A w w') (h1 : ∀ b, ro b ≠ 0 -> ¬ A b) (h2 : ∀ b, Q b -> ¬ A b) (h3 : ¬ A rb) : Bo w' ro db Q rb D :=
 ⟨h.wf, h.p.turn ht h1, h.r.turn ht h2 h3, h.ap⟩
theorem Bo.below {w w' : World} {ro : Nat -> Nat} {db : Nat} {Q : Nat -> Prop} {rb : Nat} {D : Dc} (h : Bo w ro db Q rb D) (hb : Below w.heap.size w w') : Bo w' ro db Q rb D :=
 h.turn (A := fun _ => False) ((Turn.refl _ _).then hb (Nat.le_refl _)) (fun _ _ h => h) (fun _ _ h => h) (fun h => h)
def DoP (w : World) (ro : Nat -> Nat) (db : Nat) (Q : Nat -> Prop) (rb : Nat) (e : Ending) (w' : World) : Prop :=
 e = .returned (.bool true) /\ Turn (fun b => ro b ≠ 0 \/ b = rb) w w' /\ ∃ ro' Q' D', Bo w' ro' db Q' rb D' /\ (∀ b, ro' b ≠ 0 -> ro b ≠ 0 \/ w.heap.size <= b) /\ (∀ b, Q' b -> Q b \/ w.heap.size <= b)
theorem PdocLt {w : World} {ro : Nat -> Nat} {db : Nat} {D : Dc} (h : PDoc w ro db D) : ∀ b, ro b ≠ 0 -> b < w.heap.size := by
 obtain ⟨sa, sc, ra, rc, L, h⟩ := h
 exact h.lt
structure Bh (w w' : World) (ro : Nat -> Nat) (db : Nat) (Q : Nat -> Prop) (rb : Nat) (D D' : Dc) (ro' : Nat -> Nat) : Prop where
 turn : Turn (fun b => ro b ≠ 0) w w'
 p : PDoc w' ro' db D'
 r : RDoc w' Q rb D
 new : ∀ b, ro' b ≠ 0 -> ro b ≠ 0 \/ w.heap.size <= b
 ap : ∀ b, ro' b ≠ 0 -> ¬ Q b /\ b ≠ rb
theorem Bo.half {w w' : World} {ro ro' : Nat -> Nat} {db : Nat} {Q : Nat -> Prop} {rb : Nat} {D D' : Dc} (h : Bo w ro db Q rb D) (ht : Turn (fun b => ro b ≠ 0) w w') (hp : PDoc w' ro' db D') (hn : ∀ b, ro' b ≠ 0 -> ro b ≠ 0 \/ w.heap.size <= b) : Bh w w' ro db Q rb D D' ro' :=
 ⟨ht, hp, h.r.turn ht (fun b hb e => (h.ap b e).1 hb) (fun e => (h.ap rb e).2 rfl), hn, fun b hb => by
  rcases hn b hb with h1 | h1
  ·exact h.ap b h1
  ·exact ⟨fun hq => by have := h.r.lt b hq; omega, fun e => by have := h.r.rbl; omega⟩⟩
theorem Bh.whole {w w' w'' : World} {ro ro' : Nat -> Nat} {db : Nat} {Q : Nat -> Prop} {rb : Nat} {D D' : Dc} (h : Bh w w' ro db Q rb D D' ro') (hw : WF D') (ht : Turn (fun b => b = rb) w' w'') (hr : RDoc w'' (fun b => Q b \/ (w'.heap.size <= b /\ b < w''.heap.size)) rb D') : DoP w ro db Q rb (.returned (.bool true)) w'' := by
 refine ⟨rfl, (h.turn.mono (fun _ _ e => .inl e)).trans (ht.mono (fun _ _ e => .inr e)), ro', _, D', ⟨hw, h.p.turn ht (fun b hb e => (h.ap b hb).2 e), hr, fun b hb => ⟨?_, (h.ap b hb).2⟩⟩, h.new, fun b hb => ?_⟩
 ·rintro (hq | ⟨hq, _⟩)
  ·exact (h.ap b hb).1 hq
  ·have := PdocLt h.p b hb
   omega
 ·rcases hb with hb | ⟨hb, _⟩
  ·exact .inl hb
  ·exact .inr (Nat.le_trans h.turn.size hb)
theorem DoP.from {z w w' : World} {ro : Nat -> Nat} {db : Nat} {Q : Nat -> Prop} {rb : Nat} {e : Ending} (ht : Turn (fun _ => False) z w) (h : DoP w ro db Q rb e w') : DoP z ro db Q rb e w' := by
 obtain ⟨h1, h2, ro', Q', D', h3, h4, h5⟩ := h
 exact ⟨h1, (ht.mono (fun _ _ h => h.elim)).trans h2, ro', Q', D', h3, fun b hb => (h4 b hb).imp_right (Nat.le_trans ht.size), fun b hb => (h5 b hb).imp_right (Nat.le_trans ht.size)⟩
theorem set12 {w : World} {X : Nat} {c0 c1 c2 c3 c4 c5 c6 c7 c8 c9 c10 c11 : Value} (h : IsCells w X #[c0, c1, c2, c3, c4, c5, c6, c7, c8, c9, c10, c11]) (v0 v1 v2 v3 v4 v5 v6 v7 v8 v9 v10 v11 : Value) :
  IsCells ((((((((((((w.setCell ⟨X, 0, none⟩ v0).setCell ⟨X, 1, none⟩ v1).setCell ⟨X, 2, none⟩ v2).setCell ⟨X, 3, none⟩ v3).setCell ⟨X, 4, none⟩ v4).setCell ⟨X, 5, none⟩ v5).setCell ⟨X, 6, none⟩ v6).setCell ⟨X, 7, none⟩ v7).setCell ⟨X, 8, none⟩ v8).setCell ⟨X, 9, none⟩ v9).setCell ⟨X, 10, none⟩ v10).setCell ⟨X, 11, none⟩ v11) X #[v0, v1, v2, v3, v4, v5, v6, v7, v8, v9, v10, v11] := by
 have h0 : IsCells _ X #[v0, c1, c2, c3, c4, c5, c6, c7, c8, c9, c10, c11] := h.set 0 v0
 have h1 : IsCells _ X #[v0, v1, c2, c3, c4, c5, c6, c7, c8, c9, c10, c11] := h0.set 1 v1
 have h2 : IsCells _ X #[v0, v1, v2, c3, c4, c5, c6, c7, c8, c9, c10, c11] := h1.set 2 v2
 have h3 : IsCells _ X #[v0, v1, v2, v3, c4, c5, c6, c7, c8, c9, c10, c11] := h2.set 3 v3
 have h4 : IsCells _ X #[v0, v1, v2, v3, v4, c5, c6, c7, c8, c9, c10, c11] := h3.set 4 v4
 have h5 : IsCells _ X #[v0, v1, v2, v3, v4, v5, c6, c7, c8, c9, c10, c11] := h4.set 5 v5
 have h6 : IsCells _ X #[v0, v1, v2, v3, v4, v5, v6, c7, c8, c9, c10, c11] := h5.set 6 v6
 have h7 : IsCells _ X #[v0, v1, v2, v3, v4, v5, v6, v7, c8, c9, c10, c11] := h6.set 7 v7
 have h8 : IsCells _ X #[v0, v1, v2, v3, v4, v5, v6, v7, v8, c9, c10, c11] := h7.set 8 v8
 have h9 : IsCells _ X #[v0, v1, v2, v3, v4, v5, v6, v7, v8, v9, c10, c11] := h8.set 9 v9
 have h10 : IsCells _ X #[v0, v1, v2, v3, v4, v5, v6, v7, v8, v9, v10, c11] := h9.set 10 v10
 have h11 : IsCells _ X #[v0, v1, v2, v3, v4, v5, v6, v7, v8, v9, v10, v11] := h10.set 11 v11
 exact h11
theorem turn12n {A : Nat -> Prop} {z w : World} (ht : Turn A z w) {X : Nat} (h : z.heap.size <= X) (v0 v1 v2 v3 v4 v5 v6 v7 v8 v9 v10 v11 : Value) : Turn A z ((((((((((((w.setCell ⟨X, 0, none⟩ v0).setCell ⟨X, 1, none⟩ v1).setCell ⟨X, 2, none⟩ v2).setCell ⟨X, 3, none⟩ v3).setCell ⟨X, 4, none⟩ v4).setCell ⟨X, 5, none⟩ v5).setCell ⟨X, 6, none⟩ v6).setCell ⟨X, 7, none⟩ v7).setCell ⟨X, 8, none⟩ v8).setCell ⟨X, 9, none⟩ v9).setCell ⟨X, 10, none⟩ v10).setCell ⟨X, 11, none⟩ v11) :=
 ((((((((((((ht.setNew (p := ⟨X, 0, none⟩) h v0).setNew (p := ⟨X, 1, none⟩) h v1).setNew (p := ⟨X, 2, none⟩) h v2).setNew (p := ⟨X, 3, none⟩) h v3).setNew (p := ⟨X, 4, none⟩) h v4).setNew (p := ⟨X, 5, none⟩) h v5).setNew (p := ⟨X, 6, none⟩) h v6).setNew (p := ⟨X, 7, none⟩) h v7).setNew (p := ⟨X, 8, none⟩) h v8).setNew (p := ⟨X, 9, none⟩) h v9).setNew (p := ⟨X, 10, none⟩) h v10).setNew (p := ⟨X, 11, none⟩) h v11)
theorem does_none (w : World) (ro : Nat -> Nat) (db : Nat) (Q : Nat -> Prop) (rb : Nat) (D : Dc) (hbo : Bo w ro db Q rb D) (k wh : Int) (how : Bool) (n a : Nat) (nm vl : ByteArray) (xk : Int) (xn : ByteArray) (xa : Option Addr) (xal xac : Nat) (xt : ByteArray) (xka : Option Addr) (xkl xkc : Nat) (hn : n < 18446744073709551616) (ha : a < 18446744073709551616)
  (hk : k ≠ 0 /\ k ≠ 1 /\ k ≠ 2 /\ k ≠ 3 /\ k ≠ 4 /\ k ≠ 5 /\ k ≠ 6) :
  Calls Tryz.prog 15 #[.iface 34 (.pointer (some ⟨db, 0, none⟩)), .pointer (some ⟨rb, 0, none⟩), .agg (actv k wh how n a nm vl xk xn xa xal xac xt xka xkl xkc)] w (DoP w ro db Q rb) := by
 have hme := meant_any (w.alloc (.cells (actv k wh how n a nm vl xk xn xa xal xac xt xka xkl xkc) 33)) _ rb D (hbo.r.view.below (below_new' w _)) hbo.wf k wh how n a nm vl xk xn xa xal xac xt xka xkl xkc hn ha
 have HX : Hid (IsCells (w.alloc (.cells (actv k wh how n a nm vl xk xn xa xal xac xt xka xkl xkc) 33)) w.heap.size (actv k wh how n a nm vl xk xn xa xal xac xt xka xkl xkc)) := isCells_new _ _ _
 have HBO : Hid (Bo w ro db Q rb D) := hbo
 obtain ⟨z0, z1, z2, z3, z4, z5, z6⟩ := hk
 have y0 : (k == 0) = false := by simpa using z0
 have y1 : (k == 1) = false := by simpa using z1
 have y2 : (k == 2) = false := by simpa using z2
 have y3 : (k == 3) = false := by simpa using z3
 have y4 : (k == 4) = false := by simpa using z4
 have y5 : (k == 5) = false := by simpa using z5
 have y6 : (k == 6) = false := by simpa using z6
 clear hbo z0 z1 z2 z3 z4 z5 z6
 unfold actv at HX hme ⊢
 go_enter Tryz.func15, Tryz.ntmps15
 go_wp2_with fail
 refine hme.mono ?_
 rintro e w1 ⟨how', n', a', hn', ha', rfl, hb1⟩
 unfold actv
 have HX1 : Hid (IsCells w1 w.heap.size _) := HX.out.of_block (hb1.block _ HX.out.lt)
 have hc := HX1.out.cell
 have hf := HX1.out.frozen
 have hl := HX1.out.lt
 have HT : Hid (Turn (fun _ => False) w w1) := ((Turn.refl _ _).alloc _).then hb1 (by simp)
 clear hme hb1
 go_wp2
 go_ret
 have HT2 := turn12n HT.out (X := w.heap.size) (Nat.le_refl _) (.int .i64 k) (.int .i64 wh) (.bool how') (.int .u64 (n' : Int)) (.int .u64 (a' : Int)) (.string nm) (.string vl) (.int .i64 xk) (.string xn) (.slice xa xal xac) (.string xt) (.slice xka xkl xkc)
 exact ⟨rfl, HT2.mono (fun _ _ h => h.elim), ro, Q, D, HBO.out.turn HT2 (fun _ _ h => h) (fun _ _ h => h) (fun h => h), fun b hb => .inl hb, fun b hb => .inl hb⟩
end Go.Proofs.YtjkgjckkglfokaaGreat.Gr
/- Does: Move, Delete, SetName. -/
namespace Go.Proofs.YtjkgjckkglfokaaGreat.Gr
open Go.RowKit
set_option linter.unusedVariables false
set_option linter.unusedSimpArgs false
set_option maxRecDepth 100000
set_option maxHeartbeats 4000000
theorem Bh.cell {w w' : World} {ro ro' : Nat -> Nat} {db : Nat} {Q : Nat -> Prop} {rb : Nat} {D D' : Dc} (h : Bh w w' ro db Q rb D D' ro') {X : Nat} (hX : X < w.heap.size) (hn : ∀ b, ro b ≠ 0 -> b < X) (o : Nat) : w'.cell? ⟨X, o, none⟩ = w.cell? ⟨X, o, none⟩ :=
 World.cell?_of_block (w := w) (a := ⟨X, o, none⟩) (h.turn.block X hX (fun e => by have := hn X e; omega))
theorem turn_cellr {w w' : World} {rb : Nat} (h : Turn (fun b => b = rb) w w') {X : Nat} (hX : X < w.heap.size) (hn : rb < X) (o : Nat) : w'.cell? ⟨X, o, none⟩ = w.cell? ⟨X, o, none⟩ :=
 World.cell?_of_block (w := w) (a := ⟨X, o, none⟩) (h.block X hX (fun e => by omega))
theorem does_mov (w : World) (ro : Nat -> Nat) (db : Nat) (Q : Nat -> Prop) (rb : Nat) (D : Dc) (hbo : Bo w ro db Q rb D) (wh : Int) (how : Bool) (n a : Nat) (nm vl : ByteArray) (xk : Int) (xn : ByteArray) (xa : Option Addr) (xal xac : Nat) (xt : ByteArray) (xka : Option Addr) (xkl xkc : Nat) (hn : n < 18446744073709551616) (ha : a < 18446744073709551616) :
  Calls Tryz.prog 15 #[.iface 34 (.pointer (some ⟨db, 0, none⟩)), .pointer (some ⟨rb, 0, none⟩), .agg (actv 1 wh how n a nm vl xk xn xa xal xac xt xka xkl xkc)] w (DoP w ro db Q rb) := by
 have hme := meant_any (w.alloc (.cells (actv 1 wh how n a nm vl xk xn xa xal xac xt xka xkl xkc) 33)) _ rb D (hbo.r.view.below (below_new' w _)) hbo.wf 1 wh how n a nm vl xk xn xa xal xac xt xka xkl xkc hn ha
 have HX : Hid (IsCells (w.alloc (.cells (actv 1 wh how n a nm vl xk xn xa xal xac xt xka xkl xkc) 33)) w.heap.size (actv 1 wh how n a nm vl xk xn xa xal xac xt xka xkl xkc)) := isCells_new _ _ _
 have HBO : Hid (Bo w ro db Q rb D) := hbo
 clear hbo
 unfold actv at HX hme ⊢
 go_enter Tryz.func15, Tryz.ntmps15
 go_upto_region 1 with fail
 go_cut [6] (fun p wx => p = .bool false /\ ∃ (how' : Bool) (n' a' : Nat), n' < 18446744073709551616 /\ a' < 18446744073709551616 /\ Hid (Turn (fun _ => False) w wx) /\ Hid (IsCells wx w.heap.size #[.int .i64 1, .int .i64 wh, .bool how', .int .u64 (n' : Int), .int .u64 (a' : Int), .string nm, .string vl, .int .i64 xk, .string xn, .slice xa xal xac, .string xt, .slice xka xkl xkc]))
 case first =>
  go_wp2_with fail
  refine hme.mono ?_
  rintro e w1 ⟨how', n', a', hn', ha', rfl, hb1⟩
  unfold actv
  have HX1 : Hid (IsCells w1 w.heap.size _) := HX.out.of_block (hb1.block _ HX.out.lt)
  have hc := HX1.out.cell
  have hf := HX1.out.frozen
  have hl := HX1.out.lt
  have HT : Hid (Turn (fun _ => False) w w1) := ((Turn.refl _ _).alloc _).then hb1 (by simp)
  clear hme hb1
  go_wp2_with fail
  go_meet
  exact ⟨rfl, how', n', a', hn', ha', turn12n HT.out (Nat.le_refl _) _ _ _ _ _ _ _ _ _ _ _ _, set12 HX1.out _ _ _ _ _ _ _ _ _ _ _ _⟩
 case rest =>
  obtain ⟨rfl, how', n', a', hn', ha', HT, HX1⟩ := hcut
  clear HX hme
  have HB1 : Hid (Bo wc ro db Q rb D) := HBO.out.turn HT.out (fun _ _ h => h) (fun _ _ h => h) (fun h => h)
  have hc := HX1.out.cell
  have hl := HX1.out.lt
  have hm : ∀ w : World, (method 303 34 (.pointer (some ⟨db, 0, none⟩)) "Move").run Tryz.prog w = .ok (159, .pointer (some ⟨db, 0, none⟩)) w := fun _ => by kernel_rfl
  have HBd : Hid (Bo wc.drew ro db Q rb D) := HB1.out.turn (A := fun _ => False) (Turn.refl _ _).drew (fun _ _ h => h) (fun _ _ h => h) (fun h => h)
  have hcp := pmov_any wc.drew ro db D n' a' wh HBd.out.p HBd.out.wf hn' ha'
  have hcr : ∀ W, RDoc W Q rb D -> Calls Tryz.prog 39 #[.pointer (some ⟨rb, 0, none⟩), .int .u64 (n' : Int), .int .i64 wh, .int .u64 (a' : Int)] W (RPost W Q rb (movD D n' wh a').1 (movD D n' wh a').2) := fun W h => rmov_any W Q rb D n' wh a' h HB1.out.wf hn' ha'
  have HWF : Hid (WF (movD D n' wh a').1) := HB1.out.wf.mov n' wh a'
  have hcd3 : wc.drew.cell? ⟨w.heap.size, 3, none⟩ = some (.int .u64 (n' : Int)) := hc 3
  have hcd1 : wc.drew.cell? ⟨w.heap.size, 1, none⟩ = some (.int .i64 wh) := hc 1
  have hcd4 : wc.drew.cell? ⟨w.heap.size, 4, none⟩ = some (.int .u64 (a' : Int)) := hc 4
  have HNR : Hid (∀ b, ro b ≠ 0 -> b < w.heap.size) := fun b hb => PdocLt HBO.out.p b hb
  have HTd : Hid (Turn (fun _ => False) w wc.drew) := HT.out.drew
  have hrl := HBO.out.r.rbl
  have tok0 : True := trivial
  have tok1 : True := trivial
  go_upto_region 10 with fail
  go_region_held3 (fun W => W.cell? ⟨w.heap.size, 3, none⟩ = some (.int .u64 (n' : Int)) /\ W.cell? ⟨w.heap.size, 1, none⟩ = some (.int .i64 wh) /\ W.cell? ⟨w.heap.size, 4, none⟩ = some (.int .u64 (a' : Int))) (first | exact ⟨hcd3, hcd1, hcd4⟩ | exact ⟨hcq3, hcq1, hcq4⟩ | exact ⟨hcs3, hcs1, hcs4⟩ | go_keep)
   (first
    | (go_at_call 159; have _t := tok0; (with_reducible refine hcp.mono ?_); rintro e w2 ⟨rfl, ht2, ro2, hp2, hn2⟩; have HH := HBd.out.half ht2 hp2 hn2; have HHh : Hid (Bh wc.drew w2 ro db Q rb D (movD D n' wh a').1 ro2) := HH; have hcq3 : w2.cell? ⟨w.heap.size, 3, none⟩ = some (.int .u64 (n' : Int)) := (HH.cell hl HNR.out 3).trans hcd3; have hcq1 : w2.cell? ⟨w.heap.size, 1, none⟩ = some (.int .i64 wh) := (HH.cell hl HNR.out 1).trans hcd1; have hcq4 : w2.cell? ⟨w.heap.size, 4, none⟩ = some (.int .u64 (a' : Int)) := (HH.cell hl HNR.out 4).trans hcd4; have hcr2 := hcr w2 HH.r; have hl2 : w.heap.size < w2.heap.size := Nat.lt_of_lt_of_le hl HH.turn.size; clear tok0 _t HH ht2 hp2 hn2 hcp)
    | (go_at_call 39; have _t := tok1; (with_reducible refine hcr2.mono ?_); rintro e w3 ⟨rfl, ht3, hr3⟩; have HD3 : Hid (DoP w ro db Q rb (.returned (.bool true)) w3) := (HHh.out.whole HWF.out ht3 hr3).from HTd.out; have hcs3 := (turn_cellr ht3 hl2 hrl 3).trans hcq3; have hcs1 := (turn_cellr ht3 hl2 hrl 1).trans hcq1; have hcs4 := (turn_cellr ht3 hl2 hrl 4).trans hcq4; clear tok1 _t hcr2 ht3 hr3))
  go_wp2
  go_ret
  exact HD3.out
theorem does_del (w : World) (ro : Nat -> Nat) (db : Nat) (Q : Nat -> Prop) (rb : Nat) (D : Dc) (hbo : Bo w ro db Q rb D) (wh : Int) (how : Bool) (n a : Nat) (nm vl : ByteArray) (xk : Int) (xn : ByteArray) (xa : Option Addr) (xal xac : Nat) (xt : ByteArray) (xka : Option Addr) (xkl xkc : Nat) (hn : n < 18446744073709551616) (ha : a < 18446744073709551616) :
  Calls Tryz.prog 15 #[.iface 34 (.pointer (some ⟨db, 0, none⟩)), .pointer (some ⟨rb, 0, none⟩), .agg (actv 2 wh how n a nm vl xk xn xa xal xac xt xka xkl xkc)] w (DoP w ro db Q rb) := by
 have hme := meant_any (w.alloc (.cells (actv 2 wh how n a nm vl xk xn xa xal xac xt xka xkl xkc) 33)) _ rb D (hbo.r.view.below (below_new' w _)) hbo.wf 2 wh how n a nm vl xk xn xa xal xac xt xka xkl xkc hn ha
 have HX : Hid (IsCells (w.alloc (.cells (actv 2 wh how n a nm vl xk xn xa xal xac xt xka xkl xkc) 33)) w.heap.size (actv 2 wh how n a nm vl xk xn xa xal xac xt xka xkl xkc)) := isCells_new _ _ _
 have HBO : Hid (Bo w ro db Q rb D) := hbo
 clear hbo
 unfold actv at HX hme ⊢
 go_enter Tryz.func15, Tryz.ntmps15
 go_upto_region 1 with fail
 go_cut [6] (fun p wx => p = .bool false /\ ∃ (how' : Bool) (n' a' : Nat), n' < 18446744073709551616 /\ a' < 18446744073709551616 /\ Hid (Turn (fun _ => False) w wx) /\ Hid (IsCells wx w.heap.size #[.int .i64 2, .int .i64 wh, .bool how', .int .u64 (n' : Int), .int .u64 (a' : Int), .string nm, .string vl, .int .i64 xk, .string xn, .slice xa xal xac, .string xt, .slice xka xkl xkc]))
 case first =>
  go_wp2_with fail
  refine hme.mono ?_
  rintro e w1 ⟨how', n', a', hn', ha', rfl, hb1⟩
  unfold actv
  have HX1 : Hid (IsCells w1 w.heap.size _) := HX.out.of_block (hb1.block _ HX.out.lt)
  have hc := HX1.out.cell
  have hf := HX1.out.frozen
  have hl := HX1.out.lt
  have HT : Hid (Turn (fun _ => False) w w1) := ((Turn.refl _ _).alloc _).then hb1 (by simp)
  clear hme hb1
  go_wp2_with fail
  go_meet
  exact ⟨rfl, how', n', a', hn', ha', turn12n HT.out (Nat.le_refl _) _ _ _ _ _ _ _ _ _ _ _ _, set12 HX1.out _ _ _ _ _ _ _ _ _ _ _ _⟩
 case rest =>
  obtain ⟨rfl, how', n', a', hn', ha', HT, HX1⟩ := hcut
  clear HX hme
  have HB1 : Hid (Bo wc ro db Q rb D) := HBO.out.turn HT.out (fun _ _ h => h) (fun _ _ h => h) (fun h => h)
  have hc := HX1.out.cell
  have hl := HX1.out.lt
  have hm : ∀ w : World, (method 303 34 (.pointer (some ⟨db, 0, none⟩)) "Delete").run Tryz.prog w = .ok (156, .pointer (some ⟨db, 0, none⟩)) w := fun _ => by kernel_rfl
  have HBd : Hid (Bo wc.drew ro db Q rb D) := HB1.out.turn (A := fun _ => False) (Turn.refl _ _).drew (fun _ _ h => h) (fun _ _ h => h) (fun h => h)
  have hcp := pdel_any wc.drew ro db D n' HBd.out.p HBd.out.wf hn'
  have hcr : ∀ W, RDoc W Q rb D -> Calls Tryz.prog 40 #[.pointer (some ⟨rb, 0, none⟩), .int .u64 (n' : Int)] W (RPost W Q rb (delD D n').1 (delD D n').2) := fun W h => rdel_any W Q rb D n' h HB1.out.wf hn'
  have HWF : Hid (WF (delD D n').1) := HB1.out.wf.del n'
  have hcd3 : wc.drew.cell? ⟨w.heap.size, 3, none⟩ = some (.int .u64 (n' : Int)) := hc 3
  have HNR : Hid (∀ b, ro b ≠ 0 -> b < w.heap.size) := fun b hb => PdocLt HBO.out.p b hb
  have HTd : Hid (Turn (fun _ => False) w wc.drew) := HT.out.drew
  have hrl := HBO.out.r.rbl
  have tok0 : True := trivial
  have tok1 : True := trivial
  go_upto_region 12 with fail
  go_region_held3 (fun W => W.cell? ⟨w.heap.size, 3, none⟩ = some (.int .u64 (n' : Int))) (first | exact hcd3 | exact hcq3 | exact hcs3 | go_keep)
   (first
    | (go_at_call 156; have _t := tok0; (with_reducible refine hcp.mono ?_); rintro e w2 ⟨rfl, ht2, ro2, hp2, hn2⟩; have HH := HBd.out.half ht2 hp2 hn2; have HHh : Hid (Bh wc.drew w2 ro db Q rb D (delD D n').1 ro2) := HH; have hcq3 : w2.cell? ⟨w.heap.size, 3, none⟩ = some (.int .u64 (n' : Int)) := (HH.cell hl HNR.out 3).trans hcd3; have hcr2 := hcr w2 HH.r; have hl2 : w.heap.size < w2.heap.size := Nat.lt_of_lt_of_le hl HH.turn.size; clear tok0 _t HH ht2 hp2 hn2 hcp)
    | (go_at_call 40; have _t := tok1; (with_reducible refine hcr2.mono ?_); rintro e w3 ⟨rfl, ht3, hr3⟩; have HD3 : Hid (DoP w ro db Q rb (.returned (.bool true)) w3) := (HHh.out.whole HWF.out ht3 hr3).from HTd.out; have hcs3 := (turn_cellr ht3 hl2 hrl 3).trans hcq3; clear tok1 _t hcr2 ht3 hr3))
  go_wp2
  go_ret
  exact HD3.out
theorem does_name (w : World) (ro : Nat -> Nat) (db : Nat) (Q : Nat -> Prop) (rb : Nat) (D : Dc) (hbo : Bo w ro db Q rb D) (wh : Int) (how : Bool) (n a : Nat) (nm vl : ByteArray) (xk : Int) (xn : ByteArray) (xa : Option Addr) (xal xac : Nat) (xt : ByteArray) (xka : Option Addr) (xkl xkc : Nat) (hn : n < 18446744073709551616) (ha : a < 18446744073709551616) :
  Calls Tryz.prog 15 #[.iface 34 (.pointer (some ⟨db, 0, none⟩)), .pointer (some ⟨rb, 0, none⟩), .agg (actv 3 wh how n a nm vl xk xn xa xal xac xt xka xkl xkc)] w (DoP w ro db Q rb) := by
 have hme := meant_any (w.alloc (.cells (actv 3 wh how n a nm vl xk xn xa xal xac xt xka xkl xkc) 33)) _ rb D (hbo.r.view.below (below_new' w _)) hbo.wf 3 wh how n a nm vl xk xn xa xal xac xt xka xkl xkc hn ha
 have HX : Hid (IsCells (w.alloc (.cells (actv 3 wh how n a nm vl xk xn xa xal xac xt xka xkl xkc) 33)) w.heap.size (actv 3 wh how n a nm vl xk xn xa xal xac xt xka xkl xkc)) := isCells_new _ _ _
 have HBO : Hid (Bo w ro db Q rb D) := hbo
 clear hbo
 unfold actv at HX hme ⊢
 go_enter Tryz.func15, Tryz.ntmps15
 go_upto_region 1 with fail
 go_cut [6] (fun p wx => p = .bool false /\ ∃ (how' : Bool) (n' a' : Nat), n' < 18446744073709551616 /\ a' < 18446744073709551616 /\ Hid (Turn (fun _ => False) w wx) /\ Hid (IsCells wx w.heap.size #[.int .i64 3, .int .i64 wh, .bool how', .int .u64 (n' : Int), .int .u64 (a' : Int), .string nm, .string vl, .int .i64 xk, .string xn, .slice xa xal xac, .string xt, .slice xka xkl xkc]))
 case first =>
  go_wp2_with fail
  refine hme.mono ?_
  rintro e w1 ⟨how', n', a', hn', ha', rfl, hb1⟩
  unfold actv
  have HX1 : Hid (IsCells w1 w.heap.size _) := HX.out.of_block (hb1.block _ HX.out.lt)
  have hc := HX1.out.cell
  have hf := HX1.out.frozen
  have hl := HX1.out.lt
  have HT : Hid (Turn (fun _ => False) w w1) := ((Turn.refl _ _).alloc _).then hb1 (by simp)
  clear hme hb1
  go_wp2_with fail
  go_meet
  exact ⟨rfl, how', n', a', hn', ha', turn12n HT.out (Nat.le_refl _) _ _ _ _ _ _ _ _ _ _ _ _, set12 HX1.out _ _ _ _ _ _ _ _ _ _ _ _⟩
 case rest =>
  obtain ⟨rfl, how', n', a', hn', ha', HT, HX1⟩ := hcut
  clear HX hme
  have HB1 : Hid (Bo wc ro db Q rb D) := HBO.out.turn HT.out (fun _ _ h => h) (fun _ _ h => h) (fun h => h)
  have hc := HX1.out.cell
  have hl := HX1.out.lt
  have hm : ∀ w : World, (method 303 34 (.pointer (some ⟨db, 0, none⟩)) "SetName").run Tryz.prog w = .ok (161, .pointer (some ⟨db, 0, none⟩)) w := fun _ => by kernel_rfl
  have HBd : Hid (Bo wc.drew ro db Q rb D) := HB1.out.turn (A := fun _ => False) (Turn.refl _ _).drew (fun _ _ h => h) (fun _ _ h => h) (fun h => h)
  have hcp := psetName_any wc.drew ro db D n' nm HBd.out.p HBd.out.wf.fits hn'
  have hcr : ∀ W, RDoc W Q rb D -> Calls Tryz.prog 41 #[.pointer (some ⟨rb, 0, none⟩), .int .u64 (n' : Int), .string nm] W (RPost W Q rb (setNameD D n' nm).1 (setNameD D n' nm).2) := fun W h => rsetName_any W Q rb D n' nm h HB1.out.wf.fits hn'
  have HWF : Hid (WF (setNameD D n' nm).1) := HB1.out.wf.setName n' nm
  have hcd3 : wc.drew.cell? ⟨w.heap.size, 3, none⟩ = some (.int .u64 (n' : Int)) := hc 3
  have hcd5 : wc.drew.cell? ⟨w.heap.size, 5, none⟩ = some (.string nm) := hc 5
  have HNR : Hid (∀ b, ro b ≠ 0 -> b < w.heap.size) := fun b hb => PdocLt HBO.out.p b hb
  have HTd : Hid (Turn (fun _ => False) w wc.drew) := HT.out.drew
  have hrl := HBO.out.r.rbl
  have tok0 : True := trivial
  have tok1 : True := trivial
  go_upto_region 14 with fail
  go_region_held3 (fun W => W.cell? ⟨w.heap.size, 3, none⟩ = some (.int .u64 (n' : Int)) /\ W.cell? ⟨w.heap.size, 5, none⟩ = some (.string nm)) (first | exact ⟨hcd3, hcd5⟩ | exact ⟨hcq3, hcq5⟩ | exact ⟨hcs3, hcs5⟩ | go_keep)
   (first
    | (go_at_call 161; have _t := tok0; (with_reducible refine hcp.mono ?_); rintro e w2 ⟨rfl, ht2, ro2, hp2, hn2⟩; have HH := HBd.out.half ht2 hp2 hn2; have HHh : Hid (Bh wc.drew w2 ro db Q rb D (setNameD D n' nm).1 ro2) := HH; have hcq3 : w2.cell? ⟨w.heap.size, 3, none⟩ = some (.int .u64 (n' : Int)) := (HH.cell hl HNR.out 3).trans hcd3; have hcq5 : w2.cell? ⟨w.heap.size, 5, none⟩ = some (.string nm) := (HH.cell hl HNR.out 5).trans hcd5; have hcr2 := hcr w2 HH.r; have hl2 : w.heap.size < w2.heap.size := Nat.lt_of_lt_of_le hl HH.turn.size; clear tok0 _t HH ht2 hp2 hn2 hcp)
    | (go_at_call 41; have _t := tok1; (with_reducible refine hcr2.mono ?_); rintro e w3 ⟨rfl, ht3, hr3⟩; have HD3 : Hid (DoP w ro db Q rb (.returned (.bool true)) w3) := (HHh.out.whole HWF.out ht3 hr3).from HTd.out; have hcs3 := (turn_cellr ht3 hl2 hrl 3).trans hcq3; have hcs5 := (turn_cellr ht3 hl2 hrl 5).trans hcq5; clear tok1 _t hcr2 ht3 hr3))
  go_wp2
  go_ret
  exact HD3.out
end Go.Proofs.YtjkgjckkglfokaaGreat.Gr
