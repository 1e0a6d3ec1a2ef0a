/- What the law holds on to while it goes on. -/
import Derived.Test.YtafpfelgngniiaaUni
namespace Go.Proofs.Ytafpfelgngniiaa
open Go.RowKit
set_option linter.unusedVariables false
attribute [local go_sem] Bel.cell Bel.fz

/-- All since w2: what was there is as it was, and these rows are the law's own. -/
def KP (w2 : World) (Ls : List (Option Addr × Nat × List Pl)) (X : World) : Prop := Below w2.heap.size w2 X ∧ ∀ a c L, (a, c, L) ∈ Ls → X.ownsRow w2.heap.size 41 4 (.slice a L.length c) L.length (plCells L)
theorem KP.size {w2 : World} {Ls : List (Option Addr × Nat × List Pl)} {X : World} (h : KP w2 Ls X) : w2.heap.size ≤ X.heap.size := h.1.size
theorem KP.on {w2 : World} {Ls : List (Option Addr × Nat × List Pl)} {X Y : World} (h : KP w2 Ls X) (hb : Below X.heap.size X Y) : KP w2 Ls Y :=
  ⟨h.1.trans (hb.mono h.1.size), fun a c L hm => own_of_block (h.2 a c L hm) (fun k hk => hb.block k (own_block_lt (h.2 a c L hm) k hk).2)⟩
theorem KP.put {w2 : World} {Ls : List (Option Addr × Nat × List Pl)} {X Y : World} {a : Option Addr} {c : Nat} {L : List Pl} (h : KP w2 Ls X) (hb : Below X.heap.size X Y) (ho : Y.ownsRow X.heap.size 41 4 (.slice a L.length c) L.length (plCells L)) : KP w2 ((a, c, L) :: Ls) Y := by
  refine ⟨(h.on hb).1, fun a' c' L' hm => ?_⟩
  rcases List.mem_cons.1 hm with he | hm
  · cases he
    exact own_less ho h.size
  · exact (h.on hb).2 _ _ _ hm
theorem KP.pls {w2 : World} {Ls : List (Option Addr × Nat × List Pl)} {X : World} {a : Option Addr} {c : Nat} {L : List Pl} (h : KP w2 Ls X) (hm : (a, c, L) ∈ Ls) : PlsAt X X.heap.size a L := row_pls (h.2 a c L hm)
theorem KP.old {w2 : World} {Ls : List (Option Addr × Nat × List Pl)} {X : World} {a : Option Addr} {L : List Pl} (h : KP w2 Ls X) (ha : PlsAt w2 w2.heap.size a L) : PlsAt X X.heap.size a L := (ha.below h.1 (Nat.le_refl _)).more h.size
theorem KP.call {w2 : World} {Ls : List (Option Addr × Nat × List Pl)} {X : World} {N : Nat} {args : Array Value} {L : List Pl} {y : Int} (h : KP w2 Ls X) (hc : Calls Try.prog N args X (PlQ X L y)) :
    Calls Try.prog N args X fun e Y => ∃ va vc, e = .returned (.tuple #[.slice va L.length vc, .int .i64 y]) ∧ Hid (KP w2 ((va, vc, L) :: Ls) Y) := by
  refine hc.mono fun e Y hq => ?_
  obtain ⟨va, vc, h1, h2, h3, h4⟩ := hq
  exact ⟨va, vc, h1, h.put h4 h2⟩
theorem KP.callP {w2 : World} {Ls : List (Option Addr × Nat × List Pl)} {X : World} {N : Nat} {args : Array Value} {L : List (Int × Int)} {y : Int} (h : KP w2 Ls X) (hc : Calls Try.prog N args X (PrQ X L y)) :
    Calls Try.prog N args X fun e Y => ∃ va vc, e = .returned (.tuple #[.slice va L.length vc, .int .i64 y]) ∧ Hid (KP w2 Ls Y) ∧ Hid (PrsAt Y va L) ∧ Hid (Below X.heap.size X Y) := by
  refine hc.mono fun e Y hq => ?_
  obtain ⟨va, vc, h1, h2, h3⟩ := hq
  exact ⟨va, vc, h1, h.on h3, h2, h3⟩
theorem KP.callK {w2 : World} {Ls : List (Option Addr × Nat × List Pl)} {X : World} {N : Nat} {args : Array Value} {L : List Nat} {y : Int} (h : KP w2 Ls X) (hc : Calls Try.prog N args X (KsQ X L y)) :
    Calls Try.prog N args X fun e Y => ∃ va vc, e = .returned (.tuple #[.slice va L.length vc, .int .i64 y]) ∧ Hid (KP w2 Ls Y) ∧ Hid (KsAt Y va L) ∧ Hid (Below X.heap.size X Y) := by
  refine hc.mono fun e Y hq => ?_
  obtain ⟨va, vc, h1, h2, h3⟩ := hq
  exact ⟨va, vc, h1, h.on h3, h2, h3⟩
theorem KsAt.bel {w w' : World} {a : Option Addr} {L : List Nat} (h : KsAt w a L) (hb : Below w.heap.size w w') : KsAt w' a L := fun i p hp => by
  obtain ⟨g, h1, h2, h3⟩ := h i p hp
  exact ⟨g, h1, Nat.lt_of_lt_of_le h2 hb.size, (hb.cell (p := ⟨g, i, none⟩) h2).trans h3⟩

/-- A row that may be written over. -/
def Sz (B : Nat) (a : Option Addr) (n : Nat) (X : World) : Prop := n = 0 ∨ ∃ g, a = some ⟨g, 0, none⟩ ∧ B ≤ g ∧ ∃ cs : Array Value, IsCells X g cs ∧ n * 4 ≤ cs.size
theorem Sz.set {B : Nat} {a : Option Addr} {n : Nat} {X : World} (h : Sz B a n X) (g o : Nat) (v : Value) : Sz B a n (X.setCell ⟨g, o, none⟩ v) := by
  rcases h with h | ⟨g', h1, h2, cs, h3, h4⟩
  · exact .inl h
  · by_cases e : g' = g
    · subst e
      exact .inr ⟨g', h1, h2, _, h3.set o v, by simpa using h4⟩
    · exact .inr ⟨g', h1, h2, cs, h3.other e v, h4⟩
theorem Sz.of {w2 : World} {Ls : List (Option Addr × Nat × List Pl)} {X : World} {a : Option Addr} {c : Nat} {L : List Pl} (h : KP w2 Ls X) (hm : (a, c, L) ∈ Ls) : Sz w2.heap.size a L.length X := by
  rcases (h.2 a c L hm).2 with ⟨-, h0⟩ | ⟨g, cap, cur, e1, hb, hh, h1, h2, h3, h4⟩
  · exact .inl h0
  · simp only [Value.slice.injEq, true_and] at e1
    obtain ⟨rfl, rfl⟩ := e1
    exact .inr ⟨g, rfl, hb, cur, ⟨_, hh⟩, by rw [h3]; exact Nat.mul_le_mul_right _ h1⟩
/-- While both are written over. -/
def ZS (w2 : World) (pa : Option Addr) (pn : Nat) (ta : Option Addr) (tn : Nat) (X : World) : Prop := Below w2.heap.size w2 X ∧ Sz w2.heap.size pa pn X ∧ Sz w2.heap.size ta tn X
theorem ZS.set {w2 : World} {pa ta : Option Addr} {pn tn : Nat} {X : World} (h : ZS w2 pa pn ta tn X) {g : Nat} (hg : w2.heap.size ≤ g) (o : Nat) (v : Value) : ZS w2 pa pn ta tn (X.setCell ⟨g, o, none⟩ v) :=
  ⟨h.1.setCell (p := ⟨g, o, none⟩) hg v, h.2.1.set g o v, h.2.2.set g o v⟩
theorem Sz.on {B : Nat} {a : Option Addr} {n : Nat} {X Y : World} (h : Sz B a n X) (hb : Below X.heap.size X Y) : Sz B a n Y := by
  rcases h with h | ⟨g, h1, h2, cs, h3, h4⟩
  · exact .inl h
  · exact .inr ⟨g, h1, h2, cs, h3.of_block (hb.block _ h3.lt), h4⟩
theorem ZS.on {w2 : World} {pa ta : Option Addr} {pn tn : Nat} {X Y : World} (h : ZS w2 pa pn ta tn X) (hb : Below X.heap.size X Y) : ZS w2 pa pn ta tn Y :=
  ⟨h.1.trans (hb.mono h.1.size), h.2.1.on hb, h.2.2.on hb⟩
theorem Sz.at {B : Nat} {a : Option Addr} {n k : Nat} {X : World} (h : Sz B a n X) (hk : k < n) : ∃ g, a = some ⟨g, 0, none⟩ ∧ B ≤ g ∧ g < X.heap.size ∧ ∀ j, j < 4 → (∃ v, X.cell? ⟨g, k * 4 + j, none⟩ = some v) ∧ X.frozen? ⟨g, k * 4 + j, none⟩ = false := by
  rcases h with h | ⟨g, h1, h2, cs, h3, h4⟩
  · omega
  · refine ⟨g, h1, h2, h3.lt, fun j hj => ⟨⟨cs[k * 4 + j]'(by omega), ?_⟩, h3.frozen _⟩⟩
    rw [h3.cell]
    exact Array.getElem?_eq_getElem (by omega)

set_option maxRecDepth 100000 in
set_option maxHeartbeats 2000000 in
/-- placed of the same list twice, however long. -/
theorem placed_long (w : World) {a b : Option Addr} {ca cb : Nat} {L : List Pl} (ha : PlsAt w w.heap.size a L) (hb : PlsAt w w.heap.size b L) (hl : L.length ≤ 4611686018427387904) :
    Calls Try.prog 15 #[.slice a L.length ca, .slice b L.length cb] w fun e w' => e = .returned (.bool true) ∧ Below w.heap.size w w' := by
  have HA : Hid (PlsAt w w.heap.size a L) := ha
  have HB : Hid (PlsAt w w.heap.size b L) := hb
  clear ha hb
  go_enter Try.func15, Try.ntmps15
  go_wp2
  go_loopw [5] (fun u wr => ∃ i : Nat, i ≤ L.length ∧ u = .int .i64 (i : Int) ∧ w.heap.size ≤ wr.heap.size ∧ Hid (Below w.heap.size w wr)) (fun u _ => L.length - (intOf u).toNat)
  case atStart => exact ⟨0, by omega, rfl, Nat.le_refl _, Below.refl _ _⟩
  case round =>
    obtain ⟨i, hi, rfl, hz, HS⟩ := hrel
    by_cases hlt : i < L.length
    · obtain ⟨p, hp⟩ : ∃ p, L[i]? = some p := ⟨_, List.getElem?_eq_getElem hlt⟩
      obtain ⟨f, q, rfl, hf, a0, a1, a2, a3⟩ := (HA.out.below HS.out (Nat.le_refl _)) i p hp
      obtain ⟨g, o, rfl, hg, b0, b1, b2, b3⟩ := (HB.out.below HS.out (Nat.le_refl _)) i p hp
      have lf : f < wr.heap.size := by omega
      have lg : g < wr.heap.size := by omega
      have hi9 : (i : Int) < (L.length : Int) := by omega
      clear hp
      go_wp2_with fail
      refine wp_region_bel (by kernel_rfl) (by kernel_rfl) ?_
      intro hne
      repeat go_big_quiet_step (fail)
      refine wpQuiet_nil ?_
      rintro _ ⟨u, rfl⟩
      have HU : Hid (w.heap.size ≤ u.w.heap.size ∧ Below w.heap.size w u.w) := ⟨Nat.le_trans hz u.h.size, HS.out.trans (u.h.mono hz)⟩
      go_wp2
      go_roundw
      case rel => exact ⟨i + 1, by omega, by go_num, HU.out.1, HU.out.2⟩
      case measure => simp [intOf]; omega
    · go_wp2
      go_ret
      exact ⟨rfl, HS.out⟩

end Go.Proofs.Ytafpfelgngniiaa
