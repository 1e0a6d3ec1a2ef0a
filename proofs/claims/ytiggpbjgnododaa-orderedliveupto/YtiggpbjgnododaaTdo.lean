/- does: one act on a list and on the document's: what it leaves; Put and Drop. -/
import Derived.Test.YtiggpbjgnododaaTall
namespace Go.Proofs.Ytiggpbjgnododaa.T
open Go.RowKit Go.Shelf
set_option linter.unusedVariables false

/-- The blocks that an act may turn. -/
def DoF (db rb : Nat) (lent : Bool) (v : Value) (b : Nat) : Prop := b = db ∨ b = rb ∨ (lent = false ∧ v.ownBlock = some b)

/-- What an act leaves. -/
def DoP (w : World) (B db rb : Nat) (a : Option Addr) (n cap : Nat) (lent : Bool) (rv : Value) (w' : World) : Prop :=
  ∃ L' a' cap' lent' ed' ra' rc', Both w' B db rb L' a' cap' lent' ed' ra' rc' ∧ Rise kf L' ∧ Turn (DoF db rb lent (.slice a n cap)) w w' ∧
    (∀ k, (Value.slice a' L'.length cap').ownBlock = some k → (lent = false ∧ (Value.slice a n cap).ownBlock = some k) ∨ (lent' = true ∧ (Value.slice a n cap).ownBlock = some k) ∨ w.heap.size ≤ k) ∧
    (∀ k, (Value.slice ra' L'.length rc').ownBlock = some k → rv.ownBlock = some k ∨ w.heap.size ≤ k)

theorem Turn.weak {A A' : Nat → Prop} {X Y : World} (h : Turn A X Y) (hA : ∀ k, A k → A' k) : Turn A' X Y :=
  ⟨h.os, h.tape, h.output, h.size, fun k hk hn => h.block k hk (fun ha => hn (hA k ha))⟩

theorem Both.below {w w' : World} {B db rb : Nat} {L : List (Int × Int)} {a : Option Addr} {cap : Nat} {lent : Bool} {ed : Int} {ra : Option Addr} {rc : Nat} (h : Both w B db rb L a cap lent ed ra rc) (hb : Below w.heap.size w w') : Both w' B db rb L a cap lent ed ra rc :=
  ⟨h.list.below hb, h.ref.below hb, h.ne, h.rowr, h.rowd, h.rows⟩

theorem DoP.below {w w0 w' : World} {B db rb : Nat} {a : Option Addr} {n cap : Nat} {lent : Bool} {rv : Value} (hb : Below w.heap.size w w0) (h : DoP w0 B db rb a n cap lent rv w') : DoP w B db rb a n cap lent rv w' := by
  obtain ⟨L', a', cap', lent', ed', ra', rc', h1, h2, h3, h4, h5⟩ := h
  have hs := hb.size
  refine ⟨L', a', cap', lent', ed', ra', rc', h1, h2, ⟨h3.os.trans hb.os, h3.tape.trans hb.tape, h3.output.trans hb.output, Nat.le_trans hs h3.size, fun k hk hn => (h3.block k (by omega) hn).trans (hb.block k hk)⟩, fun k hk => ?_, fun k hk => (h5 k hk).imp id (fun h => by omega)⟩
  rcases h4 k hk with h | h | h
  · exact .inl h
  · exact .inr (.inl h)
  · exact .inr (.inr (by omega))

/-- Nothing but what was lent has changed. -/
theorem DoP.read {w w' : World} {B db rb : Nat} {L : List (Int × Int)} {a : Option Addr} {cap : Nat} {lent lent' : Bool} {ed : Int} {ra : Option Addr} {rc : Nat} (h : Both w B db rb L a cap lent ed ra rc) (hr : Rise kf L) (hl : lent = true → lent' = true) (h1 : LAt w' B db 9 #[] L a cap lent' ed) (ht : Turn (fun b => b = db) w w') : DoP w B db rb a L.length cap lent (.slice ra L.length rc) w' := by
  refine ⟨L, a, cap, lent', ed, ra, rc, ⟨h1, h.ref.turned (db := db) (fun e => h.ne e.symm) h.rowd ht, h.ne, h.rowr, h.rowd, h.rows⟩, hr, Turn.weak ht (fun _ e => .inl e), fun k hk => ?_, fun k hk => .inl hk⟩
  cases lent with
  | false => exact .inl ⟨rfl, hk⟩
  | true => exact .inr (.inl ⟨hl rfl, hk⟩)

theorem DoP.same {w w' : World} {B db rb : Nat} {L : List (Int × Int)} {a : Option Addr} {cap : Nat} {lent : Bool} {ed : Int} {ra : Option Addr} {rc : Nat} (h : Both w B db rb L a cap lent ed ra rc) (hr : Rise kf L) (hb : Below w.heap.size w w') : DoP w B db rb a L.length cap lent (.slice ra L.length rc) w' :=
  DoP.read h hr id (h.list.below hb) ((Turn.refl _ w).then hb (Nat.le_refl _))

/-- Both are edited, the list first. -/
theorem DoP.edit {w w1 w2 : World} {B db rb : Nat} {L L' : List (Int × Int)} {a : Option Addr} {cap : Nat} {lent : Bool} {ed : Int} {ra : Option Addr} {rc : Nat} {R R' : Value} {e e' : Ending} (h : Both w B db rb L a cap lent ed ra rc) (hr : Rise kf L')
    (h1 : EdP w B db 9 #[] a L.length cap lent R L' e w1) (h2 : REdP w1 B rb ra rc R' L' e' w2) (hsame : ∀ ra' rc' k, ra' = ra → rc' = rc → (Value.slice ra' L'.length rc').ownBlock = some k → (Value.slice ra L.length rc).ownBlock = some k) : DoP w B db rb a L.length cap lent (.slice ra L.length rc) w2 := by
  obtain ⟨-, a', cap', lent', ed', l1, t1, f1, g1⟩ := h1
  obtain ⟨-, ra', rc', r1, t2, g2⟩ := h2
  have hs1 := t1.size
  have hdl := h.list.head.lt
  have hrl := h.ref.head.lt
  have rowk : ∀ k, (Value.slice a' L'.length cap').ownBlock = some k → k < w1.heap.size := fun k hk => (own_block_lt l1.row k hk).2
  have ne1 : ∀ k, (Value.slice a' L'.length cap').ownBlock = some k → k ≠ rb := fun k hk => by
    rcases g1 k hk with ⟨_, hx⟩ | ⟨_, hx⟩ | hx
    · exact h.rowr k hx
    · exact h.rowr k hx
    · omega
  have refk : ∀ k, (Value.slice ra' L'.length rc').ownBlock = some k → (Value.slice ra L.length rc).ownBlock = some k ∨ w1.heap.size ≤ k := fun k hk => by
    rcases g2 k hk with ⟨e1, e2⟩ | hx
    · exact .inl (hsame _ _ k e1 e2 hk)
    · exact .inr hx
  refine ⟨L', a', cap', lent', ed', ra', rc', ⟨l1.of_blocks (t2.block db (by omega) h.ne) (fun k hk => t2.block k (rowk k hk) (ne1 k hk)), r1, h.ne, ne1, fun k hk => ?_, fun k hk hk2 => ?_⟩, hr, ?_, g1, fun k hk => (refk k hk).imp id (fun h => by omega)⟩
  · rcases refk k hk with hx | hx
    · exact h.rowd k hx
    · omega
  · rcases refk k hk2 with hx | hx
    · rcases g1 k hk with ⟨_, hy⟩ | ⟨_, hy⟩ | hy
      · exact h.rows k hy hx
      · exact h.rows k hy hx
      · have := (own_block_lt h.ref.row k hx).2; omega
    · have := rowk k hk; omega
  · refine ⟨t2.os.trans t1.os, t2.tape.trans t1.tape, t2.output.trans t1.output, Nat.le_trans t1.size t2.size, fun k hk hn => ?_⟩
    refine (t2.block k (by omega) (fun e => hn (.inr (.inl e)))).trans (t1.block k hk (fun hx => hn ?_))
    rcases hx with hx | hx
    · exact .inl hx
    · exact .inr (.inr hx)

theorem slice_own {ra ra' : Option Addr} {rc rc' m n : Nat} {k : Nat} (h1 : ra' = ra) (h2 : rc' = rc) (h : (Value.slice ra' m rc').ownBlock = some k) : (Value.slice ra n rc).ownBlock = some k := by
  subst h1 h2
  cases ra' with
  | none => simp [Value.ownBlock] at h
  | some ad => simpa [Value.ownBlock] using h

end Go.Proofs.Ytiggpbjgnododaa.T
