/- Patterns in plain, by levels, and how they lie in memory. -/
import Derived.Test.YtmeinebfdljndaaNm
namespace Go.Proofs.Ytmeinebfdljndaa
open Go.RowKit
set_option linter.unusedVariables false

/-- A pattern's node, over whatever its children are. -/
structure Pn (α : Type) where
  nm : ByteArray
  dr : Bool
  ks : List α
/-- Patterns of at most so many levels. -/
def TP : Nat → Type
  | 0 => Empty
  | n + 1 => Pn (TP n)

def maxT : Nat := 2932031007402

/-- A pattern lies in memory, in blocks below B. -/
def TwAt (w : World) (B : Nat) : (n : Nat) → Array Value → TP n → Prop
  | 0, _, t => False
  | n + 1, v, t => ∃ (ka : Option Addr) (kc : Nat), v = #[.string t.nm, .bool t.dr, .slice ka t.ks.length kc] ∧ t.ks.length ≤ maxT ∧ t.ks.length ≤ kc ∧
      ∀ i k, t.ks[i]? = some k → ∃ (b o : Nat) (u : Array Value), ka = some ⟨b, o, none⟩ ∧ b < B ∧ u.size = 3 ∧ (∀ j, j < 3 → w.cell? ⟨b, o + i * 3 + j, none⟩ = u[j]?) ∧ TwAt w B n u k

theorem TwAt.of_cells {w w' : World} {B : Nat} (hc : ∀ b o, b < B → w'.cell? ⟨b, o, none⟩ = w.cell? ⟨b, o, none⟩) : ∀ {n : Nat} {v : Array Value} {t : TP n}, TwAt w B n v t → TwAt w' B n v t
  | 0, _, _, h => h.elim
  | n + 1, v, t, h => by
    obtain ⟨ka, kc, h1, h2, h3, h7⟩ := h
    refine ⟨ka, kc, h1, h2, h3, fun i k hk => ?_⟩
    obtain ⟨b, o, u, g1, g3, g4, g5, g6⟩ := h7 i k hk
    exact ⟨b, o, u, g1, g3, g4, fun j hj => (hc _ _ g3).trans (g5 j hj), TwAt.of_cells hc g6⟩
theorem TwAt.mono {w : World} {B B' : Nat} (h2 : B ≤ B') : ∀ {n : Nat} {v : Array Value} {t : TP n}, TwAt w B n v t → TwAt w B' n v t
  | 0, _, _, h => h.elim
  | n + 1, v, t, h => by
    obtain ⟨ka, kc, g1, g2, g3, g7⟩ := h
    refine ⟨ka, kc, g1, g2, g3, fun i k hk => ?_⟩
    obtain ⟨b, o, u, e1, e3, e4, e5, e6⟩ := g7 i k hk
    exact ⟨b, o, u, e1, by omega, e4, e5, TwAt.mono h2 e6⟩
theorem TwAt.below {w w' : World} {B B' n : Nat} {v : Array Value} {t : TP n} (h : TwAt w B n v t) (hb : Below B' w w') (hB : B ≤ B') : TwAt w' B n v t :=
  h.of_cells (fun b o hb' => hb.cell (p := ⟨b, o, none⟩) (show b < B' by omega))
theorem TwAt.form {w : World} {B : Nat} : ∀ {n : Nat} {v : Array Value} {t : TP n}, TwAt w B n v t → ∃ nm dr ka kl kc, v = #[.string nm, .bool dr, .slice ka kl kc]
  | 0, _, _, h => h.elim
  | n + 1, v, t, h => by
    obtain ⟨ka, kc, h1, _⟩ := h
    exact ⟨_, _, _, _, _, h1⟩

/-- A list of patterns lies in memory. -/
def KdAt (w : World) (B n : Nat) (ka : Option Addr) (L : List (TP n)) : Prop :=
  ∀ i k, L[i]? = some k → ∃ (b o : Nat) (u : Array Value), ka = some ⟨b, o, none⟩ ∧ b < B ∧ u.size = 3 ∧ (∀ j, j < 3 → w.cell? ⟨b, o + i * 3 + j, none⟩ = u[j]?) ∧ TwAt w B n u k
theorem KdAt.below {w w' : World} {B B' n : Nat} {ka : Option Addr} {L : List (TP n)} (h : KdAt w B n ka L) (hb : Below B' w w') (hB : B ≤ B') : KdAt w' B n ka L := by
  intro i k hk
  obtain ⟨b, o, u, h1, h3, h4, h5, h6⟩ := h i k hk
  exact ⟨b, o, u, h1, h3, h4, fun j hj => (hb.cell (p := ⟨b, o + i * 3 + j, none⟩) (show b < B' by omega)).trans (h5 j hj), h6.below hb hB⟩
theorem KdAt.get {w : World} {B n : Nat} {ka : Option Addr} {L : List (TP n)} (h : KdAt w B n ka L) {i : Nat} {k : TP n} (hk : L[i]? = some k) :
    ∃ b o nm dr ka' kl kc, ka = some ⟨b, o, none⟩ ∧ b < B ∧ w.cell? ⟨b, o + i * 3, none⟩ = some (.string nm) ∧ w.cell? ⟨b, o + i * 3 + 1, none⟩ = some (.bool dr) ∧ w.cell? ⟨b, o + i * 3 + 2, none⟩ = some (.slice ka' kl kc) ∧ TwAt w B n #[.string nm, .bool dr, .slice ka' kl kc] k := by
  obtain ⟨b, o, u, h1, h3, h4, h5, h6⟩ := h i k hk
  obtain ⟨nm, dr, ka', kl, kc, rfl⟩ := h6.form
  exact ⟨b, o, nm, dr, ka', kl, kc, h1, h3, h5 0 (by omega), h5 1 (by omega), h5 2 (by omega), h6⟩

/-- How many nodes it has. -/
def sumL {α : Type} (f : α → Nat) : List α → Nat
  | [] => 0
  | k :: r => f k + sumL f r
def szT : (n : Nat) → TP n → Nat
  | 0, _ => 0
  | n + 1, t => 1 + sumL (szT n) t.ks
theorem szT_pos : ∀ (n : Nat) (t : TP (n + 1)), 1 ≤ szT (n + 1) t := fun n t => by simp [szT]
theorem sumL_snoc {α : Type} (f : α → Nat) : ∀ (L : List α) (x : α), sumL f (L ++ [x]) = sumL f L + f x
  | [], x => by simp [sumL]
  | k :: r, x => by
    have := sumL_snoc f r x
    simp only [List.cons_append, sumL, this]
    omega
theorem sumL_take {α : Type} (f : α → Nat) {L : List α} {i : Nat} {x : α} (h : L[i]? = some x) : sumL f (L.take (i + 1)) = sumL f (L.take i) + f x := by
  rw [take_snoc h, sumL_snoc]
theorem sumL_le {α : Type} (f : α → Nat) : ∀ (L : List α) (i : Nat), sumL f (L.take i) ≤ sumL f L
  | [], i => by simp [sumL]
  | k :: r, 0 => by simp [sumL]
  | k :: r, i + 1 => by
    have := sumL_le f r i
    simp only [List.take_succ_cons, sumL]
    omega

/-- A place: its name, the one above it, whether it is right under that. -/
structure Plc where
  nm : ByteArray
  up : Int
  dr : Bool
def plL {α : Type} (f : α → Int → Nat → List Plc) : List α → Int → Nat → List Plc
  | [], _, _ => []
  | k :: r, me, pos => f k me pos ++ plL f r me (pos + (f k me pos).length)
/-- All its nodes in order: itself behind so many, then those of its children. -/
def plT : (n : Nat) → TP n → Int → Nat → List Plc
  | 0, _, _, _ => []
  | n + 1, t, up, pos => ⟨t.nm, up, t.dr⟩ :: plL (plT n) t.ks (pos : Int) (pos + 1)
theorem plL_len {α : Type} (f : α → Int → Nat → List Plc) (g : α → Nat) (hf : ∀ k me pos, (f k me pos).length = g k) : ∀ (L : List α) (me : Int) (pos : Nat), (plL f L me pos).length = sumL g L
  | [], me, pos => rfl
  | k :: r, me, pos => by
    have := plL_len f g hf r me (pos + (f k me pos).length)
    simp only [plL, List.length_append, sumL, hf]
    rw [hf] at this
    omega
theorem plT_len : ∀ (n : Nat) (t : TP n) (up : Int) (pos : Nat), (plT n t up pos).length = szT n t
  | 0, t, up, pos => rfl
  | n + 1, t, up, pos => by
    have := plL_len (plT n) (szT n) (fun k me p => plT_len n k me p) t.ks (pos : Int) (pos + 1)
    simp only [plT, szT, List.length_cons, this]
    omega
theorem plL_snoc {α : Type} (f : α → Int → Nat → List Plc) : ∀ (L : List α) (x : α) (me : Int) (pos : Nat), plL f (L ++ [x]) me pos = plL f L me pos ++ f x me (pos + (plL f L me pos).length)
  | [], x, me, pos => by simp [plL]
  | k :: r, x, me, pos => by
    have := plL_snoc f r x me (pos + (f k me pos).length)
    simp only [List.cons_append, plL, this, List.append_assoc, List.length_append, Nat.add_assoc]
/-- All names can be. -/
def okN (p : ByteArray) : Bool := p.toList.isEmpty || nameL p.data.toList
def okA (L : List Plc) : Bool := L.all (fun p => okN p.nm)
def nmT : (n : Nat) → TP n → Bool
  | 0, _ => true
  | n + 1, t => okN t.nm && t.ks.all (nmT n)
theorem okA_plL {α : Type} (f : α → Int → Nat → List Plc) (g : α → Bool) (hf : ∀ k me pos, okA (f k me pos) = g k) : ∀ (L : List α) (me : Int) (pos : Nat), okA (plL f L me pos) = L.all g
  | [], me, pos => rfl
  | k :: r, me, pos => by
    have := okA_plL f g hf r me (pos + (f k me pos).length)
    have h1 := hf k me pos
    unfold okA at *
    simp only [plL, List.all_append, this, h1, List.all_cons]
theorem okA_plT : ∀ (n : Nat) (t : TP n) (up : Int) (pos : Nat), okA (plT n t up pos) = nmT n t
  | 0, t, up, pos => rfl
  | n + 1, t, up, pos => by
    have := okA_plL (plT n) (nmT n) (fun k me p => okA_plT n k me p) t.ks (pos : Int) (pos + 1)
    unfold okA at *
    simp only [plT, nmT, List.all_cons, this]
/-- What is wrong with a pattern. -/
def chkT (n : Nat) (t : TP n) : Int := if 16 < szT n t then 120 else if nmT n t then 0 else 6

end Go.Proofs.Ytmeinebfdljndaa
