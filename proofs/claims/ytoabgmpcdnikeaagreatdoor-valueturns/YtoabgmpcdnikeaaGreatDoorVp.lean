/- Two values held against each other, in plain, and that it may be turned about. -/
import Derived.Test.YtoabgmpcdnikeaaGreatDoorVc
namespace Go.Proofs.YtoabgmpcdnikeaaGreatDoor
open Go.RowKit
set_option linter.unusedVariables false

/-- A value in plain. -/
structure Vl where
  k : Int
  b : Bool
  n : Int
  no : Bool
  t : ByteArray
  L : List ByteArray

abbrev Nm := Int × Bool
/-- As a truth, a text, a number; whether it can be. -/
def Vl.tr (v : Vl) : Bool := trB v.k v.b v.n v.no (Tx v.t) v.L.length
def Vl.tx (v : Vl) : ByteArray := txV v.k v.b v.n v.no v.t v.L
def Vl.nm (v : Vl) : Nm := nmV v.k v.b v.n v.no v.t v.L
def Vl.can (v : Vl) : Bool := canV v.k (Tx v.t) (v.L.map Tx)
/-- Its numbers; its texts. -/
def Vl.nums (v : Vl) : List Nm := if v.k = 4 then v.L.map (fun s => rdN (Tx s)) else [v.nm]
def Vl.texts (v : Vl) : List ByteArray := if v.k = 4 then v.L else [v.t]
/-- One of the one list and one of the other one. -/
def anyN (op : ByteArray) (A B : List Nm) : Bool := A.any fun x => B.any fun y => nmB op x.1 x.2 y.1 y.2
/-- The least and the greatest. -/
def endS (e : List Nm) (x : Nm) : List Nm := if x.2 = false then e else match e with
  | (lo, p) :: (hi, q) :: _ => [(min lo x.1, p), (max hi x.1, q)]
  | _ => [x, x]
def ends (l : List Nm) : List Nm := l.foldl endS []
/-- Texts: the same, or not. -/
def anyT (op : ByteArray) (A B : List ByteArray) : Bool := if A = [] ∨ B = [] then false else if op = ⟨#[61]⟩ then B.any (fun s => A.any fun x => decide (x = s)) else (A.any fun s => decide (s ≠ B.headD ⟨#[]⟩)) || (B.any fun s => decide (s ≠ A.headD ⟨#[]⟩))
/-- Whether one of them is of a kind. -/
def has2 (k : Int) (v u : Vl) : Bool := decide (v.k = k) || decide (u.k = k)
def bitN (b : Bool) : Nm := (if b then 1 else 0, true)
/-- Held against each other. -/
def cmpV (op : ByteArray) (v u : Vl) : Bool :=
  if has2 1 v u && (has2 4 v u || !ordB op) then nmB op (bitN v.tr).1 (bitN v.tr).2 (bitN u.tr).1 (bitN u.tr).2
  else if ordB op then anyN op (ends v.nums) (ends u.nums)
  else if has2 2 v u then anyN op v.nums u.nums
  else anyT op v.texts u.texts

/-- The sign turned about. -/
def turnO (op : ByteArray) : ByteArray := if op = ⟨#[60]⟩ then ⟨#[62]⟩ else if op = ⟨#[60, 61]⟩ then ⟨#[62, 61]⟩ else if op = ⟨#[62]⟩ then ⟨#[60]⟩ else if op = ⟨#[62, 61]⟩ then ⟨#[60, 61]⟩ else op
theorem turn_ord {op : ByteArray} (h : IsOp op) : ordB (turnO op) = ordB op := by
  rcases h with rfl | rfl | rfl | rfl | rfl | rfl <;> rfl
theorem turn_is {op : ByteArray} (h : IsOp op) : IsOp (turnO op) := by
  rcases h with rfl | rfl | rfl | rfl | rfl | rfl <;> simp [turnO, IsOp]
theorem cmpI_turn (x y : Int) : cmpI y x = - cmpI x y := by
  unfold cmpI
  split <;> split <;> simp <;> omega
theorem mt_turn {op : ByteArray} (h : IsOp op) (o : Int) : mt (turnO op) (-o) = mt op o := by
  rcases h with rfl | rfl | rfl | rfl | rfl | rfl <;> simp [turnO, mt] <;> omega
theorem nmB_turn {op : ByteArray} (h : IsOp op) (x y : Int) (p q : Bool) : nmB (turnO op) y q x p = nmB op x p y q := by
  unfold nmB
  rw [Bool.and_comm q p]
  by_cases hp : (p && q) = true
  · rw [if_pos hp, if_pos hp, cmpI_turn x y, mt_turn h]
  · rw [if_neg hp, if_neg hp]
    rcases h with rfl | rfl | rfl | rfl | rfl | rfl <;> rfl
theorem any_swap {α β : Type} (A : List α) (B : List β) (f : α → β → Bool) : (A.any fun x => B.any fun y => f x y) = (B.any fun y => A.any fun x => f x y) := by
  rw [Bool.eq_iff_iff]
  simp only [List.any_eq_true]
  constructor
  · rintro ⟨x, hx, y, hy, h⟩
    exact ⟨y, hy, x, hx, h⟩
  · rintro ⟨y, hy, x, hx, h⟩
    exact ⟨x, hx, y, hy, h⟩
theorem anyN_turn {op : ByteArray} (h : IsOp op) (A B : List Nm) : anyN (turnO op) B A = anyN op A B := by
  unfold anyN
  rw [any_swap]
  congr 1
  funext x
  congr 1
  funext y
  exact nmB_turn h _ _ _ _
theorem anyT_turn (op : ByteArray) (A B : List ByteArray) : anyT op B A = anyT op A B := by
  unfold anyT
  by_cases h1 : A = [] ∨ B = []
  · rw [if_pos h1, if_pos h1.symm]
  · rw [if_neg h1, if_neg (fun e => h1 e.symm)]
    by_cases h2 : op = ⟨#[61]⟩
    · rw [if_pos h2, if_pos h2, Bool.eq_iff_iff]
      simp only [List.any_eq_true, decide_eq_true_eq]
      exact ⟨fun ⟨x, a, y, b, e⟩ => ⟨y, b, x, a, e.symm⟩, fun ⟨x, a, y, b, e⟩ => ⟨y, b, x, a, e.symm⟩⟩
    · rw [if_neg h2, if_neg h2, Bool.or_comm]
theorem has2_turn (k : Int) (v u : Vl) : has2 k u v = has2 k v u := Bool.or_comm _ _
theorem cmpV_turn {op : ByteArray} (h : IsOp op) (v u : Vl) : cmpV (turnO op) u v = cmpV op v u := by
  unfold cmpV
  rw [has2_turn 1 v u, has2_turn 4 v u, has2_turn 2 v u, turn_ord h, nmB_turn h, anyN_turn h, anyN_turn h]
  by_cases ho : ordB op = true
  · simp only [ho, if_true]
  · have : turnO op = op := by
      rcases h with rfl | rfl | rfl | rfl | rfl | rfl <;> first | rfl | (exact absurd rfl ho)
    rw [this, anyT_turn]

end Go.Proofs.YtoabgmpcdnikeaaGreatDoor
