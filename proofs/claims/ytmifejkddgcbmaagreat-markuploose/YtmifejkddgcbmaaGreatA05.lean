/- References in plain words: a number's digits, a name, what stands at a place, the whole text read. -/
import Derived.Test.YtmifejkddgcbmaaGreatA03
import Derived.Test.YtmifejkddgcbmaaGreatA04
namespace Go.Proofs.YtmifejkddgcbmaaGreat
set_option linter.unusedVariables false
set_option linter.unusedSimpArgs false

/-- What a digit counts; 16: it is none. -/
def dig (b : Nat) : Nat := if 48 ≤ b ∧ b ≤ 57 then b - 48 else if 97 ≤ b ∧ b ≤ 102 then b - 87 else if 65 ≤ b ∧ b ≤ 70 then b - 55 else 16
theorem dig_is (b : Nat) : (48 ≤ b ∧ b ≤ 57 ∧ dig b = b - 48) ∨ (97 ≤ b ∧ b ≤ 102 ∧ dig b = b - 87) ∨ (65 ≤ b ∧ b ≤ 70 ∧ dig b = b - 55) ∨ (¬ (48 ≤ b ∧ b ≤ 57) ∧ ¬ (97 ≤ b ∧ b ≤ 102) ∧ ¬ (65 ≤ b ∧ b ≤ 70) ∧ dig b = 16) := by
  unfold dig
  split
  · omega
  · split
    · omega
    · split <;> omega

/-- A number's digits from the i-th on (r: what those ahead count), and the ; behind them: the number, how many bytes it has with 'off' ahead, what is wrong. -/
def num (base most off : Nat) : Nat → Nat → List UInt8 → Int × Int × Int
  | _, _, [] => (0, 0, 4)
  | i, r, b :: t => if b.toNat = 59 ∧ 0 < i then ((r : Int), ((off + i + 1 : Nat) : Int), 0) else if base ≤ dig b.toNat ∨ i = most then (0, 0, 20) else num base most off (i + 1) (r * base + dig b.toNat) t

def nms : List (List UInt8 × Nat) := [([38, 97, 109, 112, 59], 38), ([38, 108, 116, 59], 60), ([38, 103, 116, 59], 62), ([38, 113, 117, 111, 116, 59], 34), ([38, 97, 112, 111, 115, 59], 39)]
def namedF : List (List UInt8 × Nat) → List UInt8 → Int × Int × Int
  | [], _ => (0, 0, 20)
  | (x, r) :: t, l => if x.isPrefixOf l = true then ((r : Int), (x.length : Int), 0) else if l.isPrefixOf x = true then (0, 0, 4) else namedF t l

/-- The reference with which a list of bytes begins; whether its character can be is not asked. -/
def refP (l : List UInt8) : Int × Int × Int :=
  if ([38, 35, 120] : List UInt8).isPrefixOf l = true then num 16 6 3 0 0 (l.drop 3) else if ([38, 35] : List UInt8).isPrefixOf l = true then num 10 7 2 0 0 (l.drop 2) else namedF nms l

def chkC (p : Int × Int × Int) : Int × Int × Int := if p.2.2 = 0 ∧ charB p.1 = false then (0, 0, 7) else p

/-- What stands at the beginning: a character, itself or as a reference. -/
def nextP (l : List UInt8) : Int × Int × Int :=
  match l with
  | [] => (0, 0, 4)
  | b :: _ => if b.toNat = 38 then chkC (refP l) else fans l

/-- What comes of a text: what is read (acc) up to a place (pos), the rest. -/
def unF : Nat → List UInt8 → List UInt8 → Nat → List UInt8 × Int × Int
  | 0, _, acc, _ => (acc, 0, 0)
  | k + 1, l, acc, pos =>
    if l = [] then (acc, 0, 0)
    else if (nextP l).2.2 ≠ 0 then ([], (pos : Int), (nextP l).2.2)
    else if 16384 < acc.length + size (nextP l).1.toNat then ([], (pos : Int), 2)
    else unF k (l.drop (nextP l).2.1.toNat) (acc ++ enc (nextP l).1.toNat) (pos + (nextP l).2.1.toNat)
/-- What Unescape answers. -/
def uans (l : List UInt8) : List UInt8 × Int × Int := unF l.length l [] 0

theorem num_ok (base most off : Nat) (t : List UInt8) : ∀ i r : Nat, (num base most off i r t).2.2 = 0 → ∃ (R j : Nat), num base most off i r t = ((R : Int), ((off + j + 1 : Nat) : Int), 0) ∧ i ≤ j ∧ j - i + 1 ≤ t.length := by
  induction t with
  | nil => intro i r h; simp [num] at h
  | cons b t ih =>
    intro i r h
    rw [num] at h ⊢
    split
    · rename_i h1
      exact ⟨r, i, rfl, Nat.le_refl _, by simp⟩
    · rename_i h1
      rw [if_neg h1] at h
      split
      · rename_i h2
        rw [if_pos h2] at h
        simp at h
      · rename_i h2
        rw [if_neg h2] at h
        obtain ⟨R, j, e1, e2, e3⟩ := ih (i + 1) _ h
        exact ⟨R, j, e1, by omega, by simp; omega⟩

theorem isPre {x l : List UInt8} (h : x.isPrefixOf l = true) : x.length ≤ l.length := by
  obtain ⟨t, rfl⟩ := List.isPrefixOf_iff_prefix.1 h
  simp

theorem namedF_ok (l : List UInt8) : ∀ ns : List (List UInt8 × Nat), (∀ p ∈ ns, 1 ≤ p.1.length) → (namedF ns l).2.2 = 0 → ∃ R n : Nat, namedF ns l = ((R : Int), (n : Int), 0) ∧ 1 ≤ n ∧ n ≤ l.length := by
  intro ns
  induction ns with
  | nil => intro _ h; simp [namedF] at h
  | cons p ns ih =>
    obtain ⟨x, r⟩ := p
    intro hp h
    rw [namedF] at h ⊢
    split
    · rename_i h1
      exact ⟨r, x.length, rfl, hp (x, r) (by simp), isPre h1⟩
    · rename_i h1
      rw [if_neg h1] at h
      split
      · rename_i h2
        rw [if_pos h2] at h
        simp at h
      · rename_i h2
        rw [if_neg h2] at h
        exact ih (fun p hp' => hp p (by simp [hp'])) h

theorem refP_ok {l : List UInt8} (h : (refP l).2.2 = 0) : ∃ R n : Nat, refP l = ((R : Int), (n : Int), 0) ∧ 1 ≤ n ∧ n ≤ l.length := by
  unfold refP at h ⊢
  split
  · rename_i h1
    rw [if_pos h1] at h
    have hl := isPre h1
    simp at hl
    obtain ⟨R, j, e1, e2, e3⟩ := num_ok 16 6 3 _ 0 0 h
    rw [List.length_drop] at e3
    exact ⟨R, _, e1, by omega, by omega⟩
  · rename_i h1
    rw [if_neg h1] at h
    split
    · rename_i h2
      rw [if_pos h2] at h
      have hl := isPre h2
      simp at hl
      obtain ⟨R, j, e1, e2, e3⟩ := num_ok 10 7 2 _ 0 0 h
      rw [List.length_drop] at e3
      exact ⟨R, _, e1, by omega, by omega⟩
    · rename_i h2
      rw [if_neg h2] at h
      exact namedF_ok l nms (by decide) h

theorem chkC_ok {p : Int × Int × Int} (h : (chkC p).2.2 = 0) : chkC p = p ∧ p.2.2 = 0 ∧ charB p.1 = true := by
  unfold chkC at h ⊢
  split
  · rename_i h1
    rw [if_pos h1] at h
    simp at h
  · rename_i h1
    rw [if_neg h1] at h
    refine ⟨rfl, h, ?_⟩
    cases hc : charB p.1
    · exact absurd ⟨h, hc⟩ h1
    · rfl

theorem nextP_ok {l : List UInt8} (h : (nextP l).2.2 = 0) : ∃ R n : Nat, nextP l = ((R : Int), (n : Int), 0) ∧ Ch R ∧ 1 ≤ n ∧ n ≤ l.length := by
  cases l with
  | nil => simp [nextP] at h
  | cons b t =>
    by_cases hb : b.toNat = 38
    · have e : nextP (b :: t) = chkC (refP (b :: t)) := by simp [nextP, hb]
      rw [e] at h ⊢
      obtain ⟨e1, e2, e3⟩ := chkC_ok h
      obtain ⟨R, n, e4, e5, e6⟩ := refP_ok e2
      rw [e1, e4]
      rw [e4, charB_nat] at e3
      exact ⟨R, n, rfl, by simpa using e3, e5, e6⟩
    · have e : nextP (b :: t) = fans (b :: t) := by simp [nextP, hb]
      rw [e] at h ⊢
      cases hf : first (b :: t) with
      | none => simp [fans, hf] at h
      | some p =>
        obtain ⟨r, n⟩ := p
        obtain ⟨h1, h2, u, h3⟩ := first_some hf
        have h4 := congrArg List.length h3
        rw [List.length_append] at h4
        have h5 := enc_pos r
        exact ⟨r, n, fans_of hf, h1, by omega, by omega⟩

end Go.Proofs.YtmifejkddgcbmaaGreat

/- Markup read, in plain: what the reader comes to, from every place of a text. -/
namespace Go.Proofs.YtmifejkddgcbmaaGreat
set_option linter.unusedVariables false
set_option linter.unusedSimpArgs false

/-- Where a reader is; how many nodes have begun; how many elements are around. -/
structure St where
  at_ : Nat
  nodes : Nat
  op : Nat

/-- A thing is read, or there is a fault at a place. -/
abbrev Rs (α : Type) := Sum (α × St) (Nat × Int)

abbrev Bs := List UInt8
def ba (l : Bs) : ByteArray := ⟨l.toArray⟩

variable (l : Bs)

def needP (s : St) : Rs UInt8 := match l[s.at_]? with
  | some b => .inl (b, s)
  | none => .inr (s.at_, 4)
def expectP (c : UInt8) (s : St) : Rs Unit := match l[s.at_]? with
  | some b => if b = c then .inl ((), { s with at_ := s.at_ + 1 }) else .inr (s.at_, 3)
  | none => .inr (s.at_, 4)
def runN (p : UInt8 → Bool) (a : Nat) : Nat := ((l.drop a).takeWhile p).length
def blanksP (s : St) : St := { s with at_ := s.at_ + runN l (fun b => blankB b.toNat) s.at_ }
def nameP (s : St) : Rs Bs := match l[s.at_]? with
  | none => .inr (s.at_, 4)
  | some b => if beginB b.toNat then
      (if nameL ((l.drop s.at_).takeWhile fun b => inB b.toNat) then .inl (((l.drop s.at_).takeWhile fun b => inB b.toNat), { s with at_ := s.at_ + runN l (fun b => inB b.toNat) s.at_ }) else .inr (s.at_, 6))
    else .inr (s.at_, 3)
def seesP (p : Bs) (a : Nat) : Bool := p.isPrefixOf (l.drop a)
def breaksP (p : Bs) (a : Nat) : Bool := (l.drop a).isPrefixOf p

/-- The place of the first p in a text. -/
def findP (p : Bs) : Bs → Option Nat
  | [] => if p.isPrefixOf [] then some 0 else none
  | b :: r => if p.isPrefixOf (b :: r) then some 0 else (findP p r).map (· + 1)

/-- What stands between: its place is behind the beginning. -/
def skipP (n : Nat) (to : Bs) (s : St) : Rs Bs := match findP to (l.drop (s.at_ + n)) with
  | none => .inr (s.at_, 4)
  | some k => .inl (((l.drop (s.at_ + n)).take k), { s with at_ := s.at_ + n + k + to.length })

def beginP (s : St) (a : Nat) : Rs Unit := if s.nodes = 4096 ∨ s.op = 64 then .inr (a, 2) else .inl ((), { s with nodes := s.nodes + 1 })
def growP (s : St) (out x : Bs) (a : Nat) : Rs Bs := if 16384 < out.length + x.length then .inr (a, 2) else .inl ((out ++ x), s)
def putP (s : St) (out x : Bs) (a : Nat) : Rs Bs :=
  if out = [] then (match beginP s a with
    | .inl (_, s1) => growP s1 out x a
    | .inr (p, e) => .inr (p, e)) else growP s out x a

/-- The bytes that could be a reference. -/
def refOf (r : Bs) : Bs := match (r.take 10).findIdx? (· = 59) with
  | some i => (r.take 10).take (i + 1)
  | none => r.take 10
def letterP (s : St) : Rs Bs := match l.drop s.at_ with
  | [] => .inr (s.at_, 7)
  | b :: r => if b = 38 then
      (if (uans (refOf (b :: r))).2.2 = 0 then .inl ((uans (refOf (b :: r))).1, { s with at_ := s.at_ + (refOf (b :: r)).length }) else .inr (s.at_, (uans (refOf (b :: r))).2.2))
    else match first (b :: r) with
      | some (_, n) => .inl (((b :: r).take n), { s with at_ := s.at_ + n })
      | none => .inr (s.at_, 7)

/-- Byte by byte into a text. -/
def putsP : St → Bs → Bs → Nat → Rs Bs
  | s, out, [], a => .inl (out, s)
  | s, out, x :: r, a => match putP s out [x] a with
    | .inl (o, s1) => putsP s1 o r (a + 1)
    | .inr (p, e) => .inr (p, e)
def rawF : Nat → St → Bs → Bs → Nat → Rs Bs
  | 0, s, out, x, a => .inl (out, s)
  | k + 1, s, out, x, a => if x = [] then .inl (out, s) else match first x with
    | none => .inr (a, 7)
    | some (_, n) => match putsP s out (x.take n) a with
      | .inr (p, e) => .inr (p, e)
      | .inl (o, s1) => rawF k s1 o (x.drop n) (a + n)
def rawP (s : St) (out : Bs) : Rs Bs := match skipP l 9 [93, 93, 62] s with
  | .inr (p, e) => .inr (p, e)
  | .inl (x, s1) => rawF x.length s1 out x (s.at_ + 9)

def tagP (s : St) : Rs Unit :=
  if breaksP l [60, 33, 45, 45] s.at_ || breaksP l [60, 33, 91, 67, 68, 65, 84, 65, 91] s.at_ then .inr (s.at_, 4)
  else if seesP l [60, 47] s.at_ then .inl ((), s)
  else match l[s.at_ + 1]? with
    | some b => if beginB b.toNat then .inl ((), s) else .inr (s.at_, 3)
    | none => .inr (s.at_, 3)

/-- A text, with the raw text in it and the remarks. -/
def wordsF : Nat → St → Bs → Rs Bs
  | 0, s, out => .inl (out, s)
  | k + 1, s, out => match l[s.at_]? with
    | none => .inl (out, s)
    | some b => if b ≠ 60 then (match letterP l s with
        | .inr (p, e) => .inr (p, e)
        | .inl (x, s1) => match putP s1 out x s.at_ with
          | .inr (p, e) => .inr (p, e)
          | .inl (o, s2) => wordsF k s2 o)
      else if seesP l [60, 33, 45, 45] s.at_ then (match skipP l 4 [45, 45, 62] s with
        | .inr (p, e) => .inr (p, e)
        | .inl (_, s1) => wordsF k s1 out)
      else if seesP l [60, 63] s.at_ then (match skipP l 2 [63, 62] s with
        | .inr (p, e) => .inr (p, e)
        | .inl (_, s1) => wordsF k s1 out)
      else if seesP l [60, 33, 91, 67, 68, 65, 84, 65, 91] s.at_ then (match rawP l s out with
        | .inr (p, e) => .inr (p, e)
        | .inl (o, s1) => wordsF k s1 o)
      else match tagP l s with
        | .inr (p, e) => .inr (p, e)
        | .inl (_, s1) => .inl (out, s1)
def wordsP (s : St) : Rs Bs := wordsF l (l.length - s.at_ + 1) s []

def valueF (q : UInt8) : Nat → St → Bs → Rs Bs
  | 0, s, out => .inl (out, s)
  | k + 1, s, out => match l[s.at_]? with
    | none => .inr (s.at_, 4)
    | some b => if b = q then .inl (out, { s with at_ := s.at_ + 1 }) else if b = 60 then .inr (s.at_, 3) else match letterP l s with
      | .inr (p, e) => .inr (p, e)
      | .inl (x, s1) => match growP s1 out x s.at_ with
        | .inr (p, e) => .inr (p, e)
        | .inl (o, s2) => valueF q k s2 o
def valueP (s : St) : Rs Bs := match l[s.at_]? with
  | none => .inr (s.at_, 4)
  | some q => if q = 34 ∨ q = 39 then valueF l q (l.length - s.at_) { s with at_ := s.at_ + 1 } [] else .inr (s.at_, 3)

abbrev Att := ByteArray × ByteArray
def attrP (ahead : List Att) (s : St) : Rs Att := match nameP l s with
  | .inr (p, e) => .inr (p, e)
  | .inl (n, s1) => if ahead.length = 32 then .inr (s.at_, 2) else if ahead.any (fun x => x.1.toList == (ba n).toList) then .inr (s.at_, 41) else match expectP l 61 s1 with
    | .inr (p, e) => .inr (p, e)
    | .inl (_, s2) => match valueP l s2 with
      | .inr (p, e) => .inr (p, e)
      | .inl (v, s3) => .inl ((ba n, ba v), s3)

/-- By their names. -/
def ltA (a b : Att) : Bool := Op.bytesLess a.1.toList b.1.toList
def sortA (x : List Att) : List Att := x.mergeSort (fun a b => !(ltA b a))
def attrsF : Nat → St → List Att → Rs (List Att)
  | 0, s, acc => .inl (acc, s)
  | k + 1, s, acc => match l[(blanksP l s).at_]? with
    | none => .inr ((blanksP l s).at_, 4)
    | some b => if b = 47 ∨ b = 62 then .inl ((sortA acc), (blanksP l s)) else if (blanksP l s).at_ = s.at_ then .inr (s.at_, 3) else match attrP l acc (blanksP l s) with
      | .inr (p, e) => .inr (p, e)
      | .inl (a, s1) => attrsF k s1 (acc ++ [a])
def attrsP (s : St) : Rs (List Att) := attrsF l (l.length - s.at_ + 1) s []

def endP (open_ : Bs) (s : St) : Rs Unit := match expectP l 60 s with
  | .inr (p, e) => .inr (p, e)
  | .inl (_, s1) => match expectP l 47 s1 with
    | .inr (p, e) => .inr (p, e)
    | .inl (_, s2) => match nameP l s2 with
      | .inr (p, e) => .inr (p, e)
      | .inl (n, s3) => if n = open_ then expectP l 62 (blanksP l s3) else .inr (s.at_, 40)

def txtT {d : Nat} (t : Bs) : T (d + 1) := (⟨2, ba [], [], ba t, []⟩ : Nd (T d))
def elT {d : Nat} (n : Bs) (a : List Att) (k : List (T d)) : T (d + 1) := (⟨1, ba n, a, ba [], k⟩ : Nd (T d))

/-- An element, what stands within it read by k. -/
def elemP {d : Nat} (k : St → Rs (List (T d))) (s : St) : Rs (T (d + 1)) := match beginP s s.at_ with
  | .inr (p, e) => .inr (p, e)
  | .inl (_, s1) => match nameP l { s1 with at_ := s1.at_ + 1 } with
    | .inr (p, e) => .inr (p, e)
    | .inl (n, s2) => match attrsP l s2 with
      | .inr (p, e) => .inr (p, e)
      | .inl (a, s3) => match l[s3.at_]? with
        | none => .inr (s3.at_, 4)
        | some b => if b = 47 then (match expectP l 62 { s3 with at_ := s3.at_ + 1 } with
            | .inr (p, e) => .inr (p, e)
            | .inl (_, s4) => .inl ((elT n a []), s4))
          else match expectP l 62 s3 with
            | .inr (p, e) => .inr (p, e)
            | .inl (_, s4) => match k { s4 with op := s4.op + 1 } with
              | .inr (p, e) => .inr (p, e)
              | .inl (x, s5) => match endP l n { s5 with op := s5.op - 1 } with
                | .inr (p, e) => .inr (p, e)
                | .inl (_, s6) => .inl ((elT n a x), s6)

def sibF {d : Nat} (el : St → Rs (T (d + 1))) : Nat → St → List (T (d + 1)) → Rs (List (T (d + 1)))
  | 0, s, acc => .inl (acc, s)
  | k + 1, s, acc => match wordsP l s with
    | .inr (p, e) => .inr (p, e)
    | .inl (t, s1) =>
      if s1.at_ = l.length ∨ seesP l [60, 47] s1.at_ = true then .inl ((if t = [] then acc else acc ++ [txtT t]), s1) else match el s1 with
        | .inr (p, e) => .inr (p, e)
        | .inl (x, s2) => sibF el k s2 ((if t = [] then acc else acc ++ [txtT t]) ++ [x])
def sibP : (d : Nat) → St → Rs (List (T d))
  | 0, s => (match wordsP l s with
    | .inr (p, e) => .inr (p, e)
    | .inl (t, s1) => if s1.at_ = l.length ∨ seesP l [60, 47] s1.at_ = true then .inl ([], s1) else .inr (s1.at_, 2))
  | d + 1, s => sibF l (elemP l (sibP d)) (l.length - s.at_ + 1) s []
def forestP : Rs (List (T 64)) := match sibP l 64 ⟨0, 0, 0⟩ with
  | .inr (p, e) => .inr (p, e)
  | .inl (x, s) => if s.at_ < l.length then (match endP l [] s with
      | .inr (p, e) => .inr (p, e)
      | .inl (_, s1) => .inl (x, s1)) else .inl (x, s)

end Go.Proofs.YtmifejkddgcbmaaGreat

/- A statement whose order is open, whose operations only read, and whose calls make memory but turn none: one walk serves every order. -/
namespace Go.Proofs.YtmifejkddgcbmaaGreat
open Go.RowKit
set_option linter.unusedVariables false
set_option linter.unusedSimpArgs false

/-- A world in which all that was there is as it was. -/
structure Bel (W : World) where
  w : World
  h : Below W.heap.size W w

theorem Bel.cell {W : World} (u : Bel W) (b o : Nat) (h : b < W.heap.size) : u.w.cell? ⟨b, o, none⟩ = W.cell? ⟨b, o, none⟩ := u.h.cell (p := ⟨b, o, none⟩) h
theorem Bel.fz {W : World} (u : Bel W) (b o : Nat) (h : b < W.heap.size) : u.w.frozen? ⟨b, o, none⟩ = W.frozen? ⟨b, o, none⟩ := u.h.frozen (p := ⟨b, o, none⟩) h

theorem wp_region_bel {P : Program} {id : Nat} {Q : Exit → Act → World → Prop} {a : Act} {w : World} {l : List Oper} (hm : P.follows .mixedOrders = true) (hB : Region.lexB .any l.toArray = true)
    (h : Nonempty (Bel w) → wpQuiet P l.toArray (fun w' => ∃ u : Bel w, w' = u.w) (fun a' => ∀ w', (∃ u : Bel w, w' = u.w) → Q .normal a' w') l a) : (Code.region id l.toArray true).wp P Q a w :=
  wp_region_quiet (C := fun w' => ∃ u : Bel w, w' = u.w) hm hB ⟨⟨w.drew, (Below.refl _ _).drew⟩, rfl⟩ (by simpa using h ⟨⟨w, Below.refl _ _⟩⟩)

/-- A callee that makes memory. -/
theorem Calls.bel_of {P : Program} {f : FuncId} {args : Array Value} {W : World} {u : Bel W} {v : Value}
    (h : Calls P f args u.w fun e w' => e = .returned v ∧ Below u.w.heap.size u.w w') : Calls P f args u.w fun e w'' => e = .returned v ∧ ∃ u' : Bel W, w'' = u'.w :=
  h.mono fun _ w' ⟨he, hm⟩ => ⟨he, ⟨w', u.h.trans (hm.mono u.h.size)⟩, rfl⟩
/-- One that makes none. -/
theorem Calls.bel_of_same {P : Program} {f : FuncId} {args : Array Value} {W : World} {u : Bel W} {v : Value}
    (h : Calls P f args u.w fun e w' => e = .returned v ∧ w' = u.w) : Calls P f args u.w fun e w'' => e = .returned v ∧ ∃ u' : Bel W, w'' = u'.w :=
  h.mono fun _ w' ⟨he, hm⟩ => ⟨he, u, hm⟩

theorem bcell {W w1 : World} {B : Nat} (hb : Below B W w1) : (∀ b o, b < B → w1.cell? ⟨b, o, none⟩ = W.cell? ⟨b, o, none⟩) ∧ (∀ b o, b < B → w1.frozen? ⟨b, o, none⟩ = W.frozen? ⟨b, o, none⟩) :=
  ⟨fun b o h => hb.cell (p := ⟨b, o, none⟩) h, fun b o h => hb.frozen (p := ⟨b, o, none⟩) h⟩

end Go.Proofs.YtmifejkddgcbmaaGreat
