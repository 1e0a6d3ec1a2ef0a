/- Markup read, in plain: what the reader comes to, from every place of a text. -/
import Derived.Test.YtmifejkddgcbmabGreatA08
import Derived.Test.YtmifejkddgcbmabGreatA03
import Derived.Test.YtmifejkddgcbmabGreatA09
import Derived.Test.YtmifejkddgcbmabGreatA10
namespace Go.Proofs.YtmifejkddgcbmabGreat
set_option linter.unusedVariables false
set_option linter.unusedSimpArgs false

/-- Where a reader is; how many nodes have begun; how many elements are around. -/
structure St where
  at_ : Nat
  nodes : Nat
  op : Nat

/-- A thing is read, or there is a fault at a place. -/
abbrev Rs (α : Type) := Sum (α × St) (Nat × Int)

abbrev Bs := List UInt8
def ba (l : Bs) : ByteArray := ⟨l.toArray⟩

variable (l : Bs)

def needP (s : St) : Rs UInt8 := match l[s.at_]? with
  | some b => .inl (b, s)
  | none => .inr (s.at_, 4)
def expectP (c : UInt8) (s : St) : Rs Unit := match l[s.at_]? with
  | some b => if b = c then .inl ((), { s with at_ := s.at_ + 1 }) else .inr (s.at_, 3)
  | none => .inr (s.at_, 4)
def runN (p : UInt8 → Bool) (a : Nat) : Nat := ((l.drop a).takeWhile p).length
def blanksP (s : St) : St := { s with at_ := s.at_ + runN l (fun b => blankB b.toNat) s.at_ }
def nameP (s : St) : Rs Bs := match l[s.at_]? with
  | none => .inr (s.at_, 4)
  | some b => if beginB b.toNat then
      (if nameL ((l.drop s.at_).takeWhile fun b => inB b.toNat) then .inl (((l.drop s.at_).takeWhile fun b => inB b.toNat), { s with at_ := s.at_ + runN l (fun b => inB b.toNat) s.at_ }) else .inr (s.at_, 6))
    else .inr (s.at_, 3)
def seesP (p : Bs) (a : Nat) : Bool := p.isPrefixOf (l.drop a)
def breaksP (p : Bs) (a : Nat) : Bool := (l.drop a).isPrefixOf p

/-- The place of the first p in a text. -/
def findP (p : Bs) : Bs → Option Nat
  | [] => if p.isPrefixOf [] then some 0 else none
  | b :: r => if p.isPrefixOf (b :: r) then some 0 else (findP p r).map (· + 1)

/-- What stands between: its place is behind the beginning. -/
def skipP (n : Nat) (to : Bs) (s : St) : Rs Bs := match findP to (l.drop (s.at_ + n)) with
  | none => .inr (s.at_, 4)
  | some k => .inl (((l.drop (s.at_ + n)).take k), { s with at_ := s.at_ + n + k + to.length })

def beginP (s : St) (a : Nat) : Rs Unit := if s.nodes = 4096 ∨ s.op = 64 then .inr (a, 2) else .inl ((), { s with nodes := s.nodes + 1 })
def growP (s : St) (out x : Bs) (a : Nat) : Rs Bs := if 16384 < out.length + x.length then .inr (a, 2) else .inl ((out ++ x), s)
def putP (s : St) (out x : Bs) (a : Nat) : Rs Bs :=
  if out = [] then (match beginP s a with
    | .inl (_, s1) => growP s1 out x a
    | .inr (p, e) => .inr (p, e)) else growP s out x a

/-- The bytes that could be a reference. -/
def refOf (r : Bs) : Bs := match (r.take 10).findIdx? (· = 59) with
  | some i => (r.take 10).take (i + 1)
  | none => r.take 10
def letterP (s : St) : Rs Bs := match l.drop s.at_ with
  | [] => .inr (s.at_, 7)
  | b :: r => if b = 38 then
      (if (uans (refOf (b :: r))).2.2 = 0 then .inl ((uans (refOf (b :: r))).1, { s with at_ := s.at_ + (refOf (b :: r)).length }) else .inr (s.at_, (uans (refOf (b :: r))).2.2))
    else match first (b :: r) with
      | some (_, n) => .inl (((b :: r).take n), { s with at_ := s.at_ + n })
      | none => .inr (s.at_, 7)

/-- Byte by byte into a text. -/
def putsP : St → Bs → Bs → Nat → Rs Bs
  | s, out, [], a => .inl (out, s)
  | s, out, x :: r, a => match putP s out [x] a with
    | .inl (o, s1) => putsP s1 o r (a + 1)
    | .inr (p, e) => .inr (p, e)
def rawF : Nat → St → Bs → Bs → Nat → Rs Bs
  | 0, s, out, x, a => .inl (out, s)
  | k + 1, s, out, x, a => if x = [] then .inl (out, s) else match first x with
    | none => .inr (a, 7)
    | some (_, n) => match putsP s out (x.take n) a with
      | .inr (p, e) => .inr (p, e)
      | .inl (o, s1) => rawF k s1 o (x.drop n) (a + n)
def rawP (s : St) (out : Bs) : Rs Bs := match skipP l 9 [93, 93, 62] s with
  | .inr (p, e) => .inr (p, e)
  | .inl (x, s1) => rawF x.length s1 out x (s.at_ + 9)

def tagP (s : St) : Rs Unit :=
  if breaksP l [60, 33, 45, 45] s.at_ || breaksP l [60, 33, 91, 67, 68, 65, 84, 65, 91] s.at_ then .inr (s.at_, 4)
  else if seesP l [60, 47] s.at_ then .inl ((), s)
  else match l[s.at_ + 1]? with
    | some b => if beginB b.toNat then .inl ((), s) else .inr (s.at_, 3)
    | none => .inr (s.at_, 3)

/-- A text, with the raw text in it and the remarks. -/
def wordsF : Nat → St → Bs → Rs Bs
  | 0, s, out => .inl (out, s)
  | k + 1, s, out => match l[s.at_]? with
    | none => .inl (out, s)
    | some b => if b ≠ 60 then (match letterP l s with
        | .inr (p, e) => .inr (p, e)
        | .inl (x, s1) => match putP s1 out x s.at_ with
          | .inr (p, e) => .inr (p, e)
          | .inl (o, s2) => wordsF k s2 o)
      else if seesP l [60, 33, 45, 45] s.at_ then (match skipP l 4 [45, 45, 62] s with
        | .inr (p, e) => .inr (p, e)
        | .inl (_, s1) => wordsF k s1 out)
      else if seesP l [60, 63] s.at_ then (match skipP l 2 [63, 62] s with
        | .inr (p, e) => .inr (p, e)
        | .inl (_, s1) => wordsF k s1 out)
      else if seesP l [60, 33, 91, 67, 68, 65, 84, 65, 91] s.at_ then (match rawP l s out with
        | .inr (p, e) => .inr (p, e)
        | .inl (o, s1) => wordsF k s1 o)
      else match tagP l s with
        | .inr (p, e) => .inr (p, e)
        | .inl (_, s1) => .inl (out, s1)
def wordsP (s : St) : Rs Bs := wordsF l (l.length - s.at_ + 1) s []

def valueF (q : UInt8) : Nat → St → Bs → Rs Bs
  | 0, s, out => .inl (out, s)
  | k + 1, s, out => match l[s.at_]? with
    | none => .inr (s.at_, 4)
    | some b => if b = q then .inl (out, { s with at_ := s.at_ + 1 }) else if b = 60 then .inr (s.at_, 3) else match letterP l s with
      | .inr (p, e) => .inr (p, e)
      | .inl (x, s1) => match growP s1 out x s.at_ with
        | .inr (p, e) => .inr (p, e)
        | .inl (o, s2) => valueF q k s2 o
def valueP (s : St) : Rs Bs := match l[s.at_]? with
  | none => .inr (s.at_, 4)
  | some q => if q = 34 ∨ q = 39 then valueF l q (l.length - s.at_) { s with at_ := s.at_ + 1 } [] else .inr (s.at_, 3)

abbrev Att := ByteArray × ByteArray
def attrP (ahead : List Att) (s : St) : Rs Att := match nameP l s with
  | .inr (p, e) => .inr (p, e)
  | .inl (n, s1) => if ahead.length = 32 then .inr (s.at_, 2) else if ahead.any (fun x => x.1.toList == (ba n).toList) then .inr (s.at_, 41) else match expectP l 61 s1 with
    | .inr (p, e) => .inr (p, e)
    | .inl (_, s2) => match valueP l s2 with
      | .inr (p, e) => .inr (p, e)
      | .inl (v, s3) => .inl ((ba n, ba v), s3)

/-- By their names. -/
def ltA (a b : Att) : Bool := Op.bytesLess a.1.toList b.1.toList
def sortA (x : List Att) : List Att := x.mergeSort (fun a b => !(ltA b a))
def attrsF : Nat → St → List Att → Rs (List Att)
  | 0, s, acc => .inl (acc, s)
  | k + 1, s, acc => match l[(blanksP l s).at_]? with
    | none => .inr ((blanksP l s).at_, 4)
    | some b => if b = 47 ∨ b = 62 then .inl ((sortA acc), (blanksP l s)) else if (blanksP l s).at_ = s.at_ then .inr (s.at_, 3) else match attrP l acc (blanksP l s) with
      | .inr (p, e) => .inr (p, e)
      | .inl (a, s1) => attrsF k s1 (acc ++ [a])
def attrsP (s : St) : Rs (List Att) := attrsF l (l.length - s.at_ + 1) s []

def endP (open_ : Bs) (s : St) : Rs Unit := match expectP l 60 s with
  | .inr (p, e) => .inr (p, e)
  | .inl (_, s1) => match expectP l 47 s1 with
    | .inr (p, e) => .inr (p, e)
    | .inl (_, s2) => match nameP l s2 with
      | .inr (p, e) => .inr (p, e)
      | .inl (n, s3) => if n = open_ then expectP l 62 (blanksP l s3) else .inr (s.at_, 40)

def txtT {d : Nat} (t : Bs) : T (d + 1) := (⟨2, ba [], [], ba t, []⟩ : Nd (T d))
def elT {d : Nat} (n : Bs) (a : List Att) (k : List (T d)) : T (d + 1) := (⟨1, ba n, a, ba [], k⟩ : Nd (T d))

/-- An element, what stands within it read by k. -/
def elemP {d : Nat} (k : St → Rs (List (T d))) (s : St) : Rs (T (d + 1)) := match beginP s s.at_ with
  | .inr (p, e) => .inr (p, e)
  | .inl (_, s1) => match nameP l { s1 with at_ := s1.at_ + 1 } with
    | .inr (p, e) => .inr (p, e)
    | .inl (n, s2) => match attrsP l s2 with
      | .inr (p, e) => .inr (p, e)
      | .inl (a, s3) => match l[s3.at_]? with
        | none => .inr (s3.at_, 4)
        | some b => if b = 47 then (match expectP l 62 { s3 with at_ := s3.at_ + 1 } with
            | .inr (p, e) => .inr (p, e)
            | .inl (_, s4) => .inl ((elT n a []), s4))
          else match expectP l 62 s3 with
            | .inr (p, e) => .inr (p, e)
            | .inl (_, s4) => match k { s4 with op := s4.op + 1 } with
              | .inr (p, e) => .inr (p, e)
              | .inl (x, s5) => match endP l n { s5 with op := s5.op - 1 } with
                | .inr (p, e) => .inr (p, e)
                | .inl (_, s6) => .inl ((elT n a x), s6)

def sibF {d : Nat} (el : St → Rs (T (d + 1))) : Nat → St → List (T (d + 1)) → Rs (List (T (d + 1)))
  | 0, s, acc => .inl (acc, s)
  | k + 1, s, acc => match wordsP l s with
    | .inr (p, e) => .inr (p, e)
    | .inl (t, s1) =>
      if s1.at_ = l.length ∨ seesP l [60, 47] s1.at_ = true then .inl ((if t = [] then acc else acc ++ [txtT t]), s1) else match el s1 with
        | .inr (p, e) => .inr (p, e)
        | .inl (x, s2) => sibF el k s2 ((if t = [] then acc else acc ++ [txtT t]) ++ [x])
def sibP : (d : Nat) → St → Rs (List (T d))
  | 0, s => (match wordsP l s with
    | .inr (p, e) => .inr (p, e)
    | .inl (t, s1) => if s1.at_ = l.length ∨ seesP l [60, 47] s1.at_ = true then .inl ([], s1) else .inr (s1.at_, 2))
  | d + 1, s => sibF l (elemP l (sibP d)) (l.length - s.at_ + 1) s []
def forestP : Rs (List (T 64)) := match sibP l 64 ⟨0, 0, 0⟩ with
  | .inr (p, e) => .inr (p, e)
  | .inl (x, s) => if s.at_ < l.length then (match endP l [] s with
      | .inr (p, e) => .inr (p, e)
      | .inl (_, s1) => .inl (x, s1)) else .inl (x, s)

end Go.Proofs.YtmifejkddgcbmabGreat

/- A printer's words; what a forest is in print, in plain; siblings that are written as nothing. -/
namespace Go.Proofs.YtmifejkddgcbmabGreat
open Go.RowKit
set_option linter.unusedVariables false
set_option linter.unusedSimpArgs false

/-- Strings that were just laid out, written. -/
theorem put_new {w : World} {B pb : Nat} {v : Value} {l : List UInt8} (h : Prn w B pb v l) (ss : List ByteArray) (cs : Array Value) (n cap : Nat) (hn : ss.length = n) (hcs : ∀ (i : Nat) (s : ByteArray), ss[i]? = some s → cs[i]? = some (Value.string s)) (hl : l.length + (catS ss).length ≤ 900000) (hss : ∀ s ∈ ss, s.size ≤ 200000) (hsl : n ≤ 10) :
    Calls Tryz.prog 56 #[.pointer (some ⟨pb, 0, none⟩), .slice (some ⟨w.heap.size, 0, none⟩) n cap] (w.alloc (.cells cs 9)) fun e w' => e = .returned (.tuple #[]) ∧ PrP w B pb v (l ++ catS ss) w' := by
  subst hn
  refine (put_any' (h.alloc (.cells cs 9)) w.heap.size ss cap (by simp) (fun hb => ?_) (fun i s hs => ?_) hl hss hsl).mono ?_
  · rcases hb with hb | hb
    · have := h.lt; omega
    · have := (h.row _ hb).2; omega
  · rw [(isCells_new w cs 9).cell]
    exact hcs i s hs
  · rintro e w' ⟨rfl, hp⟩
    exact ⟨rfl, PrP.next ((Turn.refl _ _).alloc _) (fun k hk => .inl hk) hp⟩

theorem PrP.below {w w0 w' : World} {B pb : Nat} {v : Value} {l : List UInt8} (hb : Below w.heap.size w w0) (h : PrP w0 B pb v l w') : PrP w B pb v l w' :=
  PrP.next ⟨hb.os, hb.tape, hb.output, hb.size, fun k hk _ => hb.block k hk⟩ (fun k hk => .inl hk) h

theorem eans_len {q : Bool} {s : ByteArray} (h : (tans s.data.toList).2 = 0) : (eans q s.data.toList).1.length ≤ 98304 := by
  have h1 := (tans_ok h).1
  have h2 := escL_length q s.data.toList
  rw [eans, if_pos h]
  show (escL q s.data.toList).length ≤ _
  omega

theorem get1 {a s : ByteArray}   : ∀ i : Nat, ([a] : List ByteArray)[i]? = some s → (#[Value.string a] : Array Value)[i]? = some (Value.string s)
  | 0, h => by simp at h; subst h; rfl
  | i + 1, h => by simp at h
theorem get2 {a b s : ByteArray}   : ∀ i : Nat, ([a, b] : List ByteArray)[i]? = some s → (#[Value.string a, .string b] : Array Value)[i]? = some (Value.string s)
  | 0, h => by simp at h; subst h; rfl
  | 1, h => by simp at h; subst h; rfl
  | i + 2, h => by simp at h
theorem get3 {a b c s : ByteArray}   : ∀ i : Nat, ([a, b, c] : List ByteArray)[i]? = some s → (#[Value.string a, .string b, .string c] : Array Value)[i]? = some (Value.string s)
  | 0, h => by simp at h; subst h; rfl
  | 1, h => by simp at h; subst h; rfl
  | 2, h => by simp at h; subst h; rfl
  | i + 3, h => by simp at h

set_option maxRecDepth 100000 in
set_option maxHeartbeats 1000000 in
theorem pwords_any {w : World} {B pb : Nat} {v : Value} {l : List UInt8} (h : Prn w B pb v l) (s : ByteArray) (q : Bool) (hs : (tans s.data.toList).2 = 0) (hl : l.length ≤ 700000) :
    Calls Tryz.prog 36 #[.pointer (some ⟨pb, 0, none⟩), .string s, .bool q] w fun e w' => e = .returned (.tuple #[]) ∧ PrP w B pb v (l ++ (eans q s.data.toList).1) w' := by
  have he := escape_any w s q
  have hlen := eans_len (q := q) hs
  have HP : Hid (Prn w B pb v l) := h
  generalize hx : (eans q s.data.toList).1 = x at *
  generalize (eans q s.data.toList).2.1 = y at *
  generalize (eans q s.data.toList).2.2 = z at *
  clear h hs hx
  go_enter Tryz.func36, Tryz.ntmps36
  go_wp2_with fail
  refine he.mono ?_
  rintro e w1 ⟨rfl, hb1⟩
  have hpt := put_new (HP.out.below hb1) [⟨x.toArray⟩] #[.string ⟨x.toArray⟩] 1 1 rfl (fun i _ => get1 i) (by simp [catS]; omega) (by intro s hs; simp at hs; subst hs; show x.toArray.size ≤ _; simp; omega) (by omega)
  have HB1 : Hid (Below w.heap.size w w1) := hb1
  clear he hb1
  go_wp2_with fail
  refine hpt.mono ?_
  rintro e w2 ⟨rfl, hp2⟩
  have HP2 : Hid (PrP w B pb v (l ++ x) w2) := by
    show PrP _ _ _ _ _ _
    have := PrP.below HB1.out hp2
    simpa [catS] using this
  clear hpt hp2
  go_wp2
  go_end0
  exact ⟨rfl, HP2.out⟩

/-- Of a node, its kind and text. -/
def headT : (n : Nat) → T n → Int × ByteArray
  | 0, t => (t : Empty).elim
  | _ + 1, t => (t.kind, t.text)
theorem head_of {w : World} {lo hi : Nat} {kk : Int} {nm tx : ByteArray} {a : Option Addr} {al ac : Nat} {ka : Option Addr} {kl kc : Nat} : ∀ {n : Nat} {k : T n}, TreeAt w lo hi n #[.int .i64 kk, .string nm, .slice a al ac, .string tx, .slice ka kl kc] k → headT n k = (kk, tx)
  | 0, _, h => h.elim
  | n + 1, k, h => by
    obtain ⟨a', ac', ka', kc', h1, _⟩ := h
    simp only [tv, Array.mk.injEq, List.cons.injEq, Value.int.injEq, Value.string.injEq, true_and] at h1
    obtain ⟨rfl, _, _, rfl, _⟩ := h1
    rfl
/-- Siblings that are written as nothing. -/
def hollowP (n : Nat) (L : List (T n)) : Bool := L.all fun k => decide ((headT n k).1 = 2) && ((headT n k).2.toList == [])

set_option maxRecDepth 100000 in
set_option maxHeartbeats 1000000 in
theorem hollow_any (n : Nat) (w : World) (lo : Nat) (ka : Option Addr) (L : List (T n)) (cap : Nat) (h : Tc.KidsAt w lo w.heap.size n ka L) (hl : L.length ≤ maxK) :
    Calls Tryz.prog 57 #[.slice ka L.length cap] w fun e w' => e = .returned (.bool (hollowP n L)) ∧ Below w.heap.size w w' := by
  have HK : Hid (Tc.KidsAt w lo w.heap.size n ka L) := h
  unfold maxK at hl
  clear h
  go_enter Tryz.func57, Tryz.ntmps57
  go_wp2
  go_loopw [7] (fun v7 wr => ∃ i : Nat, i ≤ L.length ∧ v7 = .int .i64 (i : Int) ∧ Hid (hollowP n L = hollowP n (L.drop i)) ∧ Hid (Below w.heap.size w wr)) (fun v7 _ => L.length - (intOf v7).toNat)
  case atStart => exact ⟨0, by omega, rfl, by rfl, Below.refl _ _⟩
  case round =>
    obtain ⟨i, hi, rfl, hg, hb⟩ := hrel
    have hs := hb.out.size
    by_cases hlt : i < L.length
    · have t1 : (i : Int) < (L.length : Int) := by omega
      have t0 : (0 : Int) ≤ (i : Int) := by omega
      obtain ⟨k, hk⟩ : ∃ k, L[i]? = some k := ⟨_, List.getElem?_eq_getElem hlt⟩
      have hdrop : L.drop i = k :: L.drop (i + 1) := by rw [List.drop_eq_getElem_cons hlt, (List.getElem?_eq_some_iff.1 hk).2]
      obtain ⟨b, o, kk, nm, a, al, ac, tx, ka', kl, kc, rfl, -, hbl, c0, c1, c2, c3, c4, hT⟩ := HK.out.get hk
      have hh := head_of hT
      have d0 := (hb.out.cell (p := ⟨b, o + i * 5, none⟩) hbl).trans c0
      have d1 := (hb.out.cell (p := ⟨b, o + i * 5 + 1, none⟩) hbl).trans c1
      have d2 := (hb.out.cell (p := ⟨b, o + i * 5 + 2, none⟩) hbl).trans c2
      have d3 := (hb.out.cell (p := ⟨b, o + i * 5 + 3, none⟩) hbl).trans c3
      have d4 := (hb.out.cell (p := ⟨b, o + i * 5 + 4, none⟩) hbl).trans c4
      have HG : Hid (hollowP n L = (decide (kk = 2) && (tx.toList == []) && hollowP n (L.drop (i + 1)))) := by
        show _ = _
        rw [hg.out, hdrop]
        simp only [hollowP, List.all_cons, hh]
      clear hg hdrop hk hh hT c0 c1 c2 c3 c4
      by_cases e1 : kk = 2
      · subst e1
        by_cases e2 : tx.toList = []
        · have q2 : (tx.toList == []) = true := by simp [e2]
          have HG2 : Hid (hollowP n L = hollowP n (L.drop (i + 1))) := by show _ = _; rw [HG.out, q2]; simp
          clear e2 HG
          go_wp2
          refine ⟨⟨i + 1, by omega, by simp, HG2, hb.out.alloc (by omega) _⟩, ?_⟩
          simp [intOf]; omega
        · have q2 : (tx.toList == []) = false := by simp [e2]
          have HG2 : Hid (hollowP n L = false) := by show _ = _; rw [HG.out, q2]; simp
          clear e2 HG
          go_wp2
          go_ret
          exact ⟨by rw [HG2.out]; rfl, hb.out.alloc (by omega) _⟩
      · have q1 : (kk == 2) = false := beq_eq_false_iff_ne.2 e1
        have q2 : (kk != 2) = true := by simp [bne, q1]
        have HG2 : Hid (hollowP n L = false) := by show _ = _; rw [HG.out, decide_eq_false e1]; simp
        clear e1 HG
        go_wp2
        go_ret
        exact ⟨by rw [HG2.out]; rfl, hb.out.alloc (by omega) _⟩
    · have t1 : ¬ (i : Int) < (L.length : Int) := by omega
      have HG : Hid (hollowP n L = true) := by show _ = _; rw [hg.out, List.drop_eq_nil_of_le (by omega)]; rfl
      clear hg
      go_wp2
      go_ret
      exact ⟨by rw [HG.out]; rfl, hb.out⟩

end Go.Proofs.YtmifejkddgcbmabGreat

/- A forest in print, in plain; the printer's elements and siblings. -/
namespace Go.Proofs.YtmifejkddgcbmabGreat
open Go.RowKit
set_option linter.unusedVariables false
set_option linter.unusedSimpArgs false

/-- An attribute in print. -/
def prA (p : ByteArray × ByteArray) : Bs := [32] ++ p.1.data.toList ++ [61, 34] ++ (eans true p.2.data.toList).1 ++ [34]
/-- The beginning of an element in print. -/
def prH (nm : ByteArray) (l : List (ByteArray × ByteArray)) : Bs := [60] ++ nm.data.toList ++ l.flatMap prA
/-- A tree in print. -/
def prT : (n : Nat) → T n → Bs
  | 0, t => (t : Empty).elim
  | n + 1, t => if t.kind = 2 then (eans false t.text.data.toList).1 else prH t.name t.attrs ++ (if hollowP n t.kids then [47, 62] else [62] ++ t.kids.flatMap (prT n) ++ ([60, 47] ++ t.name.data.toList ++ [62]))
def prF (n : Nat) (L : List (T n)) : Bs := L.flatMap (prT n)

/-- A tree that can be, of at most so many levels. -/
def okD : (n : Nat) → Nat → T n → Prop
  | 0, _, _ => False
  | n + 1, r, t => 0 < r ∧ ownE t = 0 ∧ ∀ k ∈ kidsT t, okD n (r - 1) k

/-- What is printed behind l: all of x, or so much that it is too long. -/
def Prints (l x l' : Bs) : Prop := l' = l ++ x ∨ (262144 < l'.length ∧ 262144 < l.length + x.length)
theorem Prints.full {l x y l' : Bs} (h : Prints l x l') (hl : 262144 < l'.length) : Prints l (x ++ y) l' := by
  right
  rcases h with rfl | h
  · simp only [List.length_append] at hl ⊢; omega
  · simp only [List.length_append]; omega
theorem Prints.not {l x l' : Bs} (h : Prints l x l') (hl : ¬ 262144 < l'.length) : l' = l ++ x := by
  rcases h with h | h
  · exact h
  · exact absurd h.1 hl
theorem Prints.trans {l x y l1 l' : Bs} (h : l1 = l ++ x) (h2 : Prints l1 y l') : Prints l (x ++ y) l' := by
  subst h
  rcases h2 with rfl | h2
  · left; rw [List.append_assoc]
  · right
    simp only [List.length_append] at h2 ⊢
    omega

theorem prF_take {n : Nat} {L : List (T n)} {i : Nat} {k : T n} (h : L[i]? = some k) : prF n (L.take (i + 1)) = prF n (L.take i) ++ prT n k := by
  unfold prF
  rw [List.take_add_one, h]
  simp
theorem prF_split {n : Nat} (L : List (T n)) (i : Nat) : prF n L = prF n (L.take i) ++ prF n (L.drop i) := by
  unfold prF
  rw [← List.flatMap_append, List.take_append_drop]

def SibPr (n : Nat) : Prop := ∀ (w : World) (B pb : Nat) (v : Value) (l : Bs) (lo : Nat) (ka : Option Addr) (L : List (T n)) (cap r : Nat), Prn w B pb v l → Tc.KidsAt w lo B n ka L → L.length ≤ maxK → (∀ k ∈ L, okD n r k) → l.length ≤ 361000 + 100 * r → r ≤ 65 →
  Calls Tryz.prog 21 #[.pointer (some ⟨pb, 0, none⟩), .slice ka L.length cap] w fun e w' => e = .returned (.tuple #[]) ∧ ∃ l', PrP w B pb v l' w' ∧ Prints l (prF n L) l' ∧ l'.length ≤ 361000 + 100 * r
def ElPr (n : Nat) : Prop := ∀ (w : World) (B pb : Nat) (v : Value) (l : Bs) (lo : Nat) (u : Array Value) (t : T n) (r : Nat), Prn w B pb v l → TreeAt w lo B n u t → okD n r t → (headT n t).1 ≠ 2 → l.length ≤ 262144 → r ≤ 65 →
  Calls Tryz.prog 37 #[.pointer (some ⟨pb, 0, none⟩), .agg u] w fun e w' => e = .returned (.tuple #[]) ∧ ∃ l', PrP w B pb v l' w' ∧ Prints l (prT n t) l' ∧ l'.length ≤ 361000 + 100 * r

theorem Prn.notIn {w : World} {B pb : Nat} {v : Value} {l : List UInt8} (h : Prn w B pb v l) {k : Nat} (hk : k < B) : ¬ PB pb v k := fun hb => by
  rcases hb with rfl | hb
  · have := h.lo; omega
  · have := (h.row k hb).1; omega
theorem Prn.notNew {w : World} {B pb : Nat} {v : Value} {l : List UInt8} (h : Prn w B pb v l) {k : Nat} (hk : w.heap.size ≤ k) : ¬ PB pb v k := fun hb => by
  rcases hb with rfl | hb
  · have := h.lt; omega
  · have := (h.row k hb).2; omega
theorem Turn.blk {A : Nat → Prop} {w w' : World} (h : Turn A w w') {b : Nat} (hb : b < w.heap.size) (ha : ¬ A b) (o : Nat) : w'.cell? ⟨b, o, none⟩ = w.cell? ⟨b, o, none⟩ := World.cell?_of_block (a := ⟨b, o, none⟩) (h.block b hb ha)

set_option maxRecDepth 100000 in
set_option maxHeartbeats 4000000 in
theorem sib_pr (n : Nat) (hel : ElPr n) : SibPr n := by
  intro w B pb v l lo ka L cap r hp hk hL hok hl hr
  have HK : Hid (Tc.KidsAt w lo B n ka L) := hk
  have HOK : Hid (∀ k ∈ L, okD n r k) := hok
  have HP0 : Hid (Prn w B pb v l) := hp
  have HBS : Hid (B ≤ w.heap.size) := by have := hp.lo; have := hp.lt; show _ ≤ _; omega
  have HS : Hid (∃ l1, PrP w B pb v l1 w ∧ Prints l (prF n (L.take 0)) l1 ∧ l1.length ≤ 361000 + 100 * r) := ⟨l, PrP.refl hp, .inl (by simp [prF]), hl⟩
  unfold maxK at hL
  clear hp hk hok hl
  go_enter Tryz.func21, Tryz.ntmps21
  go_wp2
  go_loopw [8] (fun v8 wr => ∃ i : Nat, i ≤ L.length ∧ v8 = .int .i64 (i : Int) ∧ Hid (∃ l1, PrP w B pb v l1 wr ∧ Prints l (prF n (L.take i)) l1 ∧ l1.length ≤ 361000 + 100 * r)) (fun v8 _ => L.length - (intOf v8).toNat)
  case atStart => exact ⟨0, by omega, rfl, HS⟩
  case round =>
    obtain ⟨i, hi, rfl, hs⟩ := hrel
    obtain ⟨l1, ⟨v1, p1, t1, q1⟩, hpr, hl1⟩ := hs.out
    by_cases hlt : i < L.length
    · have u1 : (i : Int) < (L.length : Int) := by omega
      have u0 : (0 : Int) ≤ (i : Int) := by omega
      obtain ⟨k, hk⟩ : ∃ k, L[i]? = some k := ⟨_, List.getElem?_eq_getElem hlt⟩
      obtain ⟨b, o, kk, nm, a, al, ac, tx, ka', kl, kc, rfl, -, hbl, c0, c1, c2, c3, c4, hT⟩ := HK.out.get hk
      have hbs : b < w.heap.size := by have := HBS.out; omega
      have hnb := HP0.out.notIn hbl
      have d0 := (t1.blk hbs hnb _).trans c0
      have d1 := (t1.blk hbs hnb _).trans c1
      have d2 := (t1.blk hbs hnb _).trans c2
      have d3 := (t1.blk hbs hnb _).trans c3
      have d4 := (t1.blk hbs hnb _).trans c4
      have hT1 : TreeAt wr lo B n #[.int .i64 kk, .string nm, .slice a al ac, .string tx, .slice ka' kl kc] k := hT.turn t1 HBS.out (fun k _ h2 => HP0.out.notIn h2)
      have hhd := head_of hT
      have hokk := HOK.out k (List.mem_of_getElem? hk)
      have HT1 : Hid (Turn (PB pb v) w wr ∧ ∀ k, v1.ownBlock = some k → v.ownBlock = some k ∨ w.heap.size ≤ k) := ⟨t1, q1⟩
      have hsz := t1.size
      have hfl := full_any (p1.alloc (.cells #[.int .i64 kk, .string nm, .slice a al ac, .string tx, .slice ka' kl kc] 34))
      have HPR : Hid (Prints l (prF n (L.take i)) l1) := hpr
      have HTK : Hid (prF n (L.take (i + 1)) = prF n (L.take i) ++ prT n k) := prF_take hk
      have HP1 : Hid (Prn (wr.alloc (.cells #[.int .i64 kk, .string nm, .slice a al ac, .string tx, .slice ka' kl kc] 34)) B pb v1 l1) := p1.alloc _
      have HTA : Hid (Turn (PB pb v) w (wr.alloc (.cells #[.int .i64 kk, .string nm, .slice a al ac, .string tx, .slice ka' kl kc] 34))) := t1.alloc _
      clear p1 t1 q1 hpr hT hs c0 c1 c2 c3 c4 hnb
      by_cases hf : 262144 < l1.length
      · rw [decide_eq_true hf] at hfl
        have HE : Hid (Prints l (prF n L) l1) := by show Prints _ _ _; rw [prF_split L i]; exact HPR.out.full hf
        clear hhd hokk hT1
        go_wp2_with fail
        refine hfl.mono ?_
        rintro e w2 ⟨rfl, hw⟩
        obtain rfl := hw.symm
        go_wp2
        first | go_end0 | refine bodyPost_ret (results_none rfl _ _ _) rfl ?_
        exact ⟨rfl, l1, PrP.next HTA.out HT1.out.2 (PrP.refl HP1.out), HE.out, hl1⟩
      · rw [decide_eq_false hf] at hfl
        have HEQ : Hid (l1 = l ++ prF n (L.take i)) := HPR.out.not hf
        by_cases ek : kk = 2
        · subst ek
          have hokt : (tans tx.data.toList).2 = 0 ∧ prT n k = (eans false tx.data.toList).1 := by
            cases n with
            | zero => exact hokk.elim
            | succ m =>
              obtain ⟨-, ho, -⟩ := hokk
              have h1 : k.kind = 2 := congrArg Prod.fst hhd
              have h2 : k.text = tx := congrArg Prod.snd hhd
              unfold ownE at ho
              rw [if_neg (by omega), if_pos h1, h2] at ho
              refine ⟨ho, ?_⟩
              show (if k.kind = 2 then _ else _) = _
              rw [if_pos h1, h2]
          have hw := pwords_any HP1.out tx false hokt.1 (by omega)
          have HEN : Hid ((eans false tx.data.toList).1.length ≤ 98304) := eans_len hokt.1
          have HPT : Hid (prT n k = (eans false tx.data.toList).1) := hokt.2
          clear hokt hhd hokk hT1
          generalize (eans false tx.data.toList).1 = x at *
          go_wp2_with fail
          refine hfl.mono ?_
          rintro e w2 ⟨rfl, hw2⟩
          obtain rfl := hw2.symm
          clear hfl
          go_wp2_with fail
          refine hw.mono ?_
          rintro e w3 ⟨rfl, hp3⟩
          have HN : Hid (∃ l1, PrP w B pb v l1 w3 ∧ Prints l (prF n (L.take (i + 1))) l1 ∧ l1.length ≤ 361000 + 100 * r) := by
            refine ⟨_, PrP.next HTA.out HT1.out.2 hp3, ?_, ?_⟩
            · rw [HTK.out, HPT.out, HEQ.out, List.append_assoc]; exact .inl rfl
            · rw [List.length_append]; have := HEN.out; omega
          clear hw hp3
          go_wp2
          refine ⟨⟨i + 1, by omega, by simp, HN⟩, ?_⟩
          simp [intOf]; omega
        · have e1 : (kk == 2) = false := beq_eq_false_iff_ne.2 ek
          have he := hel _ B pb v1 l1 lo _ k r HP1.out (hT1.below ((Below.refl _ _).alloc (Nat.le_refl _) _) (by have := HBS.out; omega)) hokk (by rw [hhd]; exact ek) (by omega) hr
          clear hhd hokk hT1 ek
          go_wp2_with fail
          refine hfl.mono ?_
          rintro e w2 ⟨rfl, hw2⟩
          obtain rfl := hw2.symm
          clear hfl
          go_wp2_with fail
          refine he.mono ?_
          rintro e w3 ⟨rfl, l3, hp3, hpr3, hl3⟩
          have HN : Hid (∃ l1, PrP w B pb v l1 w3 ∧ Prints l (prF n (L.take (i + 1))) l1 ∧ l1.length ≤ 361000 + 100 * r) := ⟨l3, PrP.next HTA.out HT1.out.2 hp3, by rw [HTK.out]; exact Prints.trans HEQ.out hpr3, hl3⟩
          clear he hp3 hpr3 hl3
          go_wp2
          refine ⟨⟨i + 1, by omega, by simp, HN⟩, ?_⟩
          simp [intOf]; omega
    · have u1 : ¬ (i : Int) < (L.length : Int) := by omega
      have HE : Hid (∃ l1, PrP w B pb v l1 wr ∧ Prints l (prF n L) l1 ∧ l1.length ≤ 361000 + 100 * r) := by
        refine ⟨l1, ⟨v1, p1, t1, q1⟩, ?_, hl1⟩
        rwa [List.take_of_length_le (by omega)] at hpr
      clear hs p1 t1 q1 hpr hl1
      go_wp2
      first | go_end0 | refine bodyPost_ret (results_none rfl _ _ _) rfl ?_
      exact ⟨rfl, HE.out⟩

end Go.Proofs.YtmifejkddgcbmabGreat
