/- A printer's words; what a forest is in print, in plain; siblings that are written as nothing. -/
import Derived.Test.YtmifejkddgcbmaaGreatB01
import Derived.Test.YtmifejkddgcbmaaGreatB02
import Derived.Test.YtmifejkddgcbmaaGreatA05
import Derived.Deep.DeepCutAuto
namespace Go.Proofs.YtmifejkddgcbmaaGreat
open Go.RowKit
set_option linter.unusedVariables false
set_option linter.unusedSimpArgs false

/-- Strings that were just laid out, written. -/
theorem put_new {w : World} {B pb : Nat} {v : Value} {l : List UInt8} (h : Prn w B pb v l) (ss : List ByteArray) (cs : Array Value) (n cap : Nat) (hn : ss.length = n) (hcs : ∀ (i : Nat) (s : ByteArray), ss[i]? = some s → cs[i]? = some (Value.string s)) (hl : l.length + (catS ss).length ≤ 900000) (hss : ∀ s ∈ ss, s.size ≤ 200000) (hsl : n ≤ 10) :
    Calls Tryz.prog 62 #[.pointer (some ⟨pb, 0, none⟩), .slice (some ⟨w.heap.size, 0, none⟩) n cap] (w.alloc (.cells cs 9)) fun e w' => e = .returned (.tuple #[]) ∧ PrP w B pb v (l ++ catS ss) w' := by
  subst hn
  refine (put_any' (h.alloc (.cells cs 9)) w.heap.size ss cap (by simp) (fun hb => ?_) (fun i s hs => ?_) hl hss hsl).mono ?_
  · rcases hb with hb | hb
    · have := h.lt; omega
    · have := (h.row _ hb).2; omega
  · rw [(isCells_new w cs 9).cell]
    exact hcs i s hs
  · rintro e w' ⟨rfl, hp⟩
    exact ⟨rfl, PrP.next ((Turn.refl _ _).alloc _) (fun k hk => .inl hk) hp⟩

theorem PrP.below {w w0 w' : World} {B pb : Nat} {v : Value} {l : List UInt8} (hb : Below w.heap.size w w0) (h : PrP w0 B pb v l w') : PrP w B pb v l w' :=
  PrP.next ⟨hb.os, hb.tape, hb.output, hb.size, fun k hk _ => hb.block k hk⟩ (fun k hk => .inl hk) h

theorem eans_len {q : Bool} {s : ByteArray} (h : (tans s.data.toList).2 = 0) : (eans q s.data.toList).1.length ≤ 98304 := by
  have h1 := (tans_ok h).1
  have h2 := escL_length q s.data.toList
  rw [eans, if_pos h]
  show (escL q s.data.toList).length ≤ _
  omega

theorem get1 {a s : ByteArray}   : ∀ i : Nat, ([a] : List ByteArray)[i]? = some s → (#[Value.string a] : Array Value)[i]? = some (Value.string s)
  | 0, h => by simp at h; subst h; rfl
  | i + 1, h => by simp at h
theorem get2 {a b s : ByteArray}   : ∀ i : Nat, ([a, b] : List ByteArray)[i]? = some s → (#[Value.string a, .string b] : Array Value)[i]? = some (Value.string s)
  | 0, h => by simp at h; subst h; rfl
  | 1, h => by simp at h; subst h; rfl
  | i + 2, h => by simp at h
theorem get3 {a b c s : ByteArray}   : ∀ i : Nat, ([a, b, c] : List ByteArray)[i]? = some s → (#[Value.string a, .string b, .string c] : Array Value)[i]? = some (Value.string s)
  | 0, h => by simp at h; subst h; rfl
  | 1, h => by simp at h; subst h; rfl
  | 2, h => by simp at h; subst h; rfl
  | i + 3, h => by simp at h

set_option maxRecDepth 100000 in
set_option maxHeartbeats 1000000 in
theorem pwords_any {w : World} {B pb : Nat} {v : Value} {l : List UInt8} (h : Prn w B pb v l) (s : ByteArray) (q : Bool) (hs : (tans s.data.toList).2 = 0) (hl : l.length ≤ 700000) :
    Calls Tryz.prog 39 #[.pointer (some ⟨pb, 0, none⟩), .string s, .bool q] w fun e w' => e = .returned (.tuple #[]) ∧ PrP w B pb v (l ++ (eans q s.data.toList).1) w' := by
  have he := escape_any w s q
  have hlen := eans_len (q := q) hs
  have HP : Hid (Prn w B pb v l) := h
  generalize hx : (eans q s.data.toList).1 = x at *
  generalize (eans q s.data.toList).2.1 = y at *
  generalize (eans q s.data.toList).2.2 = z at *
  clear h hs hx
  go_enter Tryz.func39, Tryz.ntmps39
  go_wp2_with fail
  refine he.mono ?_
  rintro e w1 ⟨rfl, hb1⟩
  have hpt := put_new (HP.out.below hb1) [⟨x.toArray⟩] #[.string ⟨x.toArray⟩] 1 1 rfl (fun i _ => get1 i) (by simp [catS]; omega) (by intro s hs; simp at hs; subst hs; show x.toArray.size ≤ _; simp; omega) (by omega)
  have HB1 : Hid (Below w.heap.size w w1) := hb1
  clear he hb1
  go_wp2_with fail
  refine hpt.mono ?_
  rintro e w2 ⟨rfl, hp2⟩
  have HP2 : Hid (PrP w B pb v (l ++ x) w2) := by
    show PrP _ _ _ _ _ _
    have := PrP.below HB1.out hp2
    simpa [catS] using this
  clear hpt hp2
  go_wp2
  go_end0
  exact ⟨rfl, HP2.out⟩

/-- Of a node, its kind and text. -/
def headT : (n : Nat) → T n → Int × ByteArray
  | 0, t => (t : Empty).elim
  | _ + 1, t => (t.kind, t.text)
theorem head_of {w : World} {lo hi : Nat} {kk : Int} {nm tx : ByteArray} {a : Option Addr} {al ac : Nat} {ka : Option Addr} {kl kc : Nat} : ∀ {n : Nat} {k : T n}, TreeAt w lo hi n #[.int .i64 kk, .string nm, .slice a al ac, .string tx, .slice ka kl kc] k → headT n k = (kk, tx)
  | 0, _, h => h.elim
  | n + 1, k, h => by
    obtain ⟨a', ac', ka', kc', h1, _⟩ := h
    simp only [tv, Array.mk.injEq, List.cons.injEq, Value.int.injEq, Value.string.injEq, true_and] at h1
    obtain ⟨rfl, _, _, rfl, _⟩ := h1
    rfl
/-- Siblings that are written as nothing. -/
def hollowP (n : Nat) (L : List (T n)) : Bool := L.all fun k => decide ((headT n k).1 = 2) && ((headT n k).2.toList == [])

set_option maxRecDepth 100000 in
set_option maxHeartbeats 1000000 in
theorem hollow_any (n : Nat) (w : World) (lo : Nat) (ka : Option Addr) (L : List (T n)) (cap : Nat) (h : Tc.KidsAt w lo w.heap.size n ka L) (hl : L.length ≤ maxK) :
    Calls Tryz.prog 63 #[.slice ka L.length cap] w fun e w' => e = .returned (.bool (hollowP n L)) ∧ Below w.heap.size w w' := by
  have HK : Hid (Tc.KidsAt w lo w.heap.size n ka L) := h
  unfold maxK at hl
  clear h
  go_enter Tryz.func63, Tryz.ntmps63
  go_wp2
  go_loopw [7] (fun v7 wr => ∃ i : Nat, i ≤ L.length ∧ v7 = .int .i64 (i : Int) ∧ Hid (hollowP n L = hollowP n (L.drop i)) ∧ Hid (Below w.heap.size w wr)) (fun v7 _ => L.length - (intOf v7).toNat)
  case atStart => exact ⟨0, by omega, rfl, by rfl, Below.refl _ _⟩
  case round =>
    obtain ⟨i, hi, rfl, hg, hb⟩ := hrel
    have hs := hb.out.size
    by_cases hlt : i < L.length
    · have t1 : (i : Int) < (L.length : Int) := by omega
      have t0 : (0 : Int) ≤ (i : Int) := by omega
      obtain ⟨k, hk⟩ : ∃ k, L[i]? = some k := ⟨_, List.getElem?_eq_getElem hlt⟩
      have hdrop : L.drop i = k :: L.drop (i + 1) := by rw [List.drop_eq_getElem_cons hlt, (List.getElem?_eq_some_iff.1 hk).2]
      obtain ⟨b, o, kk, nm, a, al, ac, tx, ka', kl, kc, rfl, -, hbl, c0, c1, c2, c3, c4, hT⟩ := HK.out.get hk
      have hh := head_of hT
      have d0 := (hb.out.cell (p := ⟨b, o + i * 5, none⟩) hbl).trans c0
      have d1 := (hb.out.cell (p := ⟨b, o + i * 5 + 1, none⟩) hbl).trans c1
      have d2 := (hb.out.cell (p := ⟨b, o + i * 5 + 2, none⟩) hbl).trans c2
      have d3 := (hb.out.cell (p := ⟨b, o + i * 5 + 3, none⟩) hbl).trans c3
      have d4 := (hb.out.cell (p := ⟨b, o + i * 5 + 4, none⟩) hbl).trans c4
      have HG : Hid (hollowP n L = (decide (kk = 2) && (tx.toList == []) && hollowP n (L.drop (i + 1)))) := by
        show _ = _
        rw [hg.out, hdrop]
        simp only [hollowP, List.all_cons, hh]
      clear hg hdrop hk hh hT c0 c1 c2 c3 c4
      by_cases e1 : kk = 2
      · subst e1
        by_cases e2 : tx.toList = []
        · have q2 : (tx.toList == []) = true := by simp [e2]
          have HG2 : Hid (hollowP n L = hollowP n (L.drop (i + 1))) := by show _ = _; rw [HG.out, q2]; simp
          clear e2 HG
          go_wp2
          refine ⟨⟨i + 1, by omega, by simp, HG2, hb.out.alloc (by omega) _⟩, ?_⟩
          simp [intOf]; omega
        · have q2 : (tx.toList == []) = false := by simp [e2]
          have HG2 : Hid (hollowP n L = false) := by show _ = _; rw [HG.out, q2]; simp
          clear e2 HG
          go_wp2
          go_ret
          exact ⟨by rw [HG2.out]; rfl, hb.out.alloc (by omega) _⟩
      · have q1 : (kk == 2) = false := beq_eq_false_iff_ne.2 e1
        have q2 : (kk != 2) = true := by simp [bne, q1]
        have HG2 : Hid (hollowP n L = false) := by show _ = _; rw [HG.out, decide_eq_false e1]; simp
        clear e1 HG
        go_wp2
        go_ret
        exact ⟨by rw [HG2.out]; rfl, hb.out.alloc (by omega) _⟩
    · have t1 : ¬ (i : Int) < (L.length : Int) := by omega
      have HG : Hid (hollowP n L = true) := by show _ = _; rw [hg.out, List.drop_eq_nil_of_le (by omega)]; rfl
      clear hg
      go_wp2
      go_ret
      exact ⟨by rw [HG.out]; rfl, hb.out⟩

end Go.Proofs.YtmifejkddgcbmaaGreat

/- A forest in print, in plain; the printer's elements and siblings. -/
namespace Go.Proofs.YtmifejkddgcbmaaGreat
open Go.RowKit
set_option linter.unusedVariables false
set_option linter.unusedSimpArgs false

/-- An attribute in print. -/
def prA (p : ByteArray × ByteArray) : Bs := [32] ++ p.1.data.toList ++ [61, 34] ++ (eans true p.2.data.toList).1 ++ [34]
/-- The beginning of an element in print. -/
def prH (nm : ByteArray) (l : List (ByteArray × ByteArray)) : Bs := [60] ++ nm.data.toList ++ l.flatMap prA
/-- A tree in print. -/
def prT : (n : Nat) → T n → Bs
  | 0, t => (t : Empty).elim
  | n + 1, t => if t.kind = 2 then (eans false t.text.data.toList).1 else prH t.name t.attrs ++ (if hollowP n t.kids then [47, 62] else [62] ++ t.kids.flatMap (prT n) ++ ([60, 47] ++ t.name.data.toList ++ [62]))
def prF (n : Nat) (L : List (T n)) : Bs := L.flatMap (prT n)

/-- A tree that can be, of at most so many levels. -/
def okD : (n : Nat) → Nat → T n → Prop
  | 0, _, _ => False
  | n + 1, r, t => 0 < r ∧ ownE t = 0 ∧ ∀ k ∈ kidsT t, okD n (r - 1) k

/-- What is printed behind l: all of x, or so much that it is too long. -/
def Prints (l x l' : Bs) : Prop := l' = l ++ x ∨ (262144 < l'.length ∧ 262144 < l.length + x.length)
theorem Prints.full {l x y l' : Bs} (h : Prints l x l') (hl : 262144 < l'.length) : Prints l (x ++ y) l' := by
  right
  rcases h with rfl | h
  · simp only [List.length_append] at hl ⊢; omega
  · simp only [List.length_append]; omega
theorem Prints.not {l x l' : Bs} (h : Prints l x l') (hl : ¬ 262144 < l'.length) : l' = l ++ x := by
  rcases h with h | h
  · exact h
  · exact absurd h.1 hl
theorem Prints.trans {l x y l1 l' : Bs} (h : l1 = l ++ x) (h2 : Prints l1 y l') : Prints l (x ++ y) l' := by
  subst h
  rcases h2 with rfl | h2
  · left; rw [List.append_assoc]
  · right
    simp only [List.length_append] at h2 ⊢
    omega

theorem prF_take {n : Nat} {L : List (T n)} {i : Nat} {k : T n} (h : L[i]? = some k) : prF n (L.take (i + 1)) = prF n (L.take i) ++ prT n k := by
  unfold prF
  rw [List.take_add_one, h]
  simp
theorem prF_split {n : Nat} (L : List (T n)) (i : Nat) : prF n L = prF n (L.take i) ++ prF n (L.drop i) := by
  unfold prF
  rw [← List.flatMap_append, List.take_append_drop]

def SibPr (n : Nat) : Prop := ∀ (w : World) (B pb : Nat) (v : Value) (l : Bs) (lo : Nat) (ka : Option Addr) (L : List (T n)) (cap r : Nat), Prn w B pb v l → Tc.KidsAt w lo B n ka L → L.length ≤ maxK → (∀ k ∈ L, okD n r k) → l.length ≤ 361000 + 100 * r → r ≤ 65 →
  Calls Tryz.prog 26 #[.pointer (some ⟨pb, 0, none⟩), .slice ka L.length cap] w fun e w' => e = .returned (.tuple #[]) ∧ ∃ l', PrP w B pb v l' w' ∧ Prints l (prF n L) l' ∧ l'.length ≤ 361000 + 100 * r
def ElPr (n : Nat) : Prop := ∀ (w : World) (B pb : Nat) (v : Value) (l : Bs) (lo : Nat) (u : Array Value) (t : T n) (r : Nat), Prn w B pb v l → TreeAt w lo B n u t → okD n r t → (headT n t).1 ≠ 2 → l.length ≤ 262144 → r ≤ 65 →
  Calls Tryz.prog 40 #[.pointer (some ⟨pb, 0, none⟩), .agg u] w fun e w' => e = .returned (.tuple #[]) ∧ ∃ l', PrP w B pb v l' w' ∧ Prints l (prT n t) l' ∧ l'.length ≤ 361000 + 100 * r

theorem Prn.notIn {w : World} {B pb : Nat} {v : Value} {l : List UInt8} (h : Prn w B pb v l) {k : Nat} (hk : k < B) : ¬ PB pb v k := fun hb => by
  rcases hb with rfl | hb
  · have := h.lo; omega
  · have := (h.row k hb).1; omega
theorem Prn.notNew {w : World} {B pb : Nat} {v : Value} {l : List UInt8} (h : Prn w B pb v l) {k : Nat} (hk : w.heap.size ≤ k) : ¬ PB pb v k := fun hb => by
  rcases hb with rfl | hb
  · have := h.lt; omega
  · have := (h.row k hb).2; omega
theorem Turn.blk {A : Nat → Prop} {w w' : World} (h : Turn A w w') {b : Nat} (hb : b < w.heap.size) (ha : ¬ A b) (o : Nat) : w'.cell? ⟨b, o, none⟩ = w.cell? ⟨b, o, none⟩ := World.cell?_of_block (a := ⟨b, o, none⟩) (h.block b hb ha)

set_option maxRecDepth 100000 in
set_option maxHeartbeats 4000000 in
theorem sib_pr (n : Nat) (hel : ElPr n) : SibPr n := by
  intro w B pb v l lo ka L cap r hp hk hL hok hl hr
  have HK : Hid (Tc.KidsAt w lo B n ka L) := hk
  have HOK : Hid (∀ k ∈ L, okD n r k) := hok
  have HP0 : Hid (Prn w B pb v l) := hp
  have HBS : Hid (B ≤ w.heap.size) := by have := hp.lo; have := hp.lt; show _ ≤ _; omega
  have HS : Hid (∃ l1, PrP w B pb v l1 w ∧ Prints l (prF n (L.take 0)) l1 ∧ l1.length ≤ 361000 + 100 * r) := ⟨l, PrP.refl hp, .inl (by simp [prF]), hl⟩
  unfold maxK at hL
  clear hp hk hok hl
  go_enter Tryz.func26, Tryz.ntmps26
  go_wp2
  go_loopw [8] (fun v8 wr => ∃ i : Nat, i ≤ L.length ∧ v8 = .int .i64 (i : Int) ∧ Hid (∃ l1, PrP w B pb v l1 wr ∧ Prints l (prF n (L.take i)) l1 ∧ l1.length ≤ 361000 + 100 * r)) (fun v8 _ => L.length - (intOf v8).toNat)
  case atStart => exact ⟨0, by omega, rfl, HS⟩
  case round =>
    obtain ⟨i, hi, rfl, hs⟩ := hrel
    obtain ⟨l1, ⟨v1, p1, t1, q1⟩, hpr, hl1⟩ := hs.out
    by_cases hlt : i < L.length
    · have u1 : (i : Int) < (L.length : Int) := by omega
      have u0 : (0 : Int) ≤ (i : Int) := by omega
      obtain ⟨k, hk⟩ : ∃ k, L[i]? = some k := ⟨_, List.getElem?_eq_getElem hlt⟩
      obtain ⟨b, o, kk, nm, a, al, ac, tx, ka', kl, kc, rfl, -, hbl, c0, c1, c2, c3, c4, hT⟩ := HK.out.get hk
      have hbs : b < w.heap.size := by have := HBS.out; omega
      have hnb := HP0.out.notIn hbl
      have d0 := (t1.blk hbs hnb _).trans c0
      have d1 := (t1.blk hbs hnb _).trans c1
      have d2 := (t1.blk hbs hnb _).trans c2
      have d3 := (t1.blk hbs hnb _).trans c3
      have d4 := (t1.blk hbs hnb _).trans c4
      have hT1 : TreeAt wr lo B n #[.int .i64 kk, .string nm, .slice a al ac, .string tx, .slice ka' kl kc] k := hT.turn t1 HBS.out (fun k _ h2 => HP0.out.notIn h2)
      have hhd := head_of hT
      have hokk := HOK.out k (List.mem_of_getElem? hk)
      have HT1 : Hid (Turn (PB pb v) w wr ∧ ∀ k, v1.ownBlock = some k → v.ownBlock = some k ∨ w.heap.size ≤ k) := ⟨t1, q1⟩
      have hsz := t1.size
      have hfl := full_any (p1.alloc (.cells #[.int .i64 kk, .string nm, .slice a al ac, .string tx, .slice ka' kl kc] 40))
      have HPR : Hid (Prints l (prF n (L.take i)) l1) := hpr
      have HTK : Hid (prF n (L.take (i + 1)) = prF n (L.take i) ++ prT n k) := prF_take hk
      have HP1 : Hid (Prn (wr.alloc (.cells #[.int .i64 kk, .string nm, .slice a al ac, .string tx, .slice ka' kl kc] 40)) B pb v1 l1) := p1.alloc _
      have HTA : Hid (Turn (PB pb v) w (wr.alloc (.cells #[.int .i64 kk, .string nm, .slice a al ac, .string tx, .slice ka' kl kc] 40))) := t1.alloc _
      clear p1 t1 q1 hpr hT hs c0 c1 c2 c3 c4 hnb
      by_cases hf : 262144 < l1.length
      · rw [decide_eq_true hf] at hfl
        have HE : Hid (Prints l (prF n L) l1) := by show Prints _ _ _; rw [prF_split L i]; exact HPR.out.full hf
        clear hhd hokk hT1
        go_wp2_with fail
        refine hfl.mono ?_
        rintro e w2 ⟨rfl, hw⟩
        obtain rfl := hw.symm
        go_wp2
        first | go_end0 | refine bodyPost_ret (results_none rfl _ _ _) rfl ?_
        exact ⟨rfl, l1, PrP.next HTA.out HT1.out.2 (PrP.refl HP1.out), HE.out, hl1⟩
      · rw [decide_eq_false hf] at hfl
        have HEQ : Hid (l1 = l ++ prF n (L.take i)) := HPR.out.not hf
        by_cases ek : kk = 2
        · subst ek
          have hokt : (tans tx.data.toList).2 = 0 ∧ prT n k = (eans false tx.data.toList).1 := by
            cases n with
            | zero => exact hokk.elim
            | succ m =>
              obtain ⟨-, ho, -⟩ := hokk
              have h1 : k.kind = 2 := congrArg Prod.fst hhd
              have h2 : k.text = tx := congrArg Prod.snd hhd
              unfold ownE at ho
              rw [if_neg (by omega), if_pos h1, h2] at ho
              refine ⟨ho, ?_⟩
              show (if k.kind = 2 then _ else _) = _
              rw [if_pos h1, h2]
          have hw := pwords_any HP1.out tx false hokt.1 (by omega)
          have HEN : Hid ((eans false tx.data.toList).1.length ≤ 98304) := eans_len hokt.1
          have HPT : Hid (prT n k = (eans false tx.data.toList).1) := hokt.2
          clear hokt hhd hokk hT1
          generalize (eans false tx.data.toList).1 = x at *
          go_wp2_with fail
          refine hfl.mono ?_
          rintro e w2 ⟨rfl, hw2⟩
          obtain rfl := hw2.symm
          clear hfl
          go_wp2_with fail
          refine hw.mono ?_
          rintro e w3 ⟨rfl, hp3⟩
          have HN : Hid (∃ l1, PrP w B pb v l1 w3 ∧ Prints l (prF n (L.take (i + 1))) l1 ∧ l1.length ≤ 361000 + 100 * r) := by
            refine ⟨_, PrP.next HTA.out HT1.out.2 hp3, ?_, ?_⟩
            · rw [HTK.out, HPT.out, HEQ.out, List.append_assoc]; exact .inl rfl
            · rw [List.length_append]; have := HEN.out; omega
          clear hw hp3
          go_wp2
          refine ⟨⟨i + 1, by omega, by simp, HN⟩, ?_⟩
          simp [intOf]; omega
        · have e1 : (kk == 2) = false := beq_eq_false_iff_ne.2 ek
          have he := hel _ B pb v1 l1 lo _ k r HP1.out (hT1.below ((Below.refl _ _).alloc (Nat.le_refl _) _) (by have := HBS.out; omega)) hokk (by rw [hhd]; exact ek) (by omega) hr
          clear hhd hokk hT1 ek
          go_wp2_with fail
          refine hfl.mono ?_
          rintro e w2 ⟨rfl, hw2⟩
          obtain rfl := hw2.symm
          clear hfl
          go_wp2_with fail
          refine he.mono ?_
          rintro e w3 ⟨rfl, l3, hp3, hpr3, hl3⟩
          have HN : Hid (∃ l1, PrP w B pb v l1 w3 ∧ Prints l (prF n (L.take (i + 1))) l1 ∧ l1.length ≤ 361000 + 100 * r) := ⟨l3, PrP.next HTA.out HT1.out.2 hp3, by rw [HTK.out]; exact Prints.trans HEQ.out hpr3, hl3⟩
          clear he hp3 hpr3 hl3
          go_wp2
          refine ⟨⟨i + 1, by omega, by simp, HN⟩, ?_⟩
          simp [intOf]; omega
    · have u1 : ¬ (i : Int) < (L.length : Int) := by omega
      have HE : Hid (∃ l1, PrP w B pb v l1 wr ∧ Prints l (prF n L) l1 ∧ l1.length ≤ 361000 + 100 * r) := by
        refine ⟨l1, ⟨v1, p1, t1, q1⟩, ?_, hl1⟩
        rwa [List.take_of_length_le (by omega)] at hpr
      clear hs p1 t1 q1 hpr hl1
      go_wp2
      first | go_end0 | refine bodyPost_ret (results_none rfl _ _ _) rfl ?_
      exact ⟨rfl, HE.out⟩

end Go.Proofs.YtmifejkddgcbmaaGreat

/- The printer's elements. -/
namespace Go.Proofs.YtmifejkddgcbmaaGreat
open Go.RowKit
set_option linter.unusedVariables false
set_option linter.unusedSimpArgs false

theorem attrsGo_ok : ∀ (l : List (ByteArray × ByteArray)) (prev : Option ByteArray), attrsGo prev l = 0 → ∀ p ∈ l, nameL p.1.data.toList = true ∧ (tans p.2.data.toList).2 = 0
  | [], _, _, p, hp => by simp at hp
  | q :: r, prev, h, p, hp => by
    rw [attrsGo] at h
    split at h
    · omega
    · rename_i h1
      have hn : nameL q.1.data.toList = true := by
        cases hq : nameL q.1.data.toList
        · exact absurd (.inl hq) h1
        · rfl
      split at h
      · rename_i h2
        rcases List.mem_cons.1 hp with rfl | hp
        · exact ⟨hn, h2⟩
        · exact attrsGo_ok r _ h p hp
      · rename_i h2
        exact absurd h h2
theorem nameL_len {l : Bs} (h : nameL l = true) : 1 ≤ l.length ∧ l.length ≤ 32 := by
  unfold nameL at h
  simp only [Bool.and_eq_true, decide_eq_true_eq] at h
  exact h.1.1
/-- What an element that can be has. -/
theorem own_el {α : Type} {t : Nd α} (h : ownE t = 0) (hk : t.kind ≠ 2) : t.kind = 1 ∧ nameL t.name.data.toList = true ∧ t.attrs.length ≤ 32 ∧ attrsGo none t.attrs = 0 ∧ (∀ p ∈ t.attrs, nameL p.1.data.toList = true ∧ (tans p.2.data.toList).2 = 0) ∧ kidsT t = t.kids := by
  unfold ownE at h
  by_cases k1 : t.kind = 1
  · rw [if_pos k1] at h
    cases hn : nameL t.name.data.toList
    · rw [hn] at h; simp at h
    · rw [hn] at h
      simp only [if_true] at h
      unfold attrsE at h
      split at h
      · omega
      · exact ⟨k1, rfl, by omega, h, attrsGo_ok _ _ h, if_pos k1⟩
  · rw [if_neg k1, if_neg hk] at h
    omega

theorem prH_take {nm : ByteArray} {l : List (ByteArray × ByteArray)} {i : Nat} {p : ByteArray × ByteArray} (h : l[i]? = some p) : prH nm (l.take (i + 1)) = prH nm (l.take i) ++ prA p := by
  unfold prH
  rw [List.take_add_one, h]
  simp [List.append_assoc]
theorem prH_split (nm : ByteArray) (l : List (ByteArray × ByteArray)) (i : Nat) : prH nm l = prH nm (l.take i) ++ (l.drop i).flatMap prA := by
  unfold prH
  rw [List.append_assoc, List.append_assoc, List.append_assoc, ← List.flatMap_append, List.take_append_drop]

theorem Prn.put1 {w : World} {B pb : Nat} {v : Value} {l : List UInt8} (h : Prn w B pb v l) (a : ByteArray) (x : Bs) (hx : a.data.toList = x) (hl : l.length ≤ 700000) (ha : a.size ≤ 100) :
    Calls Tryz.prog 62 #[.pointer (some ⟨pb, 0, none⟩), .slice (some ⟨w.heap.size, 0, none⟩) 1 1] (w.alloc (.cells #[.string a] 9)) fun e w' => e = .returned (.tuple #[]) ∧ PrP w B pb v (l ++ x) w' := by
  subst hx
  have := put_new h [a] #[.string a] 1 1 rfl (fun i _ => get1 i) (by simp only [catS, List.flatMap_cons, List.flatMap_nil, List.append_nil, size_list]; omega) (by intro s hs; simp at hs; subst hs; omega) (by omega)
  simpa [catS] using this
theorem Prn.put2 {w : World} {B pb : Nat} {v : Value} {l : List UInt8} (h : Prn w B pb v l) (a b : ByteArray) (x : Bs) (hx : a.data.toList ++ b.data.toList = x) (hl : l.length ≤ 700000) (ha : a.size ≤ 100) (hb : b.size ≤ 100) :
    Calls Tryz.prog 62 #[.pointer (some ⟨pb, 0, none⟩), .slice (some ⟨w.heap.size, 0, none⟩) 2 2] (w.alloc (.cells #[.string a, .string b] 9)) fun e w' => e = .returned (.tuple #[]) ∧ PrP w B pb v (l ++ x) w' := by
  subst hx
  have := put_new h [a, b] #[.string a, .string b] 2 2 rfl (fun i _ => get2 i) (by simp only [catS, List.flatMap_cons, List.flatMap_nil, List.append_nil, List.length_append, size_list]; omega) (by intro s hs; simp at hs; rcases hs with rfl | rfl <;> omega) (by omega)
  simpa [catS] using this
theorem Prn.put3 {w : World} {B pb : Nat} {v : Value} {l : List UInt8} (h : Prn w B pb v l) (a b c : ByteArray) (x : Bs) (hx : a.data.toList ++ (b.data.toList ++ c.data.toList) = x) (hl : l.length ≤ 700000) (ha : a.size ≤ 100) (hb : b.size ≤ 100) (hc : c.size ≤ 100) :
    Calls Tryz.prog 62 #[.pointer (some ⟨pb, 0, none⟩), .slice (some ⟨w.heap.size, 0, none⟩) 3 3] (w.alloc (.cells #[.string a, .string b, .string c] 9)) fun e w' => e = .returned (.tuple #[]) ∧ PrP w B pb v (l ++ x) w' := by
  subst hx
  have := put_new h [a, b, c] #[.string a, .string b, .string c] 3 3 rfl (fun i _ => get3 i) (by simp only [catS, List.flatMap_cons, List.flatMap_nil, List.append_nil, List.length_append, size_list]; omega) (by intro s hs; simp at hs; rcases hs with rfl | rfl | rfl <;> omega) (by omega)
  simpa [catS] using this

theorem cells5' (w : World) (a b c d e : Value) (T : TypeId) : (w.alloc (.cells #[a, b, c, d, e] T)).cell? ⟨w.heap.size, 0, none⟩ = some a ∧ (w.alloc (.cells #[a, b, c, d, e] T)).cell? ⟨w.heap.size, 1, none⟩ = some b ∧ (w.alloc (.cells #[a, b, c, d, e] T)).cell? ⟨w.heap.size, 2, none⟩ = some c ∧ (w.alloc (.cells #[a, b, c, d, e] T)).cell? ⟨w.heap.size, 3, none⟩ = some d ∧ (w.alloc (.cells #[a, b, c, d, e] T)).cell? ⟨w.heap.size, 4, none⟩ = some e := by
  have := (isCells_new w #[a, b, c, d, e] T).cell
  exact ⟨this 0, this 1, this 2, this 3, this 4⟩
theorem cells2' (w : World) (a b : Value) (T : TypeId) : (w.alloc (.cells #[a, b] T)).cell? ⟨w.heap.size, 0, none⟩ = some a ∧ (w.alloc (.cells #[a, b] T)).cell? ⟨w.heap.size, 1, none⟩ = some b := by
  have := (isCells_new w #[a, b] T).cell
  exact ⟨this 0, this 1⟩

set_option maxRecDepth 100000 in
set_option maxHeartbeats 4000000 in
theorem el_pr (n : Nat) (hsib : SibPr n) : ElPr (n + 1) := by
  intro w B pb v l lo u t r hp hT hok hkd hl hr
  obtain ⟨hr0, hown, hkok⟩ := hok
  obtain ⟨hk1, hnm, hal, -, hats, hkT⟩ := own_el hown hkd
  rw [hkT] at hkok
  obtain ⟨aa, ac, ka, kc, rfl, -, hkl, -, -, hat, hkids⟩ := hT
  have hnl := nameL_len hnm
  rw [size_list] at hnl
  have hk2 : ¬ t.kind = 2 := hkd
  have HPT : Hid (prT (n + 1) t = prH t.name t.attrs ++ (if hollowP n t.kids then [47, 62] else [62] ++ prF n t.kids ++ ([60, 47] ++ t.name.data.toList ++ [62]))) := by
    show prT (n + 1) t = _
    show (if t.kind = 2 then _ else _) = _
    rw [if_neg hk2]; rfl
  have hBS : B ≤ w.heap.size := by have := hp.lo; have := hp.lt; omega
  unfold tv
  obtain ⟨w0, hw0⟩ : ∃ w0, w0 = w.alloc (.cells #[.int .i64 t.kind, .string t.name, .slice aa t.attrs.length ac, .string t.text, .slice ka t.kids.length kc] 40) := ⟨_, rfl⟩
  have hp0 : Prn w0 B pb v l := by rw [hw0]; exact hp.alloc _
  obtain ⟨-, c1, c2, -, c4⟩ := cells5' w (.int .i64 t.kind) (.string t.name) (.slice aa t.attrs.length ac) (.string t.text) (.slice ka t.kids.length kc) 40
  rw [← hw0] at c1 c2 c4
  have HX : Hid (¬ PB pb v w.heap.size ∧ w.heap.size < w0.heap.size) := ⟨hp.notNew (Nat.le_refl _), by rw [hw0]; simp⟩
  have HC1 : Hid (w0.cell? ⟨w.heap.size, 1, none⟩ = some (.string t.name)) := c1
  have HC4 : Hid (w0.cell? ⟨w.heap.size, 4, none⟩ = some (.slice ka t.kids.length kc)) := c4
  have HB0 : Hid (Below w.heap.size w w0) := by rw [hw0]; exact (Below.refl _ _).alloc (Nat.le_refl _) _
  have HAT : Hid (AttrsAt w0 lo B aa t.attrs) := hat.of_cells (fun b o _ hb => HB0.out.cell (p := ⟨b, o, none⟩) (show b < w.heap.size by omega))
  have HKA : Hid (Tc.KidsAt w0 lo B n ka t.kids) := Tc.KidsAt.of_cells (fun i k hk => hkids i k hk) (fun b o _ hb => HB0.out.cell (p := ⟨b, o, none⟩) (show b < w.heap.size by omega))
  have HP0 : Hid (Prn w0 B pb v l) := hp0
  have hBS0 : B ≤ w0.heap.size := Nat.le_trans hBS HB0.out.size
  obtain ⟨x1, hx1⟩ : ∃ x1, (⟨#[60]⟩ : ByteArray).data.toList ++ t.name.data.toList = x1 := ⟨_, rfl⟩
  have hput1 := hp0.put2 ⟨#[60]⟩ t.name x1 hx1 (by omega) (by decide) (by omega)
  have HX1 : Hid (x1 = [60] ++ t.name.data.toList ∧ x1.length ≤ 33) := ⟨hx1.symm, by rw [← hx1, List.length_append, size_list t.name]; show 1 + _ ≤ _; omega⟩
  have HATS : Hid (∀ p ∈ t.attrs, nameL p.1.data.toList = true ∧ (tans p.2.data.toList).2 = 0) := hats
  have HKOK : Hid (∀ k ∈ t.kids, okD n (r - 1) k) := hkok
  have HFIN : Hid (∀ w', (∃ l', PrP w0 B pb v l' w' ∧ Prints l (prT (n + 1) t) l' ∧ l'.length ≤ 361000 + 100 * r) → (∃ l', PrP w B pb v l' w' ∧ Prints l (prT (n + 1) t) l' ∧ l'.length ≤ 361000 + 100 * r)) := fun w' ⟨l', h1, h2, h3⟩ => ⟨l', PrP.below HB0.out h1, h2, h3⟩
  have HW0 : Hid (w0 = w.alloc (.cells #[.int .i64 t.kind, .string t.name, .slice aa t.attrs.length ac, .string t.text, .slice ka t.kids.length kc] 40)) := hw0
  clear hx1 hp hp0 hat hkids hkok hown hats hnm hkT hkd hw0 hk1 hk2 c4
  unfold maxK at hkl
  go_enter Tryz.func40, Tryz.ntmps40
  go_upto_region 1 with fail
  rw [← HW0.out]
  clear HW0
  go_wp2_with fail
  refine hput1.mono ?_
  rintro e w1 ⟨rfl, hp1⟩
  have HS1 : Hid (∃ l1, PrP w0 B pb v l1 w1 ∧ l1 = l ++ prH t.name (t.attrs.take 0) ∧ l1.length ≤ 360600) := ⟨_, hp1, by rw [HX1.out.1]; simp [prH], by rw [List.length_append]; have := HX1.out.2; omega⟩
  obtain ⟨v1, p1, t1, q1⟩ := hp1
  have c2' := (t1.blk HX.out.2 HX.out.1 2).trans c2
  clear hput1 p1 t1 q1 c1 c2
  go_wp2
  go_loopw [14] (fun v14 wr => ∃ i : Nat, i ≤ t.attrs.length ∧ v14 = .int .i64 (i : Int) ∧ Hid (∃ l1, PrP w0 B pb v l1 wr ∧ l1 = l ++ prH t.name (t.attrs.take i) ∧ l1.length ≤ 360600)) (fun v14 _ => t.attrs.length - (intOf v14).toNat)
  case atStart => exact ⟨0, by omega, rfl, HS1⟩
  case round =>
    obtain ⟨i, hi, rfl, hs⟩ := hrel
    clear HS1 c2'
    obtain ⟨l1, ⟨v1, p1, t1, q1⟩, he1, hl1⟩ := hs.out
    have HQ : Hid (Turn (PB pb v) w0 wr ∧ ∀ k, v1.ownBlock = some k → v.ownBlock = some k ∨ w0.heap.size ≤ k) := ⟨t1, q1⟩
    by_cases hlt : i < t.attrs.length
    · have u1 : (i : Int) < (t.attrs.length : Int) := by omega
      have u0 : (0 : Int) ≤ (i : Int) := by omega
      obtain ⟨⟨an, av⟩, hpr⟩ : ∃ p, t.attrs[i]? = some p := ⟨_, List.getElem?_eq_getElem hlt⟩
      obtain ⟨b, o, rfl, -, hbl, a0, a1⟩ := HAT.out i _ hpr
      have hbs : b < w0.heap.size := by omega
      have d0 := (t1.blk hbs (HP0.out.notIn hbl) _).trans a0
      have d1 := (t1.blk hbs (HP0.out.notIn hbl) _).trans a1
      obtain ⟨hnA, htA⟩ := HATS.out _ (List.mem_of_getElem? hpr)
      have hnl2 : 1 ≤ an.size ∧ an.size ≤ 32 := by have := nameL_len hnA; rwa [size_list] at this
      have HPH : Hid (prH t.name (t.attrs.take (i + 1)) = prH t.name (t.attrs.take i) ++ prA (an, av)) := prH_take hpr
      have hsz := t1.size
      obtain ⟨w2, hw2⟩ : ∃ w2, w2 = wr.alloc (.cells #[.string an, .string av] 55) := ⟨_, rfl⟩
      have hp2 : Prn w2 B pb v1 l1 := by rw [hw2]; exact p1.alloc _
      obtain ⟨e0, e1⟩ := cells2' wr (.string an) (.string av) 55
      rw [← hw2] at e0 e1
      have HT2 : Hid (Turn (PB pb v) w0 w2) := by rw [hw2]; exact t1.alloc _
      have HY : Hid (¬ PB pb v1 wr.heap.size ∧ wr.heap.size < w2.heap.size) := ⟨p1.notNew (Nat.le_refl _), by rw [hw2]; simp⟩
      have HP2 : Hid (Prn w2 B pb v1 l1) := hp2
      have hfl := full_any hp2
      have HW2 : Hid (w2 = wr.alloc (.cells #[.string an, .string av] 55)) := hw2
      have HE1 : Hid (l1 = l ++ prH t.name (t.attrs.take i)) := he1
      have HD1 : Hid (w2.cell? ⟨wr.heap.size, 1, none⟩ = some (.string av)) := e1
      clear hpr a0 a1 hnA t1 q1 p1 hs hw2 he1 e1 HKA hp2
      go_upto_region 5 with fail
      rw [← HW2.out]
      clear HW2
      by_cases hf : 262144 < l1.length
      · rw [decide_eq_true hf] at hfl
        have HE : Hid (∃ l', PrP w0 B pb v l' w2 ∧ Prints l (prT (n + 1) t) l' ∧ l'.length ≤ 361000 + 100 * r) := by
          refine ⟨l1, PrP.next HT2.out HQ.out.2 (PrP.refl HP2.out), ?_, by omega⟩
          rw [HPT.out, prH_split t.name t.attrs i, List.append_assoc]
          exact Prints.full (.inl HE1.out) hf
        clear d0 d1 e0 htA
        go_wp2_with fail
        refine hfl.mono ?_
        rintro e w3 ⟨rfl, hw3⟩
        obtain rfl := hw3.symm
        go_wp2
        first | go_end0 | refine bodyPost_ret (results_none rfl _ _ _) rfl ?_
        exact ⟨rfl, HFIN.out _ HE.out⟩
      · rw [decide_eq_false hf] at hfl
        obtain ⟨x3, hx3⟩ : ∃ x3, (⟨#[32]⟩ : ByteArray).data.toList ++ (an.data.toList ++ (⟨#[61, 34]⟩ : ByteArray).data.toList) = x3 := ⟨_, rfl⟩
        have HX3 : Hid (x3 = [32] ++ (an.data.toList ++ [61, 34])) := hx3.symm
        have hx3l : x3.length ≤ 35 := by rw [← hx3, List.length_append, List.length_append, size_list an]; show 1 + (_ + 2) ≤ _; omega
        have hput := HP2.out.put3 ⟨#[32]⟩ an ⟨#[61, 34]⟩ x3 hx3 (by omega) (by decide) (by omega) (by decide)
        have HEN : Hid ((eans true av.data.toList).1.length ≤ 98304) := eans_len htA
        have HTA : Hid ((tans av.data.toList).2 = 0) := htA
        clear d0 d1 htA hx3
        go_wp2_with fail
        refine hfl.mono ?_
        rintro e w3 ⟨rfl, hw3⟩
        obtain rfl := hw3.symm
        clear hfl
        go_wp2_with fail
        refine hput.mono ?_
        rintro e w4 ⟨rfl, v4, p4, t4, q4⟩
        have e1 := (t4.blk HY.out.2 HY.out.1 1).trans HD1.out
        have HQ4 : Hid (Turn (PB pb v1) w2 w4 ∧ ∀ k, v4.ownBlock = some k → v1.ownBlock = some k ∨ w2.heap.size ≤ k) := ⟨t4, q4⟩
        have hlen4 : (l1 ++ x3).length ≤ 262144 + 40 := by rw [List.length_append]; omega
        have hw := pwords_any p4 av true HTA.out (by omega)
        clear hput p4 t4 q4 e0
        go_wp2_with fail
        refine hw.mono ?_
        rintro e w5 ⟨rfl, v5, p5, t5, q5⟩
        have HQ5 : Hid (Turn (PB pb v4) w4 w5 ∧ ∀ k, v5.ownBlock = some k → v4.ownBlock = some k ∨ w4.heap.size ≤ k) := ⟨t5, q5⟩
        have hput5 := p5.put1 ⟨#[34]⟩ [34] rfl (by rw [List.length_append]; have := HEN.out; omega) (by decide)
        clear hw p5 t5 q5 e1
        go_wp2_with fail
        refine hput5.mono ?_
        rintro e w6 ⟨rfl, hp6⟩
        have HN : Hid (∃ l1, PrP w0 B pb v l1 w6 ∧ l1 = l ++ prH t.name (t.attrs.take (i + 1)) ∧ l1.length ≤ 360600) := by
          refine ⟨_, PrP.next HT2.out HQ.out.2 (PrP.next HQ4.out.1 HQ4.out.2 (PrP.next HQ5.out.1 HQ5.out.2 hp6)), ?_, ?_⟩
          · rw [HPH.out, ← List.append_assoc l, ← HE1.out, HX3.out]
            simp [prA, List.append_assoc]
          · rw [List.length_append, List.length_append]
            have := HEN.out
            show _ + 1 ≤ _
            omega
        clear hput5 hp6
        go_wp2
        refine ⟨⟨i + 1, by omega, by simp, HN⟩, ?_⟩
        simp [intOf]; omega
    · have u1 : ¬ (i : Int) < (t.attrs.length : Int) := by omega
      have hie : i = t.attrs.length := by omega
      have HE1 : Hid (l1 = l ++ prH t.name t.attrs) := by
        show _ = _
        rw [he1, hie, List.take_length]
      have c4' := (t1.blk HX.out.2 HX.out.1 4).trans HC4.out
      have c1' := (t1.blk HX.out.2 HX.out.1 1).trans HC1.out
      have hsz := t1.size
      have hka1 : Tc.KidsAt wr lo B n ka t.kids := HKA.out.turn t1 hBS0 (fun k _ hk => HP0.out.notIn hk)
      have hBr : B ≤ wr.heap.size := by omega
      have hkaS : Tc.KidsAt wr lo wr.heap.size n ka t.kids := fun i k hk => by
        obtain ⟨b, o, u, g1, g2, g3, g4, g5, g6⟩ := hka1 i k hk
        exact ⟨b, o, u, g1, g2, by omega, g4, g5, g6.mono (Nat.le_refl _) hBr⟩
      have hho := hollow_any n wr lo ka t.kids kc hkaS (by unfold maxK; omega)
      have HKA1 : Hid (Tc.KidsAt wr lo B n ka t.kids) := hka1
      have HP1 : Hid (Prn wr B pb v1 l1) := p1
      have HC : Hid (wr.cell? ⟨w.heap.size, 4, none⟩ = some (.slice ka t.kids.length kc) ∧ wr.cell? ⟨w.heap.size, 1, none⟩ = some (.string t.name)) := ⟨c4', c1'⟩
      have HXr : Hid (w.heap.size < wr.heap.size) := by have := HX.out.2; show _ < _; omega
      have HXv : Hid (¬ PB pb v1 w.heap.size) := fun hb => by
        rcases hb with hb | hb
        · exact HX.out.1 (.inl hb)
        · rcases HQ.out.2 _ hb with hb | hb
          · exact HX.out.1 (.inr hb)
          · have := HX.out.2; omega
      clear he1 hie hka1 hkaS t1 q1 p1 hs HAT HATS c1'
      cases hh : hollowP n t.kids
      · rw [hh] at hho
        have HP9 : Hid (prT (n + 1) t = prH t.name t.attrs ++ ([62] ++ prF n t.kids ++ ([60, 47] ++ t.name.data.toList ++ [62]))) := by show _ = _; rw [HPT.out, hh]; simp
        clear hh
        go_wp2_with fail
        refine hho.mono ?_
        rintro e w2 ⟨rfl, hb2⟩
        have hp2 := HP1.out.below hb2
        have HB2 : Hid (Below wr.heap.size wr w2) := hb2
        have hput := hp2.put1 ⟨#[62]⟩ [62] rfl (by omega) (by decide)
        have hs2 := hb2.size
        clear hho hp2 hb2 c4'
        go_wp2_with fail
        refine hput.mono ?_
        rintro e w3 ⟨rfl, v3, p3, t3, q3⟩
        have HQ3 : Hid (Turn (PB pb v1) w2 w3 ∧ ∀ k, v3.ownBlock = some k → v1.ownBlock = some k ∨ w2.heap.size ≤ k) := ⟨t3, q3⟩
        have hs3 := t3.size
        have hxw2 : w.heap.size < w2.heap.size := by have := HXr.out; omega
        have f4 := (t3.blk hxw2 HXv.out 4).trans ((HB2.out.cell (p := ⟨w.heap.size, 4, none⟩) HXr.out).trans HC.out.1)
        have hka3 : Tc.KidsAt w3 lo B n ka t.kids := (HKA1.out.of_cells (fun b o _ hb => HB2.out.cell (p := ⟨b, o, none⟩) (show b < wr.heap.size by omega))).turn t3 (by omega) (fun k _ hk => HP1.out.notIn hk)
        have hsb := hsib w3 B pb v3 _ lo ka t.kids kc (r - 1) p3 hka3 (by unfold maxK; omega) HKOK.out (by rw [List.length_append]; show _ + 1 ≤ _; omega) (by omega)
        have HXv3 : Hid (¬ PB pb v3 w.heap.size) := fun hb => by
          rcases hb with hb | hb
          · exact HXv.out (.inl hb)
          · rcases HQ3.out.2 _ hb with hb | hb
            · exact HXv.out (.inr hb)
            · omega
        have HF1 : Hid (w3.cell? ⟨w.heap.size, 1, none⟩ = some (.string t.name)) := (t3.blk hxw2 HXv.out 1).trans ((HB2.out.cell (p := ⟨w.heap.size, 1, none⟩) HXr.out).trans HC.out.2)
        clear hput p3 t3 q3 hka3
        go_wp2_with fail
        refine hsb.mono ?_
        rintro e w4 ⟨rfl, l4, ⟨v4, p4, t4, q4⟩, hpr4, hl4⟩
        have HQ4 : Hid (Turn (PB pb v3) w3 w4 ∧ ∀ k, v4.ownBlock = some k → v3.ownBlock = some k ∨ w3.heap.size ≤ k) := ⟨t4, q4⟩
        have f1 := (t4.blk (by omega) HXv3.out 1).trans HF1.out
        obtain ⟨x5, hx5⟩ : ∃ x5, (⟨#[60, 47]⟩ : ByteArray).data.toList ++ (t.name.data.toList ++ (⟨#[62]⟩ : ByteArray).data.toList) = x5 := ⟨_, rfl⟩
        have HX5 : Hid (x5 = [60, 47] ++ (t.name.data.toList ++ [62])) := hx5.symm
        have hx5l : x5.length ≤ 35 := by rw [← hx5, List.length_append, List.length_append, size_list t.name]; show 2 + (_ + 1) ≤ _; omega
        have hput4 := p4.put3 ⟨#[60, 47]⟩ t.name ⟨#[62]⟩ x5 hx5 (by omega) (by decide) (by omega) (by decide)
        have HPR4 : Hid (Prints (l1 ++ [62]) (prF n t.kids) l4) := hpr4
        clear hsb p4 t4 q4 f4 hpr4 hx5
        go_wp2_with fail
        refine hput4.mono ?_
        rintro e w5 ⟨rfl, hp5⟩
        have HE : Hid (∃ l', PrP w0 B pb v l' w5 ∧ Prints l (prT (n + 1) t) l' ∧ l'.length ≤ 361000 + 100 * r) := by
          refine ⟨_, PrP.next HQ.out.1 HQ.out.2 (PrP.below HB2.out (PrP.next HQ3.out.1 HQ3.out.2 (PrP.next HQ4.out.1 HQ4.out.2 hp5))), ?_, ?_⟩
          · rw [HP9.out]
            refine Prints.trans HE1.out ?_
            rcases HPR4.out with h | h
            · left
              rw [h, HX5.out]
              simp [List.append_assoc]
            · right
              have h5 := congrArg List.length HX5.out
              simp only [List.length_append] at h h5 ⊢
              simp only [List.length_cons, List.length_nil] at h h5 ⊢
              omega
          · rw [List.length_append]
            omega
        clear hput4 hp5
        go_wp2
        first | go_end0 | refine bodyPost_ret (results_none rfl _ _ _) rfl ?_
        exact ⟨rfl, HFIN.out _ HE.out⟩
      · rw [hh] at hho
        have HP9 : Hid (prT (n + 1) t = prH t.name t.attrs ++ [47, 62]) := by show _ = _; rw [HPT.out, hh]; simp
        clear hh
        go_wp2_with fail
        refine hho.mono ?_
        rintro e w2 ⟨rfl, hb2⟩
        have hp2 := HP1.out.below hb2
        have HB2 : Hid (Below wr.heap.size wr w2) := hb2
        have hput := hp2.put1 ⟨#[47, 62]⟩ [47, 62] rfl (by omega) (by decide)
        clear hho hp2 hb2 c4'
        go_wp2_with fail
        refine hput.mono ?_
        rintro e w3 ⟨rfl, hp3⟩
        have HE : Hid (∃ l', PrP w0 B pb v l' w3 ∧ Prints l (prT (n + 1) t) l' ∧ l'.length ≤ 361000 + 100 * r) := by
          refine ⟨_, PrP.next HQ.out.1 HQ.out.2 (PrP.below HB2.out hp3), ?_, ?_⟩
          · rw [HP9.out]
            exact Prints.trans HE1.out (.inl rfl)
          · rw [List.length_append]; show _ + 2 ≤ _; omega
        clear hput hp3
        go_wp2
        first | go_end0 | refine bodyPost_ret (results_none rfl _ _ _) rfl ?_
        exact ⟨rfl, HFIN.out _ HE.out⟩

theorem sib_pr_all : ∀ n, SibPr n
  | 0 => sib_pr 0 (fun _ _ _ _ _ _ _ _ _ _ h => h.elim)
  | n + 1 => sib_pr (n + 1) (el_pr n (sib_pr_all n))

end Go.Proofs.YtmifejkddgcbmaaGreat
