/- Merge and Both at items; both without an order. -/
import Derived.Test.YtiggpbjgnododaaMd
namespace Go.Proofs.Ytiggpbjgnododaa.T
open Go.RowKit Go.Shelf
set_option linter.unusedVariables false
attribute [local go_sem] Bel.cell

set_option maxRecDepth 100000 in
set_option maxHeartbeats 1000000 in
theorem works54 (w : World) (lb sb : Nat) (a : Option Addr) (n cap : Nat) (LL : List (List (Int × Int))) (cl : w.cell? ⟨lb, 0, none⟩ = some (.func (.func 9) #[] #[])) (cs : w.cell? ⟨sb, 0, none⟩ = some (.slice a n cap)) (h1 : lb < w.heap.size) (h2 : sb < w.heap.size)
    (h : Sll w a n cap LL) (ht : tot LL ≤ 8192) (hn : n ≤ 8796093022208) : Works w 54 #[.pointer (some ⟨lb, 0, none⟩), .pointer (some ⟨sb, 0, none⟩)] (mgs LL) := by
  intro W hW
  have c1 : W.cell? ⟨lb, 0, none⟩ = some (.func (.func 9) #[] #[]) := (hW.cell (p := ⟨lb, 0, none⟩) h1).trans cl
  have c2 : W.cell? ⟨sb, 0, none⟩ = some (.slice a n cap) := (hW.cell (p := ⟨sb, 0, none⟩) h2).trans cs
  have hm := merged_any n n (Nat.le_refl _) W a cap LL (h.below hW) ht hn
  rw [mgs_length]
  clear h cl cs hW
  go_enter Try.func54, Try.ntmps54
  go_wp2_with fail
  refine hm.mono ?_
  rintro e w1 ⟨ra, rc, rfl, m1⟩
  have M1 : Hid (Mk W w1 (.slice ra (tot LL) rc) (tot LL) (cellsOf (mgs LL))) := m1
  clear hm m1
  go_wp2
  go_ret
  exact ⟨ra, rc, rfl, M1.out⟩

set_option maxRecDepth 100000 in
set_option maxHeartbeats 1000000 in
theorem works57 (w : World) (lb sb tb : Nat) (a b : Option Addr) (n m ca cb : Nat) (A B : List (Int × Int)) (cl : w.cell? ⟨lb, 0, none⟩ = some (.func (.func 9) #[] #[])) (cs : w.cell? ⟨sb, 0, none⟩ = some (.slice a n ca)) (ct : w.cell? ⟨tb, 0, none⟩ = some (.slice b m cb))
    (h1 : lb < w.heap.size) (h2 : sb < w.heap.size) (h3 : tb < w.heap.size) (hA : Sl w a n ca A) (hB : Sl w b m cb B) (hn : n ≤ 8192) (hm : m ≤ 8192) : Works w 57 #[.pointer (some ⟨lb, 0, none⟩), .pointer (some ⟨sb, 0, none⟩), .pointer (some ⟨tb, 0, none⟩)] (com A B) := by
  intro W hW
  have c1 : W.cell? ⟨lb, 0, none⟩ = some (.func (.func 9) #[] #[]) := (hW.cell (p := ⟨lb, 0, none⟩) h1).trans cl
  have c2 : W.cell? ⟨sb, 0, none⟩ = some (.slice a n ca) := (hW.cell (p := ⟨sb, 0, none⟩) h2).trans cs
  have c3 : W.cell? ⟨tb, 0, none⟩ = some (.slice b m cb) := (hW.cell (p := ⟨tb, 0, none⟩) h3).trans ct
  have hc := common_any W a b n m ca cb A B (hA.below hW) (hB.below hW) hn hm
  clear hA hB cl cs ct hW
  go_enter Try.func57, Try.ntmps57
  go_wp2_with fail
  refine hc.mono ?_
  rintro e w1 ⟨ra, rc, rfl, m1⟩
  have M1 : Hid (Mk W w1 (.slice ra (com A B).length rc) (com A B).length (cellsOf (com A B))) := m1
  clear hc m1
  go_wp2
  go_ret
  exact ⟨ra, rc, rfl, M1.out⟩

def mergeL (LL : List (List (Int × Int))) : List (Int × Int) := if 8192 < tot LL then [] else madeL LL (mgs LL)
def mergeE (LL : List (List (Int × Int))) : Int := if 8192 < tot LL then 2 else madeE LL

theorem tot_snoc {LL : List (List (Int × Int))} {i : Nat} {L : List (Int × Int)} (h : LL[i]? = some L) : tot (LL.take (i + 1)) = tot (LL.take i) + L.length := by
  rw [← (take_pre h).1, tot_append, tot_one]
theorem tot_take_le (LL : List (List (Int × Int))) (i : Nat) : tot (LL.take i) ≤ tot LL := by have := tot_take_drop LL i; omega

set_option maxRecDepth 100000 in
set_option maxHeartbeats 2000000 in
theorem merge_any (w : World) (a : Option Addr) (n cap : Nat) (LL : List (List (Int × Int))) (h : Sll w a n cap LL) (hn : n ≤ 8796093022208) :
    Calls Try.prog 18 #[.func (.func 9) #[] #[], .slice a n cap] w fun e w' => ∃ ra rc, e = .returned (.tuple #[.slice ra (mergeL LL).length rc, .int .i64 (mergeE LL)]) ∧ Mk w w' (.slice ra (mergeL LL).length rc) (mergeL LL).length (cellsOf (mergeL LL)) := by
  obtain ⟨W, hW⟩ : ∃ W, (w.alloc (.cells #[.func (.func 9) #[] #[]] 29)).alloc (.cells #[.slice a n cap] 48) = W := ⟨_, rfl⟩
  have hb0 : Below w.heap.size w W := by
    rw [← hW]
    exact ((Below.refl _ _).alloc (Nat.le_refl _) _).alloc (by simp) _
  have hsz : W.heap.size = w.heap.size + 2 := by rw [← hW]; simp
  have i0 : IsCells W w.heap.size #[.func (.func 9) #[] #[]] := by rw [← hW]; exact (isCells_new w _ _).alloc _
  have i1 : IsCells W (w.heap.size + 1) #[.slice a n cap] := by
    have h := isCells_new (w.alloc (.cells #[.func (.func 9) #[] #[]] 29)) #[.slice a n cap] 48
    rw [hW] at h
    simpa using h
  have c0 : W.cell? ⟨w.heap.size, 0, none⟩ = some (.func (.func 9) #[] #[]) := i0.cell 0
  have c1 : W.cell? ⟨w.heap.size + 1, 0, none⟩ = some (.slice a n cap) := i1.cell 0
  have hmf : ∀ (fn : Fn) (first cap : Array Value) (w : World), (Instr.makeFunc fn first cap).run Try.prog w = .ok (.func fn first cap) w := fun _ _ _ _ => rfl
  have hn' : (n : Int) ≤ 8796093022208 := by omega
  have HW : Hid ((w.alloc (.cells #[.func (.func 9) #[] #[]] 29)).alloc (.cells #[.slice a n cap] 48) = W) := hW
  have HB : Hid (Below w.heap.size w W) := hb0
  have HS : Hid (Sll W a n cap LL) := h.below hb0
  have I0 : Hid (IsCells W w.heap.size #[.func (.func 9) #[] #[]]) := i0
  have I1 : Hid (IsCells W (w.heap.size + 1) #[.slice a n cap]) := i1
  have hq : ∀ w, (binOp .eql 29 (.func (.func 9) #[] #[]) .nilFunc).run Try.prog w = .ok (.bool false) w := fun _ => by kernel_rfl
  clear h hb0 hsz i0 i1 hW
  go_enter Try.func18, Try.ntmps18
  go_wp2
  rw [HW.out]
  clear HW
  go_loopw [13, 6] (fun vi vr wr => ∃ i r : Nat, i ≤ n ∧ vi = .int .i64 (i : Int) ∧ vr = .int .i64 (r : Int) ∧ wr = W ∧ r ≤ 8192 ∧ Hid (tot (LL.take i) + r = 8192)) (fun vi _ _ => n - (intOf vi).toNat)
  case atStart => exact ⟨0, 8192, by omega, rfl, rfl, rfl, by omega, by show _ = _; simp [tot_nil]⟩
  case round =>
    obtain ⟨i, r, hi, rfl, rfl, rfl, hr, hI⟩ := hrel
    have hr' : (r : Int) ≤ 8192 := by omega
    by_cases hlt : i < n
    · have hy := List.getElem?_eq_getElem (l := LL) (i := i) (by have := HS.out.len; omega)
      generalize LL[i]'(by have := HS.out.len; omega) = L at *
      obtain ⟨g, off, ra, rc, rfl, hg1, hg2, hg3⟩ := HS.out.ls i L hy
      have hi1 : (i : Int) < (n : Int) := by omega
      have hi2 : (0 : Int) ≤ (i : Int) := by omega
      have HT := tot_snoc hy
      have hle := tot_take_le LL (i + 1)
      have hlm : (L.length : Int) ≤ 9223372036854775807 := by have := hg3.le; have := hg3.capm; unfold maxLen at this; omega
      have Hy : Hid (LL[i]? = some L) := hy
      clear hy hg3
      generalize L.length = l at *
      by_cases hb : r < l
      · have hb' : (r : Int) < (l : Int) := by omega
        have e1 : Hid (mergeE LL = 2) := by show _ = _; unfold mergeE; rw [if_pos (by have := hI.out; omega)]
        have e2 : Hid (mergeL LL = []) := by show _ = _; unfold mergeL; rw [if_pos (by have := hI.out; omega)]
        clear HT hle
        go_wp2
        go_ret2
        rw [e1.out, e2.out]
        exact ⟨none, 0, rfl, ⟨rfl, .inl ⟨rfl, rfl⟩⟩, HB.out⟩
      · have hb' : (l : Int) ≤ (r : Int) := by omega
        have HI : Hid (tot (LL.take (i + 1)) + (r - l) = 8192) := by
          show _ = _
          have := hI.out
          omega
        have hrl : Hid ((r : Int) - (l : Int) = ((r - l : Nat) : Int)) := by show _ = _; omega
        have hw1 : (0 : Int) ≤ (l : Int) := by omega
        clear HT hle
        go_wp2
        go_roundw
        case rel => exact ⟨i + 1, r - l, by omega, by go_num, v_int (by rw [← hrl.out]), trivial, by omega, HI⟩
        case measure => simp [intOf]; omega
    · have ht : tot LL ≤ 8192 := by
        have := hI.out
        rw [List.take_of_length_le (by have := HS.out.len; omega)] at this
        omega
      have e1 : Hid (mergeE LL = madeE LL) := by show _ = _; unfold mergeE; rw [if_neg (by omega)]
      have e2 : Hid (mergeL LL = madeL LL (mgs LL)) := by show _ = _; unfold mergeL; rw [if_neg (by omega)]
      have hm := made_any wr 54 #[.pointer (some ⟨w.heap.size, 0, none⟩), .pointer (some ⟨w.heap.size + 1, 0, none⟩)] a n cap LL (mgs LL) HS.out (fun j L hL => by have := tot_mem hL; omega) hn (enters_of Try.func54 (by kernel_rfl) rfl)
        (fun _ => works54 wr w.heap.size (w.heap.size + 1) a n cap LL c0 c1 I0.out.lt I1.out.lt HS.out ht hn)
      clear ht hI
      generalize madeE LL = code at *
      generalize madeL LL (mgs LL) = R' at *
      go_wp2_with fail
      refine hm.mono ?_
      rintro e w1 ⟨ra, rc, rfl, m1⟩
      have M1 : Hid (Mk w w1 (.slice ra R'.length rc) R'.length (cellsOf R')) := Mk.mk (own_base m1.own (fun k hk => by have := (own_block_lt m1.own k hk).1; have := HB.out.size; omega)) (HB.out.trans (m1.bel.mono HB.out.size))
      clear hm m1
      go_wp2
      go_ret2
      rw [e1.out, e2.out]
      exact ⟨ra, rc, rfl, M1.out⟩

def bothL (A B : List (Int × Int)) : List (Int × Int) := if 8192 < A.length ∨ 8192 < B.length then [] else madeL [A, B] (com A B)
def bothE (A B : List (Int × Int)) : Int := if 8192 < A.length ∨ 8192 < B.length then 2 else madeE [A, B]

/-- A slice of two slices. -/
theorem sll_two {w : World} {x : Nat} {a b : Option Addr} {n m ca cb : Nat} {A B : List (Int × Int)} (hx : IsCells w x #[.slice a n ca, .slice b m cb]) (hA : Sl w a n ca A) (hB : Sl w b m cb B) : Sll w (some ⟨x, 0, none⟩) 2 2 [A, B] := by
  have e1 := hA.len
  have e2 := hB.len
  subst e1 e2
  refine ⟨rfl, fun i L hL => ?_, Nat.le_refl _, by unfold maxLen; omega, (by intro h; cases h)⟩
  match i with
  | 0 =>
    simp at hL
    subst hL
    exact ⟨x, 0, a, ca, rfl, hx.lt, hx.cell 0, hA⟩
  | 1 =>
    simp at hL
    subst hL
    exact ⟨x, 0, b, cb, rfl, hx.lt, hx.cell 1, hB⟩
  | i + 2 => simp at hL

set_option maxRecDepth 100000 in
set_option maxHeartbeats 2000000 in
theorem both_any (w : World) (a b : Option Addr) (n m ca cb : Nat) (A B : List (Int × Int)) (hA : Sl w a n ca A) (hB : Sl w b m cb B) :
    Calls Try.prog 20 #[.func (.func 9) #[] #[], .slice a n ca, .slice b m cb] w fun e w' => ∃ ra rc, e = .returned (.tuple #[.slice ra (bothL A B).length rc, .int .i64 (bothE A B)]) ∧ Mk w w' (.slice ra (bothL A B).length rc) (bothL A B).length (cellsOf (bothL A B)) := by
  obtain ⟨W, hW⟩ : ∃ W, ((w.alloc (.cells #[.func (.func 9) #[] #[]] 29)).alloc (.cells #[.slice a n ca] 31)).alloc (.cells #[.slice b m cb] 31) = W := ⟨_, rfl⟩
  have hb0 : Below w.heap.size w W := by
    rw [← hW]
    exact (((Below.refl _ _).alloc (Nat.le_refl _) _).alloc (by simp) _).alloc (by simp; omega) _
  have hsz : W.heap.size = w.heap.size + 3 := by rw [← hW]; simp
  have i0 : IsCells W w.heap.size #[.func (.func 9) #[] #[]] := by rw [← hW]; exact ((isCells_new w _ _).alloc _).alloc _
  have i1 : IsCells W (w.heap.size + 1) #[.slice a n ca] := by
    have h := (isCells_new (w.alloc (.cells #[.func (.func 9) #[] #[]] 29)) #[.slice a n ca] 31).alloc (.cells #[.slice b m cb] 31)
    rw [hW] at h
    simpa using h
  have i2 : IsCells W (w.heap.size + 2) #[.slice b m cb] := by
    have h := isCells_new ((w.alloc (.cells #[.func (.func 9) #[] #[]] 29)).alloc (.cells #[.slice a n ca] 31)) #[.slice b m cb] 31
    rw [hW] at h
    simpa using h
  obtain ⟨X, hX⟩ : ∃ X, W.alloc (.cells #[.slice a n ca, .slice b m cb] 31) = X := ⟨_, rfl⟩
  have hb1 : Below W.heap.size W X := by rw [← hX]; exact bel1 W _
  have c0 : W.cell? ⟨w.heap.size, 0, none⟩ = some (.func (.func 9) #[] #[]) := i0.cell 0
  have c1 : W.cell? ⟨w.heap.size + 1, 0, none⟩ = some (.slice a n ca) := i1.cell 0
  have c2 : W.cell? ⟨w.heap.size + 2, 0, none⟩ = some (.slice b m cb) := i2.cell 0
  have d0 : X.cell? ⟨w.heap.size, 0, none⟩ = some (.func (.func 9) #[] #[]) := (hb1.cell (p := ⟨w.heap.size, 0, none⟩) i0.lt).trans c0
  have d1 : X.cell? ⟨w.heap.size + 1, 0, none⟩ = some (.slice a n ca) := (hb1.cell (p := ⟨w.heap.size + 1, 0, none⟩) i1.lt).trans c1
  have d2 : X.cell? ⟨w.heap.size + 2, 0, none⟩ = some (.slice b m cb) := (hb1.cell (p := ⟨w.heap.size + 2, 0, none⟩) i2.lt).trans c2
  have hs1 := hb1.size
  have hmf : ∀ (fn : Fn) (first cap : Array Value) (w : World), (Instr.makeFunc fn first cap).run Try.prog w = .ok (.func fn first cap) w := fun _ _ _ _ => rfl
  have hn' : (n : Int) ≤ 9223372036854775807 := by have := hA.le; have := hA.capm; unfold maxLen at this; omega
  have hm' : (m : Int) ≤ 9223372036854775807 := by have := hB.le; have := hB.capm; unfold maxLen at this; omega
  have HBX : Hid (Below w.heap.size w X) := hb0.trans (hb1.mono hb0.size)
  have HB : Hid (Below w.heap.size w W) := hb0
  have HAX : Hid (Sl X a n ca A) := hA.below HBX.out
  have HBBX : Hid (Sl X b m cb B) := hB.below HBX.out
  have hq : ∀ w, (binOp .eql 29 (.func (.func 9) #[] #[]) .nilFunc).run Try.prog w = .ok (.bool false) w := fun _ => by kernel_rfl
  have hla := hA.len
  have hlb := hB.len
  have HX2 : Hid (Sll X (some ⟨W.heap.size, 0, none⟩) 2 2 [A, B]) := sll_two (by rw [← hX]; exact isCells_new W _ _) HAX.out HBBX.out
  have HW : Hid (((w.alloc (.cells #[.func (.func 9) #[] #[]] 29)).alloc (.cells #[.slice a n ca] 31)).alloc (.cells #[.slice b m cb] 31) = W) := hW
  have HX : Hid (W.alloc (.cells #[.slice a n ca, .slice b m cb] 31) = X) := hX
  have HL : Hid (w.heap.size + 2 < X.heap.size) := by show _ < _; omega
  have HZ : Hid (W.heap.size = w.heap.size + 1 + 1 + 1) := hsz
  clear hA hB hb0 hb1 hsz i0 i1 i2 hW hX hs1
  by_cases hn : 8192 < n
  · have e1 : Hid (bothE A B = 2) := by show _ = _; unfold bothE; rw [if_pos (by omega)]
    have e2 : Hid (bothL A B = []) := by show _ = _; unfold bothL; rw [if_pos (by omega)]
    have hn1 : (8192 : Int) < (n : Int) := by omega
    go_enter Try.func20, Try.ntmps20
    go_wp2
    rw [HW.out]
    go_ret2
    rw [e1.out, e2.out]
    exact ⟨none, 0, rfl, ⟨rfl, .inl ⟨rfl, rfl⟩⟩, HB.out⟩
  · by_cases hm : 8192 < m
    · have e1 : Hid (bothE A B = 2) := by show _ = _; unfold bothE; rw [if_pos (by omega)]
      have e2 : Hid (bothL A B = []) := by show _ = _; unfold bothL; rw [if_pos (by omega)]
      have hn1 : (n : Int) ≤ 8192 := by omega
      have hm1 : (8192 : Int) < (m : Int) := by omega
      go_enter Try.func20, Try.ntmps20
      go_wp2
      rw [HW.out]
      go_ret2
      rw [e1.out, e2.out]
      exact ⟨none, 0, rfl, ⟨rfl, .inl ⟨rfl, rfl⟩⟩, HB.out⟩
    · have e1 : Hid (bothE A B = madeE [A, B]) := by show _ = _; unfold bothE; rw [if_neg (by omega)]
      have e2 : Hid (bothL A B = madeL [A, B] (com A B)) := by show _ = _; unfold bothL; rw [if_neg (by omega)]
      have hn1 : (n : Int) ≤ 8192 := by omega
      have hm1 : (m : Int) ≤ 8192 := by omega
      have hmd := made_any X 57 #[.pointer (some ⟨w.heap.size, 0, none⟩), .pointer (some ⟨w.heap.size + 1, 0, none⟩), .pointer (some ⟨w.heap.size + 1 + 1, 0, none⟩)] (some ⟨W.heap.size, 0, none⟩) 2 2 [A, B] (com A B) HX2.out (fun j L hL => by
          have := List.mem_of_getElem? hL
          simp at this
          rcases this with rfl | rfl <;> omega) (by omega) (enters_of Try.func57 (by kernel_rfl) rfl)
        (fun _ => works57 X w.heap.size (w.heap.size + 1) (w.heap.size + 1 + 1) a b n m ca cb A B d0 d1 d2 (by have := HL.out; omega) (by have := HL.out; omega) HL.out HAX.out HBBX.out (by omega) (by omega))
      rw [HZ.out] at hmd
      generalize madeE [A, B] = code at *
      generalize madeL [A, B] (com A B) = R' at *
      clear hla hlb hm hn
      go_enter Try.func20, Try.ntmps20
      go_wp2_with fail
      rw [HW.out, HX.out]
      refine hmd.mono ?_
      rintro e w1 ⟨ra, rc, rfl, m1⟩
      have M1 : Hid (Mk w w1 (.slice ra R'.length rc) R'.length (cellsOf R')) := Mk.mk (own_base m1.own (fun k hk => by have := (own_block_lt m1.own k hk).1; have := HBX.out.size; omega)) (HBX.out.trans (m1.bel.mono HBX.out.size))
      clear hmd m1
      go_wp2
      go_ret2
      rw [e1.out, e2.out]
      exact ⟨ra, rc, rfl, M1.out⟩

set_option maxRecDepth 100000 in
set_option maxHeartbeats 1000000 in
theorem mergeN_any (w : World) : Calls Try.prog 22 #[.nilFunc, .slice none 0 0] w fun e w' => e = .returned (.tuple #[.slice none 0 0, .int .i64 1]) ∧ Below w.heap.size w w' := by
  have hq : ∀ w, (binOp .eql 61 .nilFunc .nilFunc).run Try.prog w = .ok (.bool true) w := fun _ => by kernel_rfl
  go_enter Try.func22, Try.ntmps22
  go_wp2
  go_ret2
  exact ⟨rfl, ((Below.refl _ _).alloc (Nat.le_refl _) _).alloc (by simp) _⟩

set_option maxRecDepth 100000 in
set_option maxHeartbeats 1000000 in
theorem bothN_any (w : World) : Calls Try.prog 23 #[.nilFunc, .slice none 0 0, .slice none 0 0] w fun e w' => e = .returned (.tuple #[.slice none 0 0, .int .i64 1]) ∧ Below w.heap.size w w' := by
  have hq : ∀ w, (binOp .eql 61 .nilFunc .nilFunc).run Try.prog w = .ok (.bool true) w := fun _ => by kernel_rfl
  go_enter Try.func23, Try.ntmps23
  go_wp2
  go_ret2
  exact ⟨rfl, (((Below.refl _ _).alloc (Nat.le_refl _) _).alloc (by simp) _).alloc (by simp; omega) _⟩

end Go.Proofs.Ytiggpbjgnododaa.T
