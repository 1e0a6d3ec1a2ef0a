/- made at items: what is made of lists that rise. -/
import Derived.Test.YtiggpbjgnododaaMm
import Derived.Test.YtiggpbjgnododaaMo
namespace Go.Proofs.Ytiggpbjgnododaa.T
open Go.RowKit Go.Shelf
set_option linter.unusedVariables false
attribute [local go_sem] Bel.cell

def allRise (LL : List (List (Int × Int))) : Bool := LL.all risesB
def madeL (LL : List (List (Int × Int))) (R : List (Int × Int)) : List (Int × Int) := if allRise LL then R else []
def madeE (LL : List (List (Int × Int))) : Int := if allRise LL then 0 else 71

theorem allRise_false {LL : List (List (Int × Int))} {i : Nat} {L : List (Int × Int)} (h : LL[i]? = some L) (hr : risesB L = false) : allRise LL = false := by
  unfold allRise
  rw [List.all_eq_false]
  exact ⟨L, List.mem_of_getElem? h, by simp [hr]⟩
theorem allRise_true {LL : List (List (Int × Int))} (h : ∀ (i : Nat) L, LL[i]? = some L → risesB L = true) : allRise LL = true := by
  unfold allRise
  rw [List.all_eq_true]
  intro L hL
  obtain ⟨i, hi⟩ := List.mem_iff_getElem?.1 hL
  exact h i L hi

/-- What a closure that makes a list of items leaves. -/
def Works (w : World) (f : Nat) (caps : Array Value) (R : List (Int × Int)) : Prop :=
  ∀ W, Below w.heap.size w W → Calls Try.prog f caps W fun e w' => ∃ ra rc, e = .returned (.slice ra R.length rc) ∧ Mk W w' (.slice ra R.length rc) R.length (cellsOf R)

/-- What is in the two result cells behind it. -/
structure Made (w w' : World) (yb ob : Nat) (code : Int) (R : List (Int × Int)) : Prop where
  out : ∃ ra rc, w'.cell? ⟨ob, 0, none⟩ = some (.slice ra R.length rc) ∧ w'.ownsRow w.heap.size 28 2 (.slice ra R.length rc) R.length (cellsOf R)
  why : w'.cell? ⟨yb, 0, none⟩ = some (.int .i64 code)
  fy : w'.frozen? ⟨yb, 0, none⟩ = false
  fo : w'.frozen? ⟨ob, 0, none⟩ = false
  turn : Turn (fun b => b = yb ∨ b = ob) w w'

set_option maxRecDepth 100000 in
set_option maxHeartbeats 2000000 in
theorem made1_any (w : World) (sb lb yb kb ob f : Nat) (caps : Array Value) (a : Option Addr) (n cap : Nat) (LL : List (List (Int × Int))) (R : List (Int × Int))
    (cs : w.cell? ⟨sb, 0, none⟩ = some (.slice a n cap)) (cl : w.cell? ⟨lb, 0, none⟩ = some (.func (.func 9) #[] #[])) (iy : IsCells w yb #[.int .i64 0]) (ck : w.cell? ⟨kb, 0, none⟩ = some (.func (.func f) #[] caps)) (io : IsCells w ob #[.slice none 0 0])
    (h1 : sb < w.heap.size) (h2 : lb < w.heap.size) (h3 : kb < w.heap.size) (hne : yb ≠ ob) (h : Sll w a n cap LL) (hl : ∀ (i : Nat) L, LL[i]? = some L → L.length ≤ 8192) (hn : n ≤ 8796093022208) (eg : ∀ args w, (callFunc f args).run Try.prog w = .ok (.enter f args) w) (hf : allRise LL = true → Works w f caps R) :
    Calls Try.prog 82 #[.pointer (some ⟨sb, 0, none⟩), .pointer (some ⟨lb, 0, none⟩), .pointer (some ⟨yb, 0, none⟩), .pointer (some ⟨kb, 0, none⟩), .pointer (some ⟨ob, 0, none⟩)] w fun e w' =>
      (∃ v, e = .returned v) ∧ Made w w' yb ob (madeE LL) (madeL LL R) := by
  have hn' : (n : Int) ≤ 8796093022208 := by omega
  have HS : Hid (Sll w a n cap LL) := h
  have Hl : Hid (∀ (i : Nat) L, LL[i]? = some L → L.length ≤ 8192) := hl
  have Hf : Hid (allRise LL = true → Works w f caps R) := hf
  have Iy : Hid (IsCells w yb #[.int .i64 0]) := iy
  have Io : Hid (IsCells w ob #[.slice none 0 0]) := io
  have Ck : Hid (w.cell? ⟨kb, 0, none⟩ = some (.func (.func f) #[] caps)) := ck
  have Cl : Hid (w.cell? ⟨lb, 0, none⟩ = some (.func (.func 9) #[] #[])) := cl
  clear h hl hf iy io ck cl
  go_enter Try.func82, Try.ntmps82
  go_wp2
  clear cs
  go_loopw [9] (fun vi wr => ∃ i : Nat, i ≤ n ∧ vi = .int .i64 (i : Int) ∧ Hid (Below w.heap.size w wr) ∧ Hid (∀ (j : Nat) L, j < i → LL[j]? = some L → risesB L = true)) (fun vi _ => n - (intOf vi).toNat)
  case atStart => exact ⟨0, by omega, rfl, Below.refl _ _, fun j L hj => by omega⟩
  case round =>
    obtain ⟨i, hi, rfl, hB, hI⟩ := hrel
    have c1 : wr.cell? ⟨lb, 0, none⟩ = some (.func (.func 9) #[] #[]) := (hB.out.cell (p := ⟨lb, 0, none⟩) h2).trans Cl.out
    have c2 : wr.cell? ⟨kb, 0, none⟩ = some (.func (.func f) #[] caps) := (hB.out.cell (p := ⟨kb, 0, none⟩) h3).trans Ck.out
    have iy1 := Iy.out.of_block (hB.out.block _ Iy.out.lt)
    have io1 := Io.out.of_block (hB.out.block _ Io.out.lt)
    by_cases hlt : i < n
    · have hy := List.getElem?_eq_getElem (l := LL) (i := i) (by have := HS.out.len; omega)
      generalize LL[i]'(by have := HS.out.len; omega) = L at *
      obtain ⟨g, off, ra, rc, rfl, hg1, hg2', hg3⟩ := HS.out.ls i L hy
      have hg2 : wr.cell? ⟨g, off + i, none⟩ = some (.slice ra L.length rc) := (hB.out.cell (p := ⟨g, _, none⟩) hg1).trans hg2'
      have hr := rises_any wr ra L.length rc L (hg3.below hB.out) (Hl.out i L hy)
      have hi1 : (i : Int) < (n : Int) := by omega
      have hi2 : (0 : Int) ≤ (i : Int) := by omega
      have HY : Hid (LL[i]? = some L) := hy
      obtain ⟨t, ht⟩ : ∃ b, Hid (risesB L = b) := ⟨_, rfl⟩
      rw [ht.out] at hr
      have cy : wr.cell? ⟨yb, 0, none⟩ = some (.int .i64 0) := iy1.cell 0
      have fy : wr.frozen? ⟨yb, 0, none⟩ = false := iy1.frozen 0
      clear hy hg2' hg3 iy1 io1
      go_wp2_with fail
      refine hr.mono ?_
      rintro e w1 ⟨rfl, hb1⟩
      have HB1 : Hid (Below w.heap.size w w1) := hB.out.trans (hb1.mono hB.out.size)
      have hyl : yb < w.heap.size := Iy.out.lt
      clear hr hb1 c1 c2 cy fy hg2
      cases t with
      | false =>
        have iy2 := Iy.out.of_block (HB1.out.block _ Iy.out.lt)
        have io2 := Io.out.of_block (HB1.out.block _ Io.out.lt)
        have cy : w1.cell? ⟨yb, 0, none⟩ = some (.int .i64 0) := iy2.cell 0
        have fy : w1.frozen? ⟨yb, 0, none⟩ = false := iy2.frozen 0
        have HA : Hid (allRise LL = false) := allRise_false HY.out ht.out
        have HIy : Hid (IsCells w1 yb #[.int .i64 0]) := iy2
        have HIo : Hid (IsCells w1 ob #[.slice none 0 0]) := io2
        clear iy2 io2
        go_wp2
        refine bodyPost_ret (results_none rfl _ _ _) rfl ?_
        refine ⟨⟨_, rfl⟩, ?_⟩
        have e1 : madeE LL = 71 := by simp [madeE, HA.out]
        have e2 : madeL LL R = [] := by simp [madeL, HA.out]
        rw [e1, e2]
        have k1 := HIy.out.set 0 (.int .i64 71)
        have k2 := HIo.out.other (a := ⟨yb, 0, none⟩) (fun e => hne e.symm) (.int .i64 71)
        exact ⟨⟨none, 0, k2.cell 0, ⟨rfl, .inl ⟨rfl, rfl⟩⟩⟩, k1.cell 0, k1.frozen 0, k2.frozen 0, ((Turn.refl _ w).then HB1.out (Nat.le_refl _)).setCell (p := ⟨yb, 0, none⟩) (.inl rfl) _⟩
      | true =>
        go_wp2
        go_roundw
        case rel => exact ⟨i + 1, by omega, by go_num, HB1, fun j L' hj hL' => by
          by_cases e : j = i
          · subst e
            rw [HY.out] at hL'
            cases hL'
            exact ht.out
          · exact hI.out j L' (by omega) hL'⟩
        case measure => simp [intOf]; omega
    · have HA : Hid (allRise LL = true) := allRise_true (fun j L hL => hI.out j L (by have := (List.getElem?_eq_some_iff.1 hL).1; have := HS.out.len; omega) hL)
      have hw := Hf.out HA.out wr hB.out
      have HIy : Hid (IsCells wr yb #[.int .i64 0]) := iy1
      have HIo : Hid (IsCells wr ob #[.slice none 0 0]) := io1
      clear iy1 io1
      go_wp2_with fail
      refine hw.mono ?_
      rintro e w1 ⟨ra, rc, rfl, m1⟩
      have M1 : Hid (Mk wr w1 (.slice ra R.length rc) R.length (cellsOf R)) := m1
      have HJy : Hid (IsCells w1 yb #[.int .i64 0]) := HIy.out.of_block (m1.bel.block _ HIy.out.lt)
      have HJo : Hid (IsCells w1 ob #[.slice none 0 0]) := HIo.out.of_block (m1.bel.block _ HIo.out.lt)
      have co : w1.cell? ⟨ob, 0, none⟩ = some (.slice none 0 0) := HJo.out.cell 0
      have fo : w1.frozen? ⟨ob, 0, none⟩ = false := HJo.out.frozen 0
      clear hw m1 c1 c2
      go_wp2
      go_end0
      refine ⟨⟨_, rfl⟩, ?_⟩
      have e1 : madeE LL = 0 := by simp [madeE, HA.out]
      have e2 : madeL LL R = R := by simp [madeL, HA.out]
      rw [e1, e2]
      have k1 := HJy.out.other (a := ⟨ob, 0, none⟩) hne (.slice ra R.length rc)
      have k2 := HJo.out.set 0 (.slice ra R.length rc)
      have hs1 := hB.out.size
      have hob := Io.out.lt
      refine ⟨⟨ra, rc, k2.cell 0, own_base (own_of_block M1.out.own (fun j hj => Below.heap_setCell _ _ _ _ (by
        have := (own_block_lt M1.out.own j hj).1
        show j ≠ ob
        omega))) (fun j hj => by have := (own_block_lt M1.out.own j hj).1; omega)⟩, k1.cell 0, k1.frozen 0, k2.frozen 0, ((Turn.refl _ w).then (hB.out.trans (M1.out.bel.mono hs1)) (Nat.le_refl _)).setCell (p := ⟨ob, 0, none⟩) (.inr rfl) _⟩

theorem Mk.setCell {W X : World} {v : Value} {n : Nat} {xs : List Value} (h : Mk W X v n xs) {p : Addr} (hp : W.heap.size ≤ p.block) (hne : ∀ k, v.ownBlock = some k → k ≠ p.block) (u : Value) : Mk W (X.setCell p u) v n xs :=
  ⟨own_of_block h.own (fun k hk => Below.heap_setCell _ _ _ _ (hne k hk)), h.bel.setCell hp _⟩

set_option maxRecDepth 100000 in
set_option maxHeartbeats 2000000 in
theorem made_any (w : World) (f : Nat) (caps : Array Value) (a : Option Addr) (n cap : Nat) (LL : List (List (Int × Int))) (R : List (Int × Int))
    (h : Sll w a n cap LL) (hl : ∀ (i : Nat) L, LL[i]? = some L → L.length ≤ 8192) (hn : n ≤ 8796093022208) (eg : ∀ args w, (callFunc f args).run Try.prog w = .ok (.enter f args) w) (hf : allRise LL = true → Works w f caps R) :
    Calls Try.prog 53 #[.func (.func 9) #[] #[], .slice a n cap, .func (.func f) #[] caps] w fun e w' => ∃ ra rc, e = .returned (.tuple #[.slice ra (madeL LL R).length rc, .int .i64 (madeE LL)]) ∧ Mk w w' (.slice ra (madeL LL R).length rc) (madeL LL R).length (cellsOf (madeL LL R)) := by
  obtain ⟨W, hW⟩ : ∃ W, (((((w.alloc (.cells #[.func (.func 9) #[] #[]] 29)).alloc (.cells #[.slice a n cap] 48)).alloc (.cells #[.func (.func f) #[] caps] 95)).alloc (.cells #[.slice none 0 0] 31)).alloc (.cells #[.int .i64 0] 24)) = W := ⟨_, rfl⟩
  have hb0 : Below w.heap.size w W := by
    rw [← hW]
    exact (((((Below.refl _ _).alloc (Nat.le_refl _) _).alloc (by simp) _).alloc (by simp; omega) _).alloc (by simp; omega) _).alloc (by simp; omega) _
  have hsz : W.heap.size = w.heap.size + 5 := by rw [← hW]; simp
  have i0 : IsCells W w.heap.size #[.func (.func 9) #[] #[]] := by rw [← hW]; exact ((((isCells_new w _ _).alloc _).alloc _).alloc _).alloc _
  have i1 : IsCells W (w.heap.size + 1) #[.slice a n cap] := by
    have h := (((isCells_new (w.alloc (.cells #[.func (.func 9) #[] #[]] 29)) #[.slice a n cap] 48).alloc (.cells #[.func (.func f) #[] caps] 95)).alloc (.cells #[.slice none 0 0] 31)).alloc (.cells #[.int .i64 0] 24)
    rw [hW] at h
    simpa using h
  have i2 : IsCells W (w.heap.size + 2) #[.func (.func f) #[] caps] := by
    have h := ((isCells_new ((w.alloc (.cells #[.func (.func 9) #[] #[]] 29)).alloc (.cells #[.slice a n cap] 48)) #[.func (.func f) #[] caps] 95).alloc (.cells #[.slice none 0 0] 31)).alloc (.cells #[.int .i64 0] 24)
    rw [hW] at h
    simpa using h
  have i3 : IsCells W (w.heap.size + 3) #[.slice none 0 0] := by
    have h := (isCells_new (((w.alloc (.cells #[.func (.func 9) #[] #[]] 29)).alloc (.cells #[.slice a n cap] 48)).alloc (.cells #[.func (.func f) #[] caps] 95)) #[.slice none 0 0] 31).alloc (.cells #[.int .i64 0] 24)
    rw [hW] at h
    simpa using h
  have i4 : IsCells W (w.heap.size + 4) #[.int .i64 0] := by
    have h := isCells_new ((((w.alloc (.cells #[.func (.func 9) #[] #[]] 29)).alloc (.cells #[.slice a n cap] 48)).alloc (.cells #[.func (.func f) #[] caps] 95)).alloc (.cells #[.slice none 0 0] 31)) #[.int .i64 0] 24
    rw [hW] at h
    simpa using h
  have h1 := made1_any W (w.heap.size + 1) w.heap.size (w.heap.size + 4) (w.heap.size + 2) (w.heap.size + 3) f caps a n cap LL R (i1.cell 0) (i0.cell 0) i4 (i2.cell 0) i3
    (by omega) (by omega) (by omega) (by omega) (h.below hb0) hl hn eg (fun hr W' hW' => hf hr W' (hb0.trans (hW'.mono hb0.size)))
  have h2 := asked_any 82 _ W _ (enters_of Try.func82 (by kernel_rfl) rfl) h1
  have hmf : ∀ (fn : Fn) (first cap : Array Value) (w : World), (Instr.makeFunc fn first cap).run Try.prog w = .ok (.func fn first cap) w := fun _ _ _ _ => rfl
  have HB : Hid (Below w.heap.size w W) := hb0
  have HS : Hid (W.heap.size = w.heap.size + 5) := hsz
  have H2 : Hid (Calls Try.prog 81 _ W _) := h2
  clear h1 h2 i0 i1 i2 i3 i4 hb0 hsz h hl hf
  have HW : Hid ((((((w.alloc (.cells #[.func (.func 9) #[] #[]] 29)).alloc (.cells #[.slice a n cap] 48)).alloc (.cells #[.func (.func f) #[] caps] 95)).alloc (.cells #[.slice none 0 0] 31)).alloc (.cells #[.int .i64 0] 24)) = W) := hW
  clear hW
  generalize madeE LL = code at *
  generalize madeL LL R = R' at *
  go_enter Try.func53, Try.ntmps53
  go_wp2_with fail
  rw [HW.out]
  refine H2.out.mono ?_
  rintro e w1 ⟨rfl, ⟨ra, rc, c1, own⟩, c2, f2, f1, ht⟩
  have HT : Hid (Turn (fun b => b = w.heap.size + 4 ∨ b = w.heap.size + 3) W w1) := ht
  have ne : ¬ (w.heap.size + 4 = w.heap.size + 3) := by omega
  have HB1 : Hid (Mk w w1 (.slice ra R'.length rc) R'.length (cellsOf R')) := Mk.mk (own_base own (fun k hk => by have := (own_block_lt own k hk).1; have := HB.out.size; omega)) (HB.out.trans (HT.out.below (by have := HS.out; omega) (fun k hk => by omega)))
  have HN : Hid (∀ k, (Value.slice ra R'.length rc).ownBlock = some k → w.heap.size + 5 ≤ k) := fun k hk => by have := (own_block_lt own k hk).1; have := HS.out; omega
  clear ht H2 HW HB HT own
  go_wp2
  go_region
  all_goals
    go_wp2
    refine bodyPost_ret (v := .tuple #[.slice ra R'.length rc, .int .i64 code]) (by simp [results, Try.results53, go_sem, c1, c2]) rfl ⟨ra, rc, rfl, ?_⟩
    exact ((HB1.out.setCell (p := ⟨w.heap.size + 3, 0, none⟩) (by simp) (fun k hk => by have := HN.out k hk; show k ≠ w.heap.size + 3; omega) _).setCell (p := ⟨w.heap.size + 4, 0, none⟩) (by simp) (fun k hk => by have := HN.out k hk; show k ≠ w.heap.size + 4; omega) _).drew

end Go.Proofs.Ytiggpbjgnododaa.T
