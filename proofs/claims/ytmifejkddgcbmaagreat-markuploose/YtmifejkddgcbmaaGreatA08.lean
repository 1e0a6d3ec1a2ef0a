/- The calls of a strings.Builder that a call has made, whose row of bytes lies behind a given block. -/
import Derived.Test.YtmifejkddgcbmaaGreatA06
import Derived.Test.YtmifejkddgcbmaaGreatA07
import Derived.Lib.Builder
import Derived.Deep.Onto
namespace Go.Proofs.YtmifejkddgcbmaaGreat
open Go.RowKit
set_option linter.unusedVariables false
set_option linter.unusedSimpArgs false

/-- A builder at block b that holds the bytes l; its row lies from block B on. -/
def Bld (b B : Nat) (l : List UInt8) (w : World) : Prop :=
  b < B ∧ ∃ p v, (p = .pointer none ∨ p = .pointer (some ⟨b, 0, none⟩)) ∧ w.heap[b]? = some (.cells #[p, v] 59 (0, 0)) ∧ w.ownsRow B 5 1 v l.length (Lib.byteCells l)

/-- What a builder's write leaves: all below b, and all between b and B. -/
def Keeps (b B : Nat) (w w' : World) : Prop := Below b w w' ∧ ∀ k, b < k → k < B → w'.heap[k]? = w.heap[k]?

theorem cell_at {w : World} {b : Nat} {p v : Value} {t : TypeId} (h : w.heap[b]? = some (.cells #[p, v] t (0, 0))) : w.cell? ⟨b, 0, none⟩ = some p ∧ w.cell? ⟨b, 1, none⟩ = some v ∧ w.shape? b = some (t, 2) ∧ w.frozen? ⟨b, 0, none⟩ = false ∧ w.frozen? ⟨b, 1, none⟩ = false := by
  refine ⟨?_, ?_, ?_, ?_, ?_⟩
  · rw [Lib.cell_of_heap h]; rfl
  · rw [Lib.cell_of_heap h]; rfl
  · simp [World.shape?, h]
  · exact Lib.frozen_of_heap h 0
  · exact Lib.frozen_of_heap h 1

set_option maxRecDepth 100000 in
set_option maxHeartbeats 1000000 in
theorem check_fresh (b : Nat) (w : World) (h0 : w.cell? ⟨b, 0, none⟩ = some (.pointer none)) (hsh : w.shape? b = some (59, 2)) (hfz : w.frozen? ⟨b, 0, none⟩ = false) :
    Calls Tryz.prog 68 #[.pointer (some ⟨b, 0, none⟩)] w fun e w' => e = .returned (.tuple #[]) ∧ w' = w.setCell ⟨b, 0, none⟩ (.pointer (some ⟨b, 0, none⟩)) := by
  obtain ⟨j, hj, hjs⟩ := Option.map_eq_some_iff.1 (show (Tryz.prog.info? 59).map (·.size) = some 2 by kernel_rfl)
  go_enter Tryz.func68, Tryz.ntmps68
  go_wp2
  rw [Lib.run_to_unsafe w ⟨b, 0, none⟩ Tryz.underlying57 Tryz.underlying122 hj (by rw [hjs]; decide) hsh (Nat.zero_lt_succ 1)]
  simp only [Result.andThen]
  rw [Oper.upon_value]
  go_wp2
  rw [run_callFunc_extern Tryz.func95 (by kernel_rfl) (by kernel_rfl) (by kernel_rfl) (e := Extern.AbiNoEscape.same) (by kernel_rfl)]
  rw [Lib.run_noEscape]
  simp only [Result.andThen]
  rw [Oper.upon_value]
  go_wp2
  rw [Lib.run_from_unsafe w ⟨b, 0, none⟩ Tryz.underlying122 Tryz.underlying57 hj hsh (by kernel_rfl)]
  simp only [Result.andThen]
  rw [Oper.upon_value]
  go_wp2
  go_end0
  exact ⟨rfl, rfl⟩

set_option maxRecDepth 100000 in
set_option maxHeartbeats 1000000 in
theorem check_used (b : Nat) (w : World) (h0 : w.cell? ⟨b, 0, none⟩ = some (.pointer (some ⟨b, 0, none⟩))) :
    Calls Tryz.prog 68 #[.pointer (some ⟨b, 0, none⟩)] w fun e w' => e = .returned (.tuple #[]) ∧ w' = w := by
  obtain ⟨j, hj, hjs⟩ := Option.map_eq_some_iff.1 (show (Tryz.prog.info? 59).map (·.size) = some 2 by kernel_rfl)
  go_enter Tryz.func68, Tryz.ntmps68
  go_wp2
  rw [Lib.run_neq_ptr_same w _ Tryz.underlying57 hj]
  go_wp2
  go_end0
  exact ⟨rfl, rfl⟩

theorem Keeps.refl (b B : Nat) (w : World) : Keeps b B w w := ⟨Below.refl _ _, fun _ _ _ => rfl⟩
theorem Keeps.trans {b B : Nat} {x y z : World} (h : Keeps b B x y) (k : Keeps b B y z) : Keeps b B x z :=
  ⟨h.1.trans k.1, fun i h1 h2 => (k.2 i h1 h2).trans (h.2 i h1 h2)⟩
theorem Keeps.setCell {b B : Nat} {x y : World} (h : Keeps b B x y) (j : Nat) (v : Value) : Keeps b B x (y.setCell ⟨b, j, none⟩ v) :=
  ⟨h.1.setCell (Nat.le_refl _) v, fun i h1 h2 => (Below.heap_setCell _ _ _ _ (by simp; omega)).trans (h.2 i h1 h2)⟩
theorem Keeps.alloc {b B : Nat} {x y : World} (h : Keeps b B x y) (hb : b < B) (hB : B ≤ y.heap.size) (o : Obj) : Keeps b B x (y.alloc o) :=
  ⟨h.1.alloc (by omega) o, fun i h1 h2 => (Below.heap_alloc _ _ _ (by omega)).trans (h.2 i h1 h2)⟩
theorem Keeps.grown {b B : Nat} {x y z : World} {row : Option Nat} (h : Keeps b B x y) (hb : b < B) (hB : B ≤ y.heap.size) (hg : y.grownBy z row) (hr : ∀ k, row = some k → B ≤ k) : Keeps b B x z :=
  ⟨h.1.grown hg (by omega) (fun k hk => by have := hr k hk; omega), fun i h1 h2 => (hg.block i (by omega) (fun e => by have := hr i e.symm; omega)).trans (h.2 i h1 h2)⟩

theorem grown_setCell (w : World) (b j : Nat) (v : Value) : w.grownBy (w.setCell ⟨b, j, none⟩ v) (some b) :=
  ⟨rfl, rfl, rfl, by simp [World.setCell], fun k _ hk => Below.heap_setCell _ _ _ _ (fun e => hk (by simp [e]))⟩

theorem owns_ne {w : World} {b B : Nat} {v : Value} {n : Nat} {xs : List Value} {e : TypeId} (h : w.ownsRow B e 1 v n xs) (hb : b < B) : v.ownBlock ≠ some b := by
  intro he
  have := (h.lt b he).1
  omega

theorem check_any (b B : Nat) (l : List UInt8) (w : World) (h : Bld b B l w) :
    Calls Tryz.prog 68 #[.pointer (some ⟨b, 0, none⟩)] w fun e w' => e = .returned (.tuple #[]) ∧ (∃ v, w'.heap[b]? = some (.cells #[.pointer (some ⟨b, 0, none⟩), v] 59 (0, 0)) ∧ w'.ownsRow B 5 1 v l.length (Lib.byteCells l)) ∧ Keeps b B w w' ∧ w'.heap.size = w.heap.size := by
  obtain ⟨hbB, p, v, hp, hh, hown⟩ := h
  obtain ⟨c0, c1, hsh, f0, f1⟩ := cell_at hh
  rcases hp with rfl | rfl
  · refine (check_fresh b w c0 hsh f0).mono ?_
    rintro e w' ⟨rfl, rfl⟩
    refine ⟨rfl, ⟨v, ?_, ?_⟩, (Keeps.refl _ _ _).setCell _ _, by simp [World.setCell]⟩
    · simp [World.setCell, Array.getElem?_modify, hh]
    · exact hown.kept (grown_setCell w b 0 _) (Or.inr (owns_ne hown hbB))
  · refine (check_used b w c0).mono ?_
    rintro e w' ⟨rfl, rfl⟩
    exact ⟨rfl, ⟨v, hh, hown⟩, Keeps.refl _ _ _, rfl⟩

set_option maxRecDepth 100000 in
set_option maxHeartbeats 1000000 in
theorem writeByte_any (b B : Nat) (l : List UInt8) (c : UInt8) (w : World) (h : Bld b B l w) (hB : B ≤ w.heap.size) (hl : l.length ≤ 1000000) :
    Calls Tryz.prog 48 #[.pointer (some ⟨b, 0, none⟩), .int .u8 (c.toNat : Int)] w fun e w' => e = .returned .nilIface ∧ Bld b B (l ++ [c]) w' ∧ Keeps b B w w' ∧ w.heap.size ≤ w'.heap.size := by
  have hck := check_any b B l w h
  have hbB := h.1
  clear h
  obtain ⟨i0, hi, hz0, hz1, hz2⟩ := info_parts info5
  go_enter Tryz.func48, Tryz.ntmps48
  go_wp2_with fail
  refine hck.mono ?_
  rintro e w1 ⟨rfl, ⟨v, hh, hown⟩, hk1, hs0⟩
  have hs1 : w.heap.size ≤ w1.heap.size := by omega
  clear hs0
  obtain ⟨c0, c1, hsh, f0, f1⟩ := cell_at hh
  have HK1 : Hid (Keeps b B w w1) := hk1
  have HH : Hid (w1.heap[b]? = some (.cells #[.pointer (some ⟨b, 0, none⟩), v] 59 (0, 0))) := hh
  clear hk1 hh hck f0 hsh
  go_wp2_with (at_builtin; refine wpList_append_own _ rfl _ _ 41 rfl B 5 i0 (.int .u8 0) 1 1 Tryz.underlying41 hi hz0 hz1 hz2 rfl (by decide) _ _ _ rfl (hown.alloc _) ⟨w1.heap.size, 0, none⟩ 1 1 [.int .u8 (c.toNat : Int)] rfl rfl ?c1 ?c2 ?c3 ?c4 ?c5 ?_)
  case c1 =>
    intro j u hj
    match j, hj with
    | 0, hj => simp at hj; subst hj; simp [Addr.add]
  case c2 => intro u hu; simp at hu; subst hu; rfl
  case c3 => unfold maxLen; omega
  case c4 => omega
  case c5 => simp; omega
  intro v' w2 hown' hgrow _
  have hlt : b < w1.heap.size := by omega
  have hh2 : w2.heap[b]? = some (.cells #[.pointer (some ⟨b, 0, none⟩), v] 59 (0, 0)) := by
    rw [hgrow.block b (by simp; omega) (fun e => owns_ne hown hbB e.symm), Below.heap_alloc w1 _ b hlt]
    exact HH.out
  obtain ⟨d0, d1, dsh, g0, g1⟩ := cell_at hh2
  have HK2 : Hid (Keeps b B w w2) := (HK1.out.alloc hbB (by omega) _).grown hbB (by simp; omega) hgrow (fun k hk => (hown.lt k hk).1)
  have HS2 : Hid (w.heap.size ≤ w2.heap.size) := by
    have := hgrow.size
    simp at this
    show w.heap.size ≤ w2.heap.size
    omega
  have HO2 : Hid (w2.ownsRow B 5 1 v' (l.length + 1) (Lib.byteCells l ++ [.int .u8 (c.toNat : Int)])) := hown'
  have HH2 : Hid (w2.heap[b]? = some (.cells #[.pointer (some ⟨b, 0, none⟩), v] 59 (0, 0))) := hh2
  obtain ⟨sa, scap, rfl⟩ := owns_slice hown'
  clear hown' hgrow hh2 hown HH HK1
  go_wp2
  go_ret
  refine ⟨rfl, ⟨hbB, _, .slice sa (l.length + 1) scap, Or.inr rfl, ?_, ?_⟩, HK2.out.setCell _ _, ?_⟩
  · simp [World.setCell, Array.getElem?_modify, HH2.out]
  · have h1 : Lib.byteCells (l ++ [c]) = Lib.byteCells l ++ [.int .u8 (c.toNat : Int)] := by rw [Lib.byteCells_append]; rfl
    rw [h1, show (l ++ [c]).length = l.length + 1 by simp]
    exact HO2.out.kept (grown_setCell w2 b 1 _) (Or.inr (owns_ne HO2.out hbB))
  · simpa [World.setCell] using HS2.out

set_option maxRecDepth 100000 in
set_option maxHeartbeats 1000000 in
theorem writeString_any (b B : Nat) (l : List UInt8) (s : ByteArray) (w : World) (h : Bld b B l w) (hB : B ≤ w.heap.size) (hl : l.length ≤ 1000000) (hs : s.size ≤ 1000000) :
    Calls Tryz.prog 47 #[.pointer (some ⟨b, 0, none⟩), .string s] w fun e w' => e = .returned (.tuple #[.int .i64 s.size, .nilIface]) ∧ Bld b B (l ++ s.data.toList) w' ∧ Keeps b B w w' ∧ w.heap.size ≤ w'.heap.size := by
  have hck := check_any b B l w h
  have hbB := h.1
  clear h
  obtain ⟨i0, hi, hz0, hz1, hz2⟩ := info_parts info5
  go_enter Tryz.func47, Tryz.ntmps47
  go_wp2_with fail
  refine hck.mono ?_
  rintro e w1 ⟨rfl, ⟨v, hh, hown⟩, hk1, hs0⟩
  have hs1 : w.heap.size ≤ w1.heap.size := by omega
  clear hs0
  obtain ⟨c0, c1, hsh, f0, f1⟩ := cell_at hh
  have HK1 : Hid (Keeps b B w w1) := hk1
  have HH : Hid (w1.heap[b]? = some (.cells #[.pointer (some ⟨b, 0, none⟩), v] 59 (0, 0))) := hh
  clear hk1 hh hck f0 hsh
  go_wp2_with (at_builtin; refine Lib.wpList_append_own_string _ rfl _ _ 41 9 rfl B 5 i0 Tryz.underlying41 Tryz.underlying9 hi hz0 hz1 hz2 _ _ _ rfl hown s rfl ?c3 ?c4 ?c5 ?_)
  case c3 => unfold maxLen; omega
  case c4 => omega
  case c5 => omega
  intro v' w2 hown' hgrow _
  have hlt : b < w1.heap.size := by omega
  have hh2 : w2.heap[b]? = some (.cells #[.pointer (some ⟨b, 0, none⟩), v] 59 (0, 0)) := by
    rw [hgrow.block b hlt (fun e => owns_ne hown hbB e.symm)]
    exact HH.out
  obtain ⟨d0, d1, dsh, g0, g1⟩ := cell_at hh2
  have HK2 : Hid (Keeps b B w w2) := HK1.out.grown hbB (by omega) hgrow (fun k hk => (hown.lt k hk).1)
  have HS2 : Hid (w.heap.size ≤ w2.heap.size) := by
    have := hgrow.size
    show w.heap.size ≤ w2.heap.size
    omega
  have HO2 : Hid (w2.ownsRow B 5 1 v' (l.length + s.size) (Lib.byteCells l ++ Lib.strCells s)) := hown'
  have HH2 : Hid (w2.heap[b]? = some (.cells #[.pointer (some ⟨b, 0, none⟩), v] 59 (0, 0))) := hh2
  obtain ⟨sa, scap, rfl⟩ := owns_slice hown'
  clear hown' hgrow hh2 hown HH HK1
  go_wp2
  go_ret2
  refine ⟨rfl, ⟨hbB, _, .slice sa (l.length + s.size) scap, Or.inr rfl, ?_, ?_⟩, HK2.out.setCell _ _, ?_⟩
  · simp [World.setCell, Array.getElem?_modify, HH2.out]
  · have h1 : Lib.byteCells (l ++ s.data.toList) = Lib.byteCells l ++ Lib.strCells s := by rw [Lib.byteCells_append, Lib.strCells_eq]
    rw [h1, show (l ++ s.data.toList).length = l.length + s.size by rw [List.length_append, size_list]]
    exact HO2.out.kept (grown_setCell w2 b 1 _) (Or.inr (owns_ne HO2.out hbB))
  · simpa [World.setCell] using HS2.out

theorem bld_is {b B : Nat} {l : List UInt8} {w : World} (h : Bld b B l w) : Lib.IsBuilder 59 5 b b (Lib.byteCells l) w := by
  obtain ⟨hbB, p, v, hp, hh, hown⟩ := h
  have h1 : w.ownsRow b 5 1 v (Lib.byteCells l).length (Lib.byteCells l) := by
    rw [Lib.byteCells_length]
    exact hown.mono (by omega)
  rcases hp with rfl | rfl
  · exact Or.inl ⟨Nat.le_refl _, v, hh, h1, owns_ne hown hbB⟩
  · exact Or.inr ⟨Nat.le_refl _, v, hh, h1, owns_ne hown hbB⟩

theorem blen_any (b B : Nat) (l : List UInt8) (w : World) (h : Bld b B l w) :
    Calls Tryz.prog 27 #[.pointer (some ⟨b, 0, none⟩)] w fun e w' => e = .returned (.int .i64 (l.length : Int)) ∧ w' = w := by
  have h1 := Tryz.Builder_Len b b _ w (bld_is h)
  rw [Lib.byteCells_length] at h1
  exact h1

theorem bstring_any (b B : Nat) (l : List UInt8) (w : World) (h : Bld b B l w) :
    Calls Tryz.prog 28 #[.pointer (some ⟨b, 0, none⟩)] w fun e w' => e = .returned (.string ⟨l.toArray⟩) ∧ Below b w w' := by
  have hlt : b < w.heap.size := by
    obtain ⟨_, p, v, _, hh, _⟩ := h
    exact (Array.getElem?_eq_some_iff.1 hh).1
  exact Tryz.Builder_String_any b b l w (bld_is h) (by omega)

end Go.Proofs.YtmifejkddgcbmaaGreat

/- A text that grows: the reader's grow and put. -/
namespace Go.Proofs.YtmifejkddgcbmaaGreat
open Go.RowKit
set_option linter.unusedVariables false
set_option linter.unusedSimpArgs false

/-- A text under way: a row of bytes of the call's own. -/
def Own (w : World) (B : Nat) (v : Value) (o : Bs) : Prop := w.ownsRow B 5 1 v o.length (Lib.byteCells o)

theorem Own.ne {w : World} {b B : Nat} {v : Value} {o : Bs} (h : Own w B v o) (hb : b < B) : v.ownBlock ≠ some b := by
  intro e
  have := (World.ownsRow.lt h b e).1
  omega
theorem Own.slice {w : World} {B : Nat} {v : Value} {o : Bs} (h : Own w B v o) : ∃ a cap, v = .slice a o.length cap := by
  rcases h.2 with ⟨rfl, h0⟩ | ⟨g, cap, cur, rfl, _⟩
  · exact ⟨_, _, by rw [h0]⟩
  · exact ⟨_, _, rfl⟩

set_option maxRecDepth 100000 in
theorem grow_any (w : World) (b B : Nat) (tx : ByteArray) (s : St) (h : Rd w b tx s) (hbB : b < B) (hB : B ≤ w.heap.size) (v : Value) (o : Bs) (ho : Own w B v o) (hl : o.length ≤ 16384) (x : ByteArray) (hx : x.size ≤ 16384) (a : Nat) :
    Calls Tryz.prog 105 #[.pointer (some ⟨b, 0, none⟩), v, .string x, .int .i64 (a : Int)] w (Post w b tx (fun k => k = b ∨ B ≤ k) (growP s o x.data.toList a) fun o' e w' => ∃ v', e = .returned v' ∧ Own w' B v' o') := by
  obtain ⟨sa, scap, rfl⟩ := ho.slice
  obtain ⟨i0, hi, hz0, hz1, hz2⟩ := info_parts info5
  have hfl := fun W => fail_any W (.pointer (some ⟨b, 0, none⟩)) a 2
  have hxl := size_list x
  have HR : Hid (Rd w b tx s) := h
  have hlt := h.facts.2.2.2.2.2.2.2
  have HO : Hid (Own w B (.slice sa o.length scap) o) := ho
  clear h
  by_cases hg : 16384 < o.length + x.size
  · have hn : growP s o x.data.toList a = .inr (a, 2) := by simp [growP, hxl, hg]
    rw [hn]
    have t1 : (16384 : Int) < (o.length : Int) + (x.size : Int) := by omega
    clear hn
    go_enter Tryz.func105, Tryz.ntmps105
    go_wp2_with fail
    refine (hfl _).mono ?_
    rintro e w1 ⟨rfl, rfl⟩
    exact ⟨rfl, rfl, Turn.refl _ _⟩
  · have hn : growP s o x.data.toList a = .inl ((o ++ x.data.toList), s) := by simp [growP, hxl, hg]
    rw [hn]
    have t1 : ¬ (16384 : Int) < (o.length : Int) + (x.size : Int) := by omega
    clear hn
    have hown : w.ownsRow B 5 1 (.slice sa o.length scap) o.length (Lib.byteCells o) := ho
    go_enter Tryz.func105, Tryz.ntmps105
    go_wp2_with (at_builtin; refine Lib.wpList_append_own_string _ rfl _ _ 41 9 rfl B 5 i0 Tryz.underlying41 Tryz.underlying9 hi hz0 hz1 hz2 _ _ _ rfl hown x rfl ?c3 ?c4 (by omega) ?_)
    case c3 => unfold maxLen; omega
    case c4 => omega
    intro v' w2 hown' hgrow _
    have HO2 : Hid (Own w2 B v' (o ++ x.data.toList)) := by
      show w2.ownsRow B 5 1 v' _ _
      rw [Lib.byteCells_append, ← Lib.strCells_eq, show (o ++ x.data.toList).length = o.length + x.size by rw [List.length_append, size_list]]
      exact hown'
    have hrow := ho.ne hbB
    have hrow0 := ho.ne (Nat.lt_of_le_of_lt (Nat.zero_le b) hbB)
    have HR2 : Hid (Rd w2 b tx s) := HR.out.of_block (hgrow.block b hlt (fun e => hrow e.symm)) (hgrow.block 0 (by omega) (fun e => hrow0 e.symm))
    have HT : Hid (Turn (fun k => k = b ∨ B ≤ k) w w2) := by
      refine ⟨hgrow.os, hgrow.tape, hgrow.output, hgrow.size, fun k hk hA => hgrow.block k hk ?_⟩
      intro e
      exact hA (.inr (World.ownsRow.lt hown k e.symm).1)
    obtain ⟨va, vcap, rfl⟩ := HO2.out.slice
    clear hown' hgrow hown ho
    go_wp2
    go_ret
    exact ⟨⟨_, rfl, HO2.out⟩, HR2.out, HT.out⟩

/-- What came behind: a call of the reader, seen from further ahead. -/
theorem Post.after {α : Type} {w w1 : World} {b : Nat} {tx : ByteArray} {A A' : Nat → Prop} {r : Rs α} {V : α → Ending → World → Prop} {e : Ending} {w' : World} (h : Post w1 b tx A r V e w') (ht : Turn A' w w1) (hA : ∀ k, k < w.heap.size → A k → A' k) : Post w b tx A' r V e w' := by
  have tt : Turn A w1 w' → Turn A' w w' := fun k => ⟨k.os.trans ht.os, k.tape.trans ht.tape, k.output.trans ht.output, Nat.le_trans ht.size k.size, fun i hi ha => (k.block i (Nat.lt_of_lt_of_le hi ht.size) (fun hx => ha (hA i hi hx))).trans (ht.block i hi ha)⟩
  cases r with
  | inl q_ => obtain ⟨a, s⟩ := q_; exact ⟨h.1, h.2.1, tt h.2.2⟩
  | inr q_ => obtain ⟨p, c⟩ := q_; exact ⟨h.1, tt h.2⟩

theorem Post.yes {α : Type} {w : World} {b : Nat} {tx : ByteArray} {A : Nat → Prop} {r : Rs α} {V : α → Ending → World → Prop} {e : Ending} {w' : World} {a : α} {s : St} (h : r = .inl (a, s)) (hv : V a e w') (hr : Rd w' b tx s) (ht : Turn A w w') : Post w b tx A r V e w' := by
  subst h; exact ⟨hv, hr, ht⟩
theorem Post.no {α : Type} {w : World} {b : Nat} {tx : ByteArray} {A : Nat → Prop} {r : Rs α} {V : α → Ending → World → Prop} {w' : World} {p : Nat} {c : Int} (h : r = .inr (p, c)) (ht : Turn A w w') : Post w b tx A r V (fault p c) w' := by
  subst h; exact ⟨rfl, ht⟩

theorem beginP_ok {s s1 : St} {a : Nat} {u : Unit} (h : beginP s a = .inl (u, s1)) : s1 = { s with nodes := s.nodes + 1 } ∧ s.nodes ≠ 4096 ∧ s.op ≠ 64 := by
  unfold beginP at h
  split at h
  · cases h
  · cases h; exact ⟨rfl, by omega, by omega⟩

set_option maxRecDepth 100000 in
theorem put_any (w : World) (b B : Nat) (tx : ByteArray) (s : St) (h : Rd w b tx s) (ok : Ok tx s) (hbB : b < B) (hB : B ≤ w.heap.size) (v : Value) (o : Bs) (ho : Own w B v o) (hl : o.length ≤ 16384) (x : ByteArray) (hx : x.size ≤ 16384) (a : Nat) :
    Calls Tryz.prog 79 #[.pointer (some ⟨b, 0, none⟩), v, .string x, .int .i64 (a : Int)] w (Post w b tx (fun k => k = b ∨ B ≤ k) (putP s o x.data.toList a) fun o' e w' => ∃ v', e = .returned v' ∧ Own w' B v' o') := by
  obtain ⟨sa, scap, rfl⟩ := ho.slice
  have HO : Hid (Own w B (.slice sa o.length scap) o) := ho
  have hbg := begin_any w b tx s h ok a
  have HR : Hid (Rd w b tx s) := h
  have hgr := fun (w' : World) (s' : St) (h1 : Rd w' b tx s') (h2 : B ≤ w'.heap.size) (h3 : Own w' B (.slice sa o.length scap) o) => grow_any w' b B tx s' h1 hbB h2 _ o h3 hl x hx a
  clear ho h
  by_cases h0 : o = []
  · have t1 : ((o.length : Int) == 0) = true := by simp [h0]
    cases hp : beginP s a with
    | inr q_ =>
      obtain ⟨p, c⟩ := q_
      rw [hp] at hbg
      have e1 : putP s o x.data.toList a = .inr (p, c) := by simp [putP, h0, hp]
      rw [e1]
      clear e1 hp h0
      go_enter Tryz.func79, Tryz.ntmps79
      go_wp2_with fail
      refine hbg.mono ?_
      rintro e w1 ⟨rfl, ht⟩
      exact ⟨rfl, rfl, ht.mono (fun k _ e => .inl e)⟩
    | inl q_ =>
      obtain ⟨u, s1⟩ := q_
      rw [hp] at hbg
      have e1 : putP s o x.data.toList a = growP s1 o x.data.toList a := by simp [putP, h0, hp]
      rw [e1]
      obtain ⟨es, -, -⟩ := beginP_ok hp
      clear e1 hp h0
      go_enter Tryz.func79, Tryz.ntmps79
      go_wp2_with fail
      refine hbg.mono ?_
      rintro e w1 ⟨⟨rfl, hw1⟩, hr1, ht⟩
      have hsz : B ≤ w1.heap.size := Nat.le_trans hB ht.size
      have ho1 : Own w1 B (.slice sa o.length scap) o := World.ownsRow.kept HO.out (by rw [hw1]; exact grown_setCell w b 2 _) (Or.inr (HO.out.ne hbB))
      have hg1 := hgr w1 s1 hr1 hsz ho1
      have HT : Hid (Turn (fun k => k = b ∨ B ≤ k) w w1) := ht.mono (fun k _ e => .inl e)
      clear hgr hbg hw1 hr1 ht ho1 es
      go_wp2_with fail
      refine hg1.mono ?_
      intro e w2 hpost
      have hpost := hpost.after HT.out (fun k _ hk => hk)
      cases hgp : growP s1 o x.data.toList a with
      | inr q_ =>
        obtain ⟨p, c⟩ := q_
        rw [hgp] at hpost
        obtain ⟨rfl, ht⟩ := hpost
        exact ⟨rfl, Post.no hgp ht⟩
      | inl q_ =>
        obtain ⟨o', s'⟩ := q_
        rw [hgp] at hpost
        obtain ⟨⟨v', rfl, ho'⟩, hr', ht⟩ := hpost
        obtain ⟨va, vcap, rfl⟩ := ho'.slice
        clear hg1
        go_wp2
        go_ret
        exact Post.yes hgp ⟨_, rfl, ho'⟩ hr' ht
  · have t1 : ((o.length : Int) == 0) = false := by
      have : o.length ≠ 0 := fun e => h0 (List.length_eq_zero_iff.1 e)
      simp; omega
    have e1 : putP s o x.data.toList a = growP s o x.data.toList a := by simp [putP, h0]
    rw [e1]
    have hg1 := hgr w s HR.out hB HO.out
    clear e1 h0 hgr hbg
    go_enter Tryz.func79, Tryz.ntmps79
    go_wp2_with fail
    refine hg1.mono ?_
    intro e w2 hpost
    cases hgp : growP s o x.data.toList a with
    | inr q_ =>
      obtain ⟨p, c⟩ := q_
      rw [hgp] at hpost
      obtain ⟨rfl, ht⟩ := hpost
      exact ⟨rfl, Post.no hgp ht⟩
    | inl q_ =>
      obtain ⟨o', s'⟩ := q_
      rw [hgp] at hpost
      obtain ⟨⟨v', rfl, ho'⟩, hr', ht⟩ := hpost
      obtain ⟨va, vcap, rfl⟩ := ho'.slice
      clear hg1
      go_wp2
      go_ret
      exact Post.yes hgp ⟨_, rfl, ho'⟩ hr' ht

end Go.Proofs.YtmifejkddgcbmaaGreat
