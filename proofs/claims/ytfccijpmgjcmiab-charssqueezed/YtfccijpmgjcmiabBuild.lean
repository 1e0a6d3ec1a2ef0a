/- The calls of a strings.Builder that a call has made, whose row of bytes lies behind a given block. -/
import Derived.Test.YtfccijpmgjcmiabRcut
import Derived.Lib.Builder
import Derived.Deep.Onto
namespace Go.Proofs.Ytfccijpmgjcmiab
open Go.RowKit
set_option linter.unusedVariables false

/-- A builder at block b that holds the bytes l; its row lies from block B on. -/
def Bld (b B : Nat) (l : List UInt8) (w : World) : Prop :=
  b < B ∧ ∃ p v, (p = .pointer none ∨ p = .pointer (some ⟨b, 0, none⟩)) ∧ w.heap[b]? = some (.cells #[p, v] 37 (0, 0)) ∧ w.ownsRow B 5 1 v l.length (Lib.byteCells l)

/-- What a builder's write leaves: all below b, and all between b and B. -/
def Keeps (b B : Nat) (w w' : World) : Prop := Below b w w' ∧ ∀ k, b < k → k < B → w'.heap[k]? = w.heap[k]?

theorem cell_at {w : World} {b : Nat} {p v : Value} {t : TypeId} (h : w.heap[b]? = some (.cells #[p, v] t (0, 0))) : w.cell? ⟨b, 0, none⟩ = some p ∧ w.cell? ⟨b, 1, none⟩ = some v ∧ w.shape? b = some (t, 2) ∧ w.frozen? ⟨b, 0, none⟩ = false ∧ w.frozen? ⟨b, 1, none⟩ = false := by
  refine ⟨?_, ?_, ?_, ?_, ?_⟩
  · rw [Lib.cell_of_heap h]; rfl
  · rw [Lib.cell_of_heap h]; rfl
  · simp [World.shape?, h]
  · exact Lib.frozen_of_heap h 0
  · exact Lib.frozen_of_heap h 1

set_option maxRecDepth 100000 in
set_option maxHeartbeats 1000000 in
theorem check_fresh (b : Nat) (w : World) (h0 : w.cell? ⟨b, 0, none⟩ = some (.pointer none)) (hsh : w.shape? b = some (37, 2)) (hfz : w.frozen? ⟨b, 0, none⟩ = false) :
    Calls Try.prog 23 #[.pointer (some ⟨b, 0, none⟩)] w fun e w' => e = .returned (.tuple #[]) ∧ w' = w.setCell ⟨b, 0, none⟩ (.pointer (some ⟨b, 0, none⟩)) := by
  obtain ⟨j, hj, hjs⟩ := Option.map_eq_some_iff.1 (show (Try.prog.info? 37).map (·.size) = some 2 by kernel_rfl)
  go_enter Try.func23, Try.ntmps23
  go_wp2
  rw [Lib.run_to_unsafe w ⟨b, 0, none⟩ Try.underlying34 Try.underlying55 hj (by rw [hjs]; decide) hsh (Nat.zero_lt_succ 1)]
  simp only [Result.andThen]
  rw [Oper.upon_value]
  go_wp2
  rw [run_callFunc_extern Try.func26 (by kernel_rfl) (by kernel_rfl) (by kernel_rfl) (e := Extern.AbiNoEscape.same) (by kernel_rfl)]
  rw [Lib.run_noEscape]
  simp only [Result.andThen]
  rw [Oper.upon_value]
  go_wp2
  rw [Lib.run_from_unsafe w ⟨b, 0, none⟩ Try.underlying55 Try.underlying34 hj hsh (by kernel_rfl)]
  simp only [Result.andThen]
  rw [Oper.upon_value]
  go_wp2
  go_end0
  exact ⟨rfl, rfl⟩

set_option maxRecDepth 100000 in
set_option maxHeartbeats 1000000 in
theorem check_used (b : Nat) (w : World) (h0 : w.cell? ⟨b, 0, none⟩ = some (.pointer (some ⟨b, 0, none⟩))) :
    Calls Try.prog 23 #[.pointer (some ⟨b, 0, none⟩)] w fun e w' => e = .returned (.tuple #[]) ∧ w' = w := by
  obtain ⟨j, hj, hjs⟩ := Option.map_eq_some_iff.1 (show (Try.prog.info? 37).map (·.size) = some 2 by kernel_rfl)
  go_enter Try.func23, Try.ntmps23
  go_wp2
  rw [Lib.run_neq_ptr_same w _ Try.underlying34 hj]
  go_wp2
  go_end0
  exact ⟨rfl, rfl⟩

theorem Keeps.refl (b B : Nat) (w : World) : Keeps b B w w := ⟨Below.refl _ _, fun _ _ _ => rfl⟩
theorem Keeps.trans {b B : Nat} {x y z : World} (h : Keeps b B x y) (k : Keeps b B y z) : Keeps b B x z :=
  ⟨h.1.trans k.1, fun i h1 h2 => (k.2 i h1 h2).trans (h.2 i h1 h2)⟩
theorem Keeps.setCell {b B : Nat} {x y : World} (h : Keeps b B x y) (j : Nat) (v : Value) : Keeps b B x (y.setCell ⟨b, j, none⟩ v) :=
  ⟨h.1.setCell (Nat.le_refl _) v, fun i h1 h2 => (Below.heap_setCell _ _ _ _ (by simp; omega)).trans (h.2 i h1 h2)⟩
theorem Keeps.alloc {b B : Nat} {x y : World} (h : Keeps b B x y) (hb : b < B) (hB : B ≤ y.heap.size) (o : Obj) : Keeps b B x (y.alloc o) :=
  ⟨h.1.alloc (by omega) o, fun i h1 h2 => (Below.heap_alloc _ _ _ (by omega)).trans (h.2 i h1 h2)⟩
theorem Keeps.grown {b B : Nat} {x y z : World} {row : Option Nat} (h : Keeps b B x y) (hb : b < B) (hB : B ≤ y.heap.size) (hg : y.grownBy z row) (hr : ∀ k, row = some k → B ≤ k) : Keeps b B x z :=
  ⟨h.1.grown hg (by omega) (fun k hk => by have := hr k hk; omega), fun i h1 h2 => (hg.block i (by omega) (fun e => by have := hr i e.symm; omega)).trans (h.2 i h1 h2)⟩

theorem grown_setCell (w : World) (b j : Nat) (v : Value) : w.grownBy (w.setCell ⟨b, j, none⟩ v) (some b) :=
  ⟨rfl, rfl, rfl, by simp [World.setCell], fun k _ hk => Below.heap_setCell _ _ _ _ (fun e => hk (by simp [e]))⟩

theorem owns_ne {w : World} {b B : Nat} {v : Value} {n : Nat} {xs : List Value} {e : TypeId} (h : w.ownsRow B e 1 v n xs) (hb : b < B) : v.ownBlock ≠ some b := by
  intro he
  have := (h.lt b he).1
  omega

theorem check_any (b B : Nat) (l : List UInt8) (w : World) (h : Bld b B l w) :
    Calls Try.prog 23 #[.pointer (some ⟨b, 0, none⟩)] w fun e w' => e = .returned (.tuple #[]) ∧ (∃ v, w'.heap[b]? = some (.cells #[.pointer (some ⟨b, 0, none⟩), v] 37 (0, 0)) ∧ w'.ownsRow B 5 1 v l.length (Lib.byteCells l)) ∧ Keeps b B w w' ∧ w'.heap.size = w.heap.size := by
  obtain ⟨hbB, p, v, hp, hh, hown⟩ := h
  obtain ⟨c0, c1, hsh, f0, f1⟩ := cell_at hh
  rcases hp with rfl | rfl
  · refine (check_fresh b w c0 hsh f0).mono ?_
    rintro e w' ⟨rfl, rfl⟩
    refine ⟨rfl, ⟨v, ?_, ?_⟩, (Keeps.refl _ _ _).setCell _ _, by simp [World.setCell]⟩
    · simp [World.setCell, Array.getElem?_modify, hh]
    · exact hown.kept (grown_setCell w b 0 _) (Or.inr (owns_ne hown hbB))
  · refine (check_used b w c0).mono ?_
    rintro e w' ⟨rfl, rfl⟩
    exact ⟨rfl, ⟨v, hh, hown⟩, Keeps.refl _ _ _, rfl⟩

set_option maxRecDepth 100000 in
set_option maxHeartbeats 1000000 in
theorem writeByte_any (b B : Nat) (l : List UInt8) (c : UInt8) (w : World) (h : Bld b B l w) (hB : B ≤ w.heap.size) (hl : l.length ≤ 1000000) :
    Calls Try.prog 14 #[.pointer (some ⟨b, 0, none⟩), .int .u8 (c.toNat : Int)] w fun e w' => e = .returned .nilIface ∧ Bld b B (l ++ [c]) w' ∧ Keeps b B w w' ∧ w.heap.size ≤ w'.heap.size := by
  have hck := check_any b B l w h
  have hbB := h.1
  clear h
  obtain ⟨i0, hi, hz0, hz1, hz2⟩ := info_parts info5
  go_enter Try.func14, Try.ntmps14
  go_wp2_with fail
  refine hck.mono ?_
  rintro e w1 ⟨rfl, ⟨v, hh, hown⟩, hk1, hs0⟩
  have hs1 : w.heap.size ≤ w1.heap.size := by omega
  clear hs0
  obtain ⟨c0, c1, hsh, f0, f1⟩ := cell_at hh
  have HK1 : Hid (Keeps b B w w1) := hk1
  have HH : Hid (w1.heap[b]? = some (.cells #[.pointer (some ⟨b, 0, none⟩), v] 37 (0, 0))) := hh
  clear hk1 hh hck f0 hsh
  go_wp2_with (at_builtin; refine wpList_append_own _ rfl _ _ 35 rfl B 5 i0 (.int .u8 0) 1 1 Try.underlying35 hi hz0 hz1 hz2 rfl (by decide) _ _ _ rfl (hown.alloc _) ⟨w1.heap.size, 0, none⟩ 1 1 [.int .u8 (c.toNat : Int)] rfl rfl ?c1 ?c2 ?c3 ?c4 ?c5 ?_)
  case c1 =>
    intro j u hj
    match j, hj with
    | 0, hj => simp at hj; subst hj; simp [Addr.add]
  case c2 => intro u hu; simp at hu; subst hu; rfl
  case c3 => unfold maxLen; omega
  case c4 => omega
  case c5 => simp; omega
  intro v' w2 hown' hgrow _
  have hlt : b < w1.heap.size := by omega
  have hh2 : w2.heap[b]? = some (.cells #[.pointer (some ⟨b, 0, none⟩), v] 37 (0, 0)) := by
    rw [hgrow.block b (by simp; omega) (fun e => owns_ne hown hbB e.symm), Below.heap_alloc w1 _ b hlt]
    exact HH.out
  obtain ⟨d0, d1, dsh, g0, g1⟩ := cell_at hh2
  have HK2 : Hid (Keeps b B w w2) := (HK1.out.alloc hbB (by omega) _).grown hbB (by simp; omega) hgrow (fun k hk => (hown.lt k hk).1)
  have HS2 : Hid (w.heap.size ≤ w2.heap.size) := by
    have := hgrow.size
    simp at this
    show w.heap.size ≤ w2.heap.size
    omega
  have HO2 : Hid (w2.ownsRow B 5 1 v' (l.length + 1) (Lib.byteCells l ++ [.int .u8 (c.toNat : Int)])) := hown'
  have HH2 : Hid (w2.heap[b]? = some (.cells #[.pointer (some ⟨b, 0, none⟩), v] 37 (0, 0))) := hh2
  obtain ⟨sa, scap, rfl⟩ := owns_slice hown'
  clear hown' hgrow hh2 hown HH HK1
  go_wp2
  go_ret
  refine ⟨rfl, ⟨hbB, _, .slice sa (l.length + 1) scap, Or.inr rfl, ?_, ?_⟩, HK2.out.setCell _ _, ?_⟩
  · simp [World.setCell, Array.getElem?_modify, HH2.out]
  · have h1 : Lib.byteCells (l ++ [c]) = Lib.byteCells l ++ [.int .u8 (c.toNat : Int)] := by rw [Lib.byteCells_append]; rfl
    rw [h1, show (l ++ [c]).length = l.length + 1 by simp]
    exact HO2.out.kept (grown_setCell w2 b 1 _) (Or.inr (owns_ne HO2.out hbB))
  · simpa [World.setCell] using HS2.out

set_option maxRecDepth 100000 in
set_option maxHeartbeats 1000000 in
theorem writeString_any (b B : Nat) (l : List UInt8) (s : ByteArray) (w : World) (h : Bld b B l w) (hB : B ≤ w.heap.size) (hl : l.length ≤ 1000000) (hs : s.size ≤ 1000000) :
    Calls Try.prog 20 #[.pointer (some ⟨b, 0, none⟩), .string s] w fun e w' => e = .returned (.tuple #[.int .i64 s.size, .nilIface]) ∧ Bld b B (l ++ s.data.toList) w' ∧ Keeps b B w w' ∧ w.heap.size ≤ w'.heap.size := by
  have hck := check_any b B l w h
  have hbB := h.1
  clear h
  obtain ⟨i0, hi, hz0, hz1, hz2⟩ := info_parts info5
  go_enter Try.func20, Try.ntmps20
  go_wp2_with fail
  refine hck.mono ?_
  rintro e w1 ⟨rfl, ⟨v, hh, hown⟩, hk1, hs0⟩
  have hs1 : w.heap.size ≤ w1.heap.size := by omega
  clear hs0
  obtain ⟨c0, c1, hsh, f0, f1⟩ := cell_at hh
  have HK1 : Hid (Keeps b B w w1) := hk1
  have HH : Hid (w1.heap[b]? = some (.cells #[.pointer (some ⟨b, 0, none⟩), v] 37 (0, 0))) := hh
  clear hk1 hh hck f0 hsh
  go_wp2_with (at_builtin; refine Lib.wpList_append_own_string _ rfl _ _ 35 9 rfl B 5 i0 Try.underlying35 Try.underlying9 hi hz0 hz1 hz2 _ _ _ rfl hown s rfl ?c3 ?c4 ?c5 ?_)
  case c3 => unfold maxLen; omega
  case c4 => omega
  case c5 => omega
  intro v' w2 hown' hgrow _
  have hlt : b < w1.heap.size := by omega
  have hh2 : w2.heap[b]? = some (.cells #[.pointer (some ⟨b, 0, none⟩), v] 37 (0, 0)) := by
    rw [hgrow.block b hlt (fun e => owns_ne hown hbB e.symm)]
    exact HH.out
  obtain ⟨d0, d1, dsh, g0, g1⟩ := cell_at hh2
  have HK2 : Hid (Keeps b B w w2) := HK1.out.grown hbB (by omega) hgrow (fun k hk => (hown.lt k hk).1)
  have HS2 : Hid (w.heap.size ≤ w2.heap.size) := by
    have := hgrow.size
    show w.heap.size ≤ w2.heap.size
    omega
  have HO2 : Hid (w2.ownsRow B 5 1 v' (l.length + s.size) (Lib.byteCells l ++ Lib.strCells s)) := hown'
  have HH2 : Hid (w2.heap[b]? = some (.cells #[.pointer (some ⟨b, 0, none⟩), v] 37 (0, 0))) := hh2
  obtain ⟨sa, scap, rfl⟩ := owns_slice hown'
  clear hown' hgrow hh2 hown HH HK1
  go_wp2
  go_ret2
  refine ⟨rfl, ⟨hbB, _, .slice sa (l.length + s.size) scap, Or.inr rfl, ?_, ?_⟩, HK2.out.setCell _ _, ?_⟩
  · simp [World.setCell, Array.getElem?_modify, HH2.out]
  · have h1 : Lib.byteCells (l ++ s.data.toList) = Lib.byteCells l ++ Lib.strCells s := by rw [Lib.byteCells_append, Lib.strCells_eq]
    rw [h1, show (l ++ s.data.toList).length = l.length + s.size by rw [List.length_append, size_list]]
    exact HO2.out.kept (grown_setCell w2 b 1 _) (Or.inr (owns_ne HO2.out hbB))
  · simpa [World.setCell] using HS2.out

theorem bld_is {b B : Nat} {l : List UInt8} {w : World} (h : Bld b B l w) : Lib.IsBuilder 37 5 b b (Lib.byteCells l) w := by
  obtain ⟨hbB, p, v, hp, hh, hown⟩ := h
  have h1 : w.ownsRow b 5 1 v (Lib.byteCells l).length (Lib.byteCells l) := by
    rw [Lib.byteCells_length]
    exact hown.mono (by omega)
  rcases hp with rfl | rfl
  · exact Or.inl ⟨Nat.le_refl _, v, hh, h1, owns_ne hown hbB⟩
  · exact Or.inr ⟨Nat.le_refl _, v, hh, h1, owns_ne hown hbB⟩

theorem blen_any (b B : Nat) (l : List UInt8) (w : World) (h : Bld b B l w) :
    Calls Try.prog 13 #[.pointer (some ⟨b, 0, none⟩)] w fun e w' => e = .returned (.int .i64 (l.length : Int)) ∧ w' = w := by
  have h1 := Try.Builder_Len b b _ w (bld_is h)
  rw [Lib.byteCells_length] at h1
  exact h1

theorem bstring_any (b B : Nat) (l : List UInt8) (w : World) (h : Bld b B l w) :
    Calls Try.prog 15 #[.pointer (some ⟨b, 0, none⟩)] w fun e w' => e = .returned (.string ⟨l.toArray⟩) ∧ Below b w w' := by
  have hlt : b < w.heap.size := by
    obtain ⟨_, p, v, _, hh, _⟩ := h
    exact (Array.getElem?_eq_some_iff.1 hh).1
  exact Try.Builder_String_any b b l w (bld_is h) (by omega)

end Go.Proofs.Ytfccijpmgjcmiab
