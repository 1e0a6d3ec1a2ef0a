/- The calls of a strings.Builder that a call has made, whose row of bytes lies behind a given block. -/
import Derived.Test.YtmifejkddgcbmabGreatA06
import Derived.Test.YtmifejkddgcbmabGreatA04
import Derived.Lib.Builder
import Derived.Deep.Onto
import Derived.Test.YtmifejkddgcbmabGreatA05
namespace Go.Proofs.YtmifejkddgcbmabGreat
open Go.RowKit
set_option linter.unusedVariables false
set_option linter.unusedSimpArgs false

/-- A builder at block b that holds the bytes l; its row lies from block B on. -/
def Bld (b B : Nat) (l : List UInt8) (w : World) : Prop :=
  b < B ∧ ∃ p v, (p = .pointer none ∨ p = .pointer (some ⟨b, 0, none⟩)) ∧ w.heap[b]? = some (.cells #[p, v] 56 (0, 0)) ∧ w.ownsRow B 5 1 v l.length (Lib.byteCells l)

/-- What a builder's write leaves: all below b, and all between b and B. -/
def Keeps (b B : Nat) (w w' : World) : Prop := Below b w w' ∧ ∀ k, b < k → k < B → w'.heap[k]? = w.heap[k]?

theorem cell_at {w : World} {b : Nat} {p v : Value} {t : TypeId} (h : w.heap[b]? = some (.cells #[p, v] t (0, 0))) : w.cell? ⟨b, 0, none⟩ = some p ∧ w.cell? ⟨b, 1, none⟩ = some v ∧ w.shape? b = some (t, 2) ∧ w.frozen? ⟨b, 0, none⟩ = false ∧ w.frozen? ⟨b, 1, none⟩ = false := by
  refine ⟨?_, ?_, ?_, ?_, ?_⟩
  · rw [Lib.cell_of_heap h]; rfl
  · rw [Lib.cell_of_heap h]; rfl
  · simp [World.shape?, h]
  · exact Lib.frozen_of_heap h 0
  · exact Lib.frozen_of_heap h 1

set_option maxRecDepth 100000 in
set_option maxHeartbeats 1000000 in
theorem check_fresh (b : Nat) (w : World) (h0 : w.cell? ⟨b, 0, none⟩ = some (.pointer none)) (hsh : w.shape? b = some (56, 2)) (hfz : w.frozen? ⟨b, 0, none⟩ = false) :
    Calls Tryz.prog 114 #[.pointer (some ⟨b, 0, none⟩)] w fun e w' => e = .returned (.tuple #[]) ∧ w' = w.setCell ⟨b, 0, none⟩ (.pointer (some ⟨b, 0, none⟩)) := by
  obtain ⟨j, hj, hjs⟩ := Option.map_eq_some_iff.1 (show (Tryz.prog.info? 56).map (·.size) = some 2 by kernel_rfl)
  go_enter Tryz.func114, Tryz.ntmps114
  go_wp2
  rw [Lib.run_to_unsafe w ⟨b, 0, none⟩ Tryz.underlying54 Tryz.underlying134 hj (by rw [hjs]; decide) hsh (Nat.zero_lt_succ 1)]
  simp only [Result.andThen]
  rw [Oper.upon_value]
  go_wp2
  rw [run_callFunc_extern Tryz.func128 (by kernel_rfl) (by kernel_rfl) (by kernel_rfl) (e := Extern.AbiNoEscape.same) (by kernel_rfl)]
  rw [Lib.run_noEscape]
  simp only [Result.andThen]
  rw [Oper.upon_value]
  go_wp2
  rw [Lib.run_from_unsafe w ⟨b, 0, none⟩ Tryz.underlying134 Tryz.underlying54 hj hsh (by kernel_rfl)]
  simp only [Result.andThen]
  rw [Oper.upon_value]
  go_wp2
  go_end0
  exact ⟨rfl, rfl⟩

set_option maxRecDepth 100000 in
set_option maxHeartbeats 1000000 in
theorem check_used (b : Nat) (w : World) (h0 : w.cell? ⟨b, 0, none⟩ = some (.pointer (some ⟨b, 0, none⟩))) :
    Calls Tryz.prog 114 #[.pointer (some ⟨b, 0, none⟩)] w fun e w' => e = .returned (.tuple #[]) ∧ w' = w := by
  obtain ⟨j, hj, hjs⟩ := Option.map_eq_some_iff.1 (show (Tryz.prog.info? 56).map (·.size) = some 2 by kernel_rfl)
  go_enter Tryz.func114, Tryz.ntmps114
  go_wp2
  rw [Lib.run_neq_ptr_same w _ Tryz.underlying54 hj]
  go_wp2
  go_end0
  exact ⟨rfl, rfl⟩

theorem Keeps.refl (b B : Nat) (w : World) : Keeps b B w w := ⟨Below.refl _ _, fun _ _ _ => rfl⟩
theorem Keeps.trans {b B : Nat} {x y z : World} (h : Keeps b B x y) (k : Keeps b B y z) : Keeps b B x z :=
  ⟨h.1.trans k.1, fun i h1 h2 => (k.2 i h1 h2).trans (h.2 i h1 h2)⟩
theorem Keeps.setCell {b B : Nat} {x y : World} (h : Keeps b B x y) (j : Nat) (v : Value) : Keeps b B x (y.setCell ⟨b, j, none⟩ v) :=
  ⟨h.1.setCell (Nat.le_refl _) v, fun i h1 h2 => (Below.heap_setCell _ _ _ _ (by simp; omega)).trans (h.2 i h1 h2)⟩
theorem Keeps.alloc {b B : Nat} {x y : World} (h : Keeps b B x y) (hb : b < B) (hB : B ≤ y.heap.size) (o : Obj) : Keeps b B x (y.alloc o) :=
  ⟨h.1.alloc (by omega) o, fun i h1 h2 => (Below.heap_alloc _ _ _ (by omega)).trans (h.2 i h1 h2)⟩
theorem Keeps.grown {b B : Nat} {x y z : World} {row : Option Nat} (h : Keeps b B x y) (hb : b < B) (hB : B ≤ y.heap.size) (hg : y.grownBy z row) (hr : ∀ k, row = some k → B ≤ k) : Keeps b B x z :=
  ⟨h.1.grown hg (by omega) (fun k hk => by have := hr k hk; omega), fun i h1 h2 => (hg.block i (by omega) (fun e => by have := hr i e.symm; omega)).trans (h.2 i h1 h2)⟩

theorem grown_setCell (w : World) (b j : Nat) (v : Value) : w.grownBy (w.setCell ⟨b, j, none⟩ v) (some b) :=
  ⟨rfl, rfl, rfl, by simp [World.setCell], fun k _ hk => Below.heap_setCell _ _ _ _ (fun e => hk (by simp [e]))⟩

theorem owns_ne {w : World} {b B : Nat} {v : Value} {n : Nat} {xs : List Value} {e : TypeId} (h : w.ownsRow B e 1 v n xs) (hb : b < B) : v.ownBlock ≠ some b := by
  intro he
  have := (h.lt b he).1
  omega

theorem check_any (b B : Nat) (l : List UInt8) (w : World) (h : Bld b B l w) :
    Calls Tryz.prog 114 #[.pointer (some ⟨b, 0, none⟩)] w fun e w' => e = .returned (.tuple #[]) ∧ (∃ v, w'.heap[b]? = some (.cells #[.pointer (some ⟨b, 0, none⟩), v] 56 (0, 0)) ∧ w'.ownsRow B 5 1 v l.length (Lib.byteCells l)) ∧ Keeps b B w w' ∧ w'.heap.size = w.heap.size := by
  obtain ⟨hbB, p, v, hp, hh, hown⟩ := h
  obtain ⟨c0, c1, hsh, f0, f1⟩ := cell_at hh
  rcases hp with rfl | rfl
  · refine (check_fresh b w c0 hsh f0).mono ?_
    rintro e w' ⟨rfl, rfl⟩
    refine ⟨rfl, ⟨v, ?_, ?_⟩, (Keeps.refl _ _ _).setCell _ _, by simp [World.setCell]⟩
    · simp [World.setCell, Array.getElem?_modify, hh]
    · exact hown.kept (grown_setCell w b 0 _) (Or.inr (owns_ne hown hbB))
  · refine (check_used b w c0).mono ?_
    rintro e w' ⟨rfl, rfl⟩
    exact ⟨rfl, ⟨v, hh, hown⟩, Keeps.refl _ _ _, rfl⟩

set_option maxRecDepth 100000 in
set_option maxHeartbeats 1000000 in
theorem writeByte_any (b B : Nat) (l : List UInt8) (c : UInt8) (w : World) (h : Bld b B l w) (hB : B ≤ w.heap.size) (hl : l.length ≤ 1000000) :
    Calls Tryz.prog 88 #[.pointer (some ⟨b, 0, none⟩), .int .u8 (c.toNat : Int)] w fun e w' => e = .returned .nilIface ∧ Bld b B (l ++ [c]) w' ∧ Keeps b B w w' ∧ w.heap.size ≤ w'.heap.size := by
  have hck := check_any b B l w h
  have hbB := h.1
  clear h
  obtain ⟨i0, hi, hz0, hz1, hz2⟩ := info_parts info5
  go_enter Tryz.func88, Tryz.ntmps88
  go_wp2_with fail
  refine hck.mono ?_
  rintro e w1 ⟨rfl, ⟨v, hh, hown⟩, hk1, hs0⟩
  have hs1 : w.heap.size ≤ w1.heap.size := by omega
  clear hs0
  obtain ⟨c0, c1, hsh, f0, f1⟩ := cell_at hh
  have HK1 : Hid (Keeps b B w w1) := hk1
  have HH : Hid (w1.heap[b]? = some (.cells #[.pointer (some ⟨b, 0, none⟩), v] 56 (0, 0))) := hh
  clear hk1 hh hck f0 hsh
  go_wp2_with (at_builtin; refine wpList_append_own _ rfl _ _ 47 rfl B 5 i0 (.int .u8 0) 1 1 Tryz.underlying47 hi hz0 hz1 hz2 rfl (by decide) _ _ _ rfl (hown.alloc _) ⟨w1.heap.size, 0, none⟩ 1 1 [.int .u8 (c.toNat : Int)] rfl rfl ?c1 ?c2 ?c3 ?c4 ?c5 ?_)
  case c1 =>
    intro j u hj
    match j, hj with
    | 0, hj => simp at hj; subst hj; simp [Addr.add]
  case c2 => intro u hu; simp at hu; subst hu; rfl
  case c3 => unfold maxLen; omega
  case c4 => omega
  case c5 => simp; omega
  intro v' w2 hown' hgrow _
  have hlt : b < w1.heap.size := by omega
  have hh2 : w2.heap[b]? = some (.cells #[.pointer (some ⟨b, 0, none⟩), v] 56 (0, 0)) := by
    rw [hgrow.block b (by simp; omega) (fun e => owns_ne hown hbB e.symm), Below.heap_alloc w1 _ b hlt]
    exact HH.out
  obtain ⟨d0, d1, dsh, g0, g1⟩ := cell_at hh2
  have HK2 : Hid (Keeps b B w w2) := (HK1.out.alloc hbB (by omega) _).grown hbB (by simp; omega) hgrow (fun k hk => (hown.lt k hk).1)
  have HS2 : Hid (w.heap.size ≤ w2.heap.size) := by
    have := hgrow.size
    simp at this
    show w.heap.size ≤ w2.heap.size
    omega
  have HO2 : Hid (w2.ownsRow B 5 1 v' (l.length + 1) (Lib.byteCells l ++ [.int .u8 (c.toNat : Int)])) := hown'
  have HH2 : Hid (w2.heap[b]? = some (.cells #[.pointer (some ⟨b, 0, none⟩), v] 56 (0, 0))) := hh2
  obtain ⟨sa, scap, rfl⟩ := owns_slice hown'
  clear hown' hgrow hh2 hown HH HK1
  go_wp2
  go_ret
  refine ⟨rfl, ⟨hbB, _, .slice sa (l.length + 1) scap, Or.inr rfl, ?_, ?_⟩, HK2.out.setCell _ _, ?_⟩
  · simp [World.setCell, Array.getElem?_modify, HH2.out]
  · have h1 : Lib.byteCells (l ++ [c]) = Lib.byteCells l ++ [.int .u8 (c.toNat : Int)] := by rw [Lib.byteCells_append]; rfl
    rw [h1, show (l ++ [c]).length = l.length + 1 by simp]
    exact HO2.out.kept (grown_setCell w2 b 1 _) (Or.inr (owns_ne HO2.out hbB))
  · simpa [World.setCell] using HS2.out

set_option maxRecDepth 100000 in
set_option maxHeartbeats 1000000 in
theorem writeString_any (b B : Nat) (l : List UInt8) (s : ByteArray) (w : World) (h : Bld b B l w) (hB : B ≤ w.heap.size) (hl : l.length ≤ 1000000) (hs : s.size ≤ 1000000) :
    Calls Tryz.prog 87 #[.pointer (some ⟨b, 0, none⟩), .string s] w fun e w' => e = .returned (.tuple #[.int .i64 s.size, .nilIface]) ∧ Bld b B (l ++ s.data.toList) w' ∧ Keeps b B w w' ∧ w.heap.size ≤ w'.heap.size := by
  have hck := check_any b B l w h
  have hbB := h.1
  clear h
  obtain ⟨i0, hi, hz0, hz1, hz2⟩ := info_parts info5
  go_enter Tryz.func87, Tryz.ntmps87
  go_wp2_with fail
  refine hck.mono ?_
  rintro e w1 ⟨rfl, ⟨v, hh, hown⟩, hk1, hs0⟩
  have hs1 : w.heap.size ≤ w1.heap.size := by omega
  clear hs0
  obtain ⟨c0, c1, hsh, f0, f1⟩ := cell_at hh
  have HK1 : Hid (Keeps b B w w1) := hk1
  have HH : Hid (w1.heap[b]? = some (.cells #[.pointer (some ⟨b, 0, none⟩), v] 56 (0, 0))) := hh
  clear hk1 hh hck f0 hsh
  go_wp2_with (at_builtin; refine Lib.wpList_append_own_string _ rfl _ _ 47 9 rfl B 5 i0 Tryz.underlying47 Tryz.underlying9 hi hz0 hz1 hz2 _ _ _ rfl hown s rfl ?c3 ?c4 ?c5 ?_)
  case c3 => unfold maxLen; omega
  case c4 => omega
  case c5 => omega
  intro v' w2 hown' hgrow _
  have hlt : b < w1.heap.size := by omega
  have hh2 : w2.heap[b]? = some (.cells #[.pointer (some ⟨b, 0, none⟩), v] 56 (0, 0)) := by
    rw [hgrow.block b hlt (fun e => owns_ne hown hbB e.symm)]
    exact HH.out
  obtain ⟨d0, d1, dsh, g0, g1⟩ := cell_at hh2
  have HK2 : Hid (Keeps b B w w2) := HK1.out.grown hbB (by omega) hgrow (fun k hk => (hown.lt k hk).1)
  have HS2 : Hid (w.heap.size ≤ w2.heap.size) := by
    have := hgrow.size
    show w.heap.size ≤ w2.heap.size
    omega
  have HO2 : Hid (w2.ownsRow B 5 1 v' (l.length + s.size) (Lib.byteCells l ++ Lib.strCells s)) := hown'
  have HH2 : Hid (w2.heap[b]? = some (.cells #[.pointer (some ⟨b, 0, none⟩), v] 56 (0, 0))) := hh2
  obtain ⟨sa, scap, rfl⟩ := owns_slice hown'
  clear hown' hgrow hh2 hown HH HK1
  go_wp2
  go_ret2
  refine ⟨rfl, ⟨hbB, _, .slice sa (l.length + s.size) scap, Or.inr rfl, ?_, ?_⟩, HK2.out.setCell _ _, ?_⟩
  · simp [World.setCell, Array.getElem?_modify, HH2.out]
  · have h1 : Lib.byteCells (l ++ s.data.toList) = Lib.byteCells l ++ Lib.strCells s := by rw [Lib.byteCells_append, Lib.strCells_eq]
    rw [h1, show (l ++ s.data.toList).length = l.length + s.size by rw [List.length_append, size_list]]
    exact HO2.out.kept (grown_setCell w2 b 1 _) (Or.inr (owns_ne HO2.out hbB))
  · simpa [World.setCell] using HS2.out

theorem bld_is {b B : Nat} {l : List UInt8} {w : World} (h : Bld b B l w) : Lib.IsBuilder 56 5 b b (Lib.byteCells l) w := by
  obtain ⟨hbB, p, v, hp, hh, hown⟩ := h
  have h1 : w.ownsRow b 5 1 v (Lib.byteCells l).length (Lib.byteCells l) := by
    rw [Lib.byteCells_length]
    exact hown.mono (by omega)
  rcases hp with rfl | rfl
  · exact Or.inl ⟨Nat.le_refl _, v, hh, h1, owns_ne hown hbB⟩
  · exact Or.inr ⟨Nat.le_refl _, v, hh, h1, owns_ne hown hbB⟩

theorem blen_any (b B : Nat) (l : List UInt8) (w : World) (h : Bld b B l w) :
    Calls Tryz.prog 22 #[.pointer (some ⟨b, 0, none⟩)] w fun e w' => e = .returned (.int .i64 (l.length : Int)) ∧ w' = w := by
  have h1 := Tryz.Builder_Len b b _ w (bld_is h)
  rw [Lib.byteCells_length] at h1
  exact h1

theorem bstring_any (b B : Nat) (l : List UInt8) (w : World) (h : Bld b B l w) :
    Calls Tryz.prog 23 #[.pointer (some ⟨b, 0, none⟩)] w fun e w' => e = .returned (.string ⟨l.toArray⟩) ∧ Below b w w' := by
  have hlt : b < w.heap.size := by
    obtain ⟨_, p, v, _, hh, _⟩ := h
    exact (Array.getElem?_eq_some_iff.1 hh).1
  exact Tryz.Builder_String_any b b l w (bld_is h) (by omega)

end Go.Proofs.YtmifejkddgcbmabGreat

/- What Escape answers, the program's and the document's. -/
namespace Go.Proofs.YtmifejkddgcbmabGreat
open Go.RowKit
set_option linter.unusedVariables false
set_option linter.unusedSimpArgs false

/-- What stands for a byte; empty: it stands for itself. -/
def escB (c : Nat) (q : Bool) : List UInt8 :=
  if c = 38 then [38, 97, 109, 112, 59] else if c = 60 then [38, 108, 116, 59] else if c = 62 then [38, 103, 116, 59] else if c = 13 then [38, 35, 49, 51, 59]
  else if q = true ∧ c = 34 then [38, 113, 117, 111, 116, 59] else if q = true ∧ c = 9 then [38, 35, 57, 59] else if q = true ∧ c = 10 then [38, 35, 49, 48, 59] else []
def esc1 (q : Bool) (b : UInt8) : List UInt8 := if escB b.toNat q = [] then [b] else escB b.toNat q
def escL (q : Bool) (l : List UInt8) : List UInt8 := l.flatMap (esc1 q)
/-- What Escape answers. -/
def eans (q : Bool) (l : List UInt8) : List UInt8 × Int × Int := if (tans l).2 = 0 then (escL q l, 0, 0) else ([], (tans l).1, (tans l).2)

theorem escB_length (c : Nat) (q : Bool) : (escB c q).length ≤ 6 := by
  unfold escB
  split
  · simp
  · split
    · simp
    · split
      · simp
      · split
        · simp
        · split
          · simp
          · split
            · simp
            · split <;> simp
theorem esc1_length (q : Bool) (b : UInt8) : (esc1 q b).length ≤ 6 := by
  unfold esc1
  split
  · simp
  · exact escB_length _ _
theorem escL_length (q : Bool) (l : List UInt8) : (escL q l).length ≤ 6 * l.length := by
  induction l with
  | nil => simp [escL]
  | cons b t ih =>
    have h1 := esc1_length q b
    simp only [escL, List.flatMap_cons, List.length_append, List.length_cons] at ih ⊢
    omega
theorem escL_snoc (q : Bool) (a : List UInt8) (b : UInt8) : escL q (a ++ [b]) = escL q a ++ esc1 q b := by simp [escL]

set_option maxRecDepth 100000 in
set_option maxHeartbeats 2000000 in
theorem escaped_any (w : World) (c : Nat) (hc : c < 256) (q : Bool) : Calls Tryz.prog 86 #[.int .u8 (c : Int), .bool q] w fun e w' => e = .returned (.string ⟨(escB c q).toArray⟩) ∧ w' = w := by
  have h38 : ((c : Int) == 38) = decide (c = 38) := by rw [Bool.eq_iff_iff]; simp; omega
  have h60 : ((c : Int) == 60) = decide (c = 60) := by rw [Bool.eq_iff_iff]; simp; omega
  have h62 : ((c : Int) == 62) = decide (c = 62) := by rw [Bool.eq_iff_iff]; simp; omega
  have h13 : ((c : Int) == 13) = decide (c = 13) := by rw [Bool.eq_iff_iff]; simp; omega
  have h34 : ((c : Int) == 34) = decide (c = 34) := by rw [Bool.eq_iff_iff]; simp; omega
  have h9 : ((c : Int) == 9) = decide (c = 9) := by rw [Bool.eq_iff_iff]; simp; omega
  have h10 : ((c : Int) == 10) = decide (c = 10) := by rw [Bool.eq_iff_iff]; simp; omega
  generalize hS : (⟨(escB c q).toArray⟩ : ByteArray) = S
  have HS : Hid ((⟨(escB c q).toArray⟩ : ByteArray) = S) := hS
  clear hS
  cases q
  all_goals go_enter Tryz.func86, Tryz.ntmps86
  all_goals go_wp2
  all_goals go_ret
  all_goals refine ⟨congrArg _ (v_str ?_), rfl⟩
  all_goals rw [← HS.out]
  all_goals clear HS h38 h60 h62 h13 h34 h9 h10
  all_goals simp_all [escB]

end Go.Proofs.YtmifejkddgcbmabGreat

/- Escape's walks, the program's and the document's. -/
namespace Go.Proofs.YtmifejkddgcbmabGreat
open Go.RowKit
set_option linter.unusedVariables false
set_option linter.unusedSimpArgs false

theorem v_sii {k k' : IntKind} {a b : ByteArray} {c d e f : Int} (h : a = b) (h' : c = d) (h'' : e = f) : Value.tuple #[.string a, .int k c, .int k' e] = .tuple #[.string b, .int k d, .int k' f] := by rw [h, h', h'']

set_option maxRecDepth 100000 in
set_option maxHeartbeats 1000000 in
theorem escape_bad (w : World) (s : ByteArray) (q : Bool) (h : (tans s.data.toList).2 ≠ 0) :
    Calls Tryz.prog 55 #[.string s, .bool q] w fun e w' => e = .returned (.tuple #[.string ⟨#[]⟩, .int .i64 (tans s.data.toList).1, .int .i64 (tans s.data.toList).2]) ∧ Below w.heap.size w w' := by
  have ht := text_any w s
  have h1 : ((tans s.data.toList).2 != 0) = true := bne_iff_ne.2 h
  generalize tans s.data.toList = p at *
  go_enter Tryz.func55, Tryz.ntmps55
  go_wp2_with fail
  refine ht.mono ?_
  rintro e w' ⟨rfl, hb⟩
  go_wp2
  go_ret3
  exact ⟨rfl, hb⟩

/-- A new builder and a text's bytes behind it. -/
theorem start_build (W : World) (s : ByteArray) : ∃ W2 cap, (convert 9 47 (.string s)).run Tryz.prog (W.alloc (.cells #[.pointer none, .slice none 0 0] 56)) = .ok (.slice (some ⟨W.heap.size + 1, 0, none⟩) s.size cap) W2 ∧
    Bld W.heap.size (W.heap.size + 2) [] W2 ∧ W2.heap.size = W.heap.size + 2 ∧ Below W.heap.size W W2 ∧
    ∃ cs fz, W2.heap[W.heap.size + 1]? = some (.cells cs 5 fz) ∧ ∀ j (hj : j < s.data.toList.length), cs[j]? = some (.int .u8 ((s.data.toList[j]).toNat : Int)) := by
  obtain ⟨W2, cap, hrun, hbel, hWs, hc⟩ := conv_bytes (W.alloc (.cells #[.pointer none, .slice none 0 0] 56)) s
  have hsz : (W.alloc (.cells #[.pointer none, .slice none 0 0] 56)).heap.size = W.heap.size + 1 := by simp
  rw [hsz] at hrun hbel hWs hc
  refine ⟨W2, cap, hrun, ⟨by omega, .pointer none, .slice none 0 0, Or.inl rfl, ?_, ⟨rfl, Or.inl ⟨rfl, rfl⟩⟩⟩, by omega, (below_new W _).trans (hbel.mono (by omega)), hc⟩
  rw [hbel.block _ (by omega)]
  simp [World.alloc, -World.alloc_eq]

set_option maxRecDepth 100000 in
set_option maxHeartbeats 1000000 in
theorem escape_walk (w : World) (s : ByteArray) (q : Bool) (h : (tans s.data.toList).2 = 0) (hsz : s.size ≤ 16384) (X : ByteArray) (hX : X = ⟨(escL q s.data.toList).toArray⟩) :
    Calls Tryz.prog 55 #[.string s, .bool q] w fun e w' => e = .returned (.tuple #[.string X, .int .i64 0, .int .i64 0]) ∧ Below w.heap.size w w' := by
  have ht := text_any w s
  rw [h] at ht
  generalize (tans s.data.toList).1 = p at *
  have hl := size_list s
  have HX : Hid (X = ⟨(escL q s.data.toList).toArray⟩) := hX
  clear hX h
  go_enter Tryz.func55, Tryz.ntmps55
  go_wp2_with fail
  refine ht.mono ?_
  rintro e W ⟨rfl, hb⟩
  have hs1 := hb.size
  have HB1 : Hid (Below w.heap.size w W) := hb
  obtain ⟨W2, cap, hrun, hbld, hW2, hbel, hc⟩ := start_build W s
  have HC : Hid (∃ cs fz, W2.heap[W.heap.size + 1]? = some (.cells cs 5 fz) ∧ ∀ j (hj : j < s.data.toList.length), cs[j]? = some (.int .u8 ((s.data.toList[j]).toNat : Int))) := hc
  have HBL : Hid (Bld W.heap.size (W.heap.size + 2) [] W2) := hbld
  have HB2 : Hid (Below W.heap.size W W2) := hbel
  have HW2 : Hid (W2.heap.size = W.heap.size + 2) := hW2
  clear hc hbld hbel hW2 hb ht
  generalize s.data.toList = l at *
  go_wp2
  go_loopw [25] (fun v wr => ∃ i : Nat, i ≤ s.size ∧ v = .int .i64 (i : Int) ∧ Hid (Bld W.heap.size (W.heap.size + 2) (escL q (l.take i)) wr) ∧ Hid (Keeps W.heap.size (W.heap.size + 2) W2 wr) ∧ W.heap.size + 2 ≤ wr.heap.size) (fun v _ => s.size - (intOf v).toNat)
  case atStart => exact ⟨0, by omega, rfl, HBL, Keeps.refl _ _ _, by have := HW2.out; omega⟩
  case round =>
    obtain ⟨i, hi, rfl, hbl, hkp, hws⟩ := hrel
    by_cases hlt : i < s.size
    · have hcell : wr.cell? ⟨W.heap.size + 1, i, none⟩ = some (.int .u8 ((l[i]'(by omega)).toNat : Int)) := by
        refine bytes_cell ?_ i (by omega)
        rw [hkp.out.2 (W.heap.size + 1) (by omega) (by omega)]
        exact HC.out
      have hts := take_snoc (l := l) (i := i) (by omega)
      generalize (l[i]'(by omega)) = b at hcell hts
      have hes := escaped_any wr b.toNat b.toNat_lt q
      have hel := escL_length q (l.take i)
      have htl : (l.take i).length ≤ i := by rw [List.length_take]; omega
      have hnx : escL q (l.take (i + 1)) = escL q (l.take i) ++ esc1 q b := by rw [hts, escL_snoc]
      by_cases he : escB b.toNat q = []
      · have hwb := writeByte_any W.heap.size (W.heap.size + 2) (escL q (l.take i)) b wr hbl.out hws (by omega)
        have HNX : Hid (escL q (l.take (i + 1)) = escL q (l.take i) ++ [b]) := by
          show _ = _
          rw [hnx, esc1, if_pos he]
        rw [he] at hes
        clear hnx hts he hel htl HX hbl
        go_wp2_with fail
        refine hes.mono ?_
        rintro e w3 ⟨rfl, rfl⟩
        go_wp2_with fail
        refine hwb.mono ?_
        rintro e w4 ⟨rfl, hbld4, hk4, hs4⟩
        have HB4 : Hid (Bld W.heap.size (W.heap.size + 2) (escL q (l.take (i + 1))) w4) := by
          show Bld _ _ _ _
          rw [HNX.out]
          exact hbld4
        have HK4 : Hid (Keeps W.heap.size (W.heap.size + 2) W2 w4) := hkp.out.trans hk4
        clear hbld4 hk4 hwb hes
        go_wp2
        go_roundw
        case rel => exact ⟨i + 1, by omega, by go_num, HB4, HK4, by omega⟩
        case measure => simp [intOf]; omega
      · have hS0 : (⟨(escB b.toNat q).toArray⟩ : ByteArray).toList.isEmpty = false := by
          rw [Lib.toList_data]
          simpa using he
        have hSs : (⟨(escB b.toNat q).toArray⟩ : ByteArray).size ≤ 1000000 := by
          have := escB_length b.toNat q
          have h2 := size_list (⟨(escB b.toNat q).toArray⟩ : ByteArray)
          have h3 : (⟨(escB b.toNat q).toArray⟩ : ByteArray).data.toList = escB b.toNat q := rfl
          rw [h3] at h2
          omega
        have hwb := writeString_any W.heap.size (W.heap.size + 2) (escL q (l.take i)) ⟨(escB b.toNat q).toArray⟩ wr hbl.out hws (by omega) hSs
        have HNX : Hid (escL q (l.take (i + 1)) = escL q (l.take i) ++ (⟨(escB b.toNat q).toArray⟩ : ByteArray).data.toList) := by
          show _ = _
          rw [hnx, esc1, if_neg he]
        generalize (⟨(escB b.toNat q).toArray⟩ : ByteArray) = S at *
        clear hnx hts he hel htl HX hbl
        go_wp2_with fail
        refine hes.mono ?_
        rintro e w3 ⟨rfl, rfl⟩
        go_wp2_with fail
        refine hwb.mono ?_
        rintro e w4 ⟨rfl, hbld4, hk4, hs4⟩
        have HB4 : Hid (Bld W.heap.size (W.heap.size + 2) (escL q (l.take (i + 1))) w4) := by
          show Bld _ _ _ _
          rw [HNX.out]
          exact hbld4
        have HK4 : Hid (Keeps W.heap.size (W.heap.size + 2) W2 w4) := hkp.out.trans hk4
        clear hbld4 hk4 hwb hes
        go_wp2
        go_roundw
        case rel => exact ⟨i + 1, by omega, by go_num, HB4, HK4, by omega⟩
        case measure => simp [intOf]; omega
    · have hst := bstring_any W.heap.size (W.heap.size + 2) _ wr hbl.out
      rw [List.take_of_length_le (by omega), ← HX.out] at hst
      clear HX hbl
      go_wp2_with fail
      refine hst.mono ?_
      rintro e w4 ⟨rfl, hb4⟩
      go_wp2
      go_ret3
      exact ⟨rfl, HB1.out.trans ((HB2.out.trans (hkp.out.1.trans hb4)).mono hs1)⟩

theorem escape_any (w : World) (s : ByteArray) (q : Bool) :
    Calls Tryz.prog 55 #[.string s, .bool q] w fun e w' => e = .returned (.tuple #[.string ⟨(eans q s.data.toList).1.toArray⟩, .int .i64 (eans q s.data.toList).2.1, .int .i64 (eans q s.data.toList).2.2]) ∧ Below w.heap.size w w' := by
  by_cases h : (tans s.data.toList).2 = 0
  · have h1 := (tans_ok h).1
    rw [size_list] at h1
    rw [eans, if_pos h]
    exact escape_walk w s q h h1 _ rfl
  · rw [eans, if_neg h]
    exact escape_bad w s q h
end Go.Proofs.YtmifejkddgcbmabGreat
