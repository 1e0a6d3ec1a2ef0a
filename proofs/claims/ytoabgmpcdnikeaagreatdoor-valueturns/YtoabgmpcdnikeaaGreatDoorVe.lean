/- A value as a text and as a number: the program's read, asText, asNumber, Bool, Number, Text. -/
import Derived.Test.YtoabgmpcdnikeaaGreatDoorVd
import Derived.Test.YtoabgmpcdnikeaaGreatDoorShelf
import Derived.Lib.AppendIntMem
namespace Go.Proofs.YtoabgmpcdnikeaaGreatDoor
open Go.RowKit
set_option linter.unusedVariables false

theorem cell_lt {w : World} {a : Addr} {v : Value} (h : w.cell? a = some v) : a.block < w.heap.size := by
  rcases Nat.lt_or_ge a.block w.heap.size with h' | h'
  · exact h'
  · simp [World.cell?, Array.getElem?_eq_none h'] at h

/-- An error's variable. -/
def ErrAt (w : World) (b : Nat) : Prop := ∃ ev, w.cell? ⟨b, 0, none⟩ = some ev ∧ (ev = .nilIface ∨ ∃ te pe, ev = .iface te pe)
theorem ErrAt.bel {w w' : World} {b : Nat} (h : ErrAt w b) (hb : Below w.heap.size w w') : ErrAt w' b := by
  obtain ⟨ev, h1, h2⟩ := h
  exact ⟨ev, (hb.cell (p := ⟨b, 0, none⟩) (cell_lt h1)).trans h1, h2⟩
/-- The library's variables. -/
structure Gl (w : World) : Prop where
  pow : Lib.TabIs Tryz.prog w "internal/strconv.uint64pow10" .u64 Lib.pow10Tab
  syn : ErrAt w 2
  rng : ErrAt w 3
theorem pow_named : Tryz.prog.globalNamed "internal/strconv.uint64pow10" = some 0 := by kernel_rfl
theorem Gl.bel {w w' : World} (h : Gl w) (hb : Below w.heap.size w w') : Gl w' where
  pow := by
    have h0 := h.pow
    unfold Lib.TabIs World.var? at h0 ⊢
    rw [pow_named] at h0 ⊢
    simp only [Option.bind_some] at h0 ⊢
    have hlt : 0 < w.heap.size := by
      rcases Nat.lt_or_ge 0 w.heap.size with h' | h'
      · exact h'
      · rw [Array.getElem?_eq_none h'] at h0; cases h0
    rw [hb.block 0 hlt]
    exact h0
  syn := h.syn.bel hb
  rng := h.rng.bel hb

theorem trim_len (s cs : Bs) : (Lib.trimS s cs).length ≤ s.length := by
  unfold Lib.trimS Lib.trimLeftS Lib.trimRightS
  have h1 := (List.dropWhile_sublist (fun b => cs.contains b) (l := (s.reverse.dropWhile (fun b => cs.contains b)).reverse)).length_le
  have h2 := (List.dropWhile_sublist (fun b => cs.contains b) (l := s.reverse)).length_le
  simp only [List.length_reverse] at h1 h2
  omega

/-- ParseInt, in one contract: the number, or some error. -/
theorem parse_any (w : World) (G : Gl w) (s : ByteArray) (hs : s.size ≤ 281474976710656) :
    Calls Tryz.prog 105 #[.string s, .int .i64 10, .int .i64 64] w fun e w' => (∃ v, Lib.parseIntB 64 (Tx s) = .ok v ∧ e = .returned (.tuple #[.int .i64 v, .nilIface]) ∧ Below w.heap.size w w') ∨ ((∀ v, Lib.parseIntB 64 (Tx s) ≠ .ok v) ∧ ∃ v N, e = .returned (.tuple #[.int .i64 v, .iface 201 (.pointer (some ⟨N, 0, none⟩))]) ∧ Below w.heap.size w w') := by
  cases h : Lib.parseIntB 64 (Tx s) with
  | ok v =>
    refine (Tryz.strconv_ParseInt_10_at64_ok s (by omega) v h w).mono ?_
    rintro e w' ⟨rfl, h1⟩
    refine .inl ⟨v, rfl, rfl, ?_⟩
    rcases h1 with rfl | ⟨t, rfl⟩
    · exact Below.refl _ _
    · exact below_bytesWorld _ _ _
  | «syntax» =>
    obtain ⟨ev, h1, h2⟩ := G.syn
    refine (Tryz.strconv_ParseInt_10_at64_syntax s hs h ev w h1 h2).mono ?_
    rintro e w' ⟨N, rfl, _, _, h3⟩
    exact .inr ⟨fun v e => (by cases e), _, N, rfl, h3⟩
  | range =>
    obtain ⟨ev, h1, h2⟩ := G.rng
    refine (Tryz.strconv_ParseInt_10_at64_range s hs h ev w h1 h2).mono ?_
    rintro e w' ⟨N, rfl, _, _, h3⟩
    exact .inr ⟨fun v e => (by cases e), _, N, rfl, h3⟩

theorem rd_no {s : Bs} (h : ∀ v, Lib.parseIntB 64 (Lib.trimS s blk) ≠ .ok v) : rdN s = (0, false) := by
  unfold rdN
  split
  · rename_i v hv
    exact absurd hv (h v)
  · rfl
theorem rd_plus {s : Bs} {v : Int} (h : Lib.parseIntB 64 (Lib.trimS s blk) = .ok v) (hp : (Lib.trimS s blk).head? = some 43) : rdN s = (0, false) := by
  unfold rdN
  rw [h]
  simp only [hp, if_true]
theorem rd_yes {s : Bs} {v : Int} (h : Lib.parseIntB 64 (Lib.trimS s blk) = .ok v) (hp : (Lib.trimS s blk).head? ≠ some 43) : rdN s = (v, true) := by
  unfold rdN
  rw [h]
  simp only [hp, if_false]

end Go.Proofs.YtoabgmpcdnikeaaGreatDoor
