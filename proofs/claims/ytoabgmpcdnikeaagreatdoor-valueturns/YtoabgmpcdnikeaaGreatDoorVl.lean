/- Lists of texts: the program's texts, differ, share, someTexts. -/
import Derived.Test.YtoabgmpcdnikeaaGreatDoorVk
import Derived.Maps.OwnSet
import Derived.StringKeys
import Derived.WalkSpells
import Derived.WalkLawsBesides
namespace Go.Proofs.YtoabgmpcdnikeaaGreatDoor
open Go.RowKit Go.Maps
set_option linter.unusedVariables false

/-- What answers a list of texts leaves. -/
def SP (w : World) (L : List ByteArray) (e : Ending) (w' : World) : Prop := ∃ a c, e = .returned (.slice a L.length c) ∧ SsAt w' a L ∧ Below w.heap.size w w'

set_option maxRecDepth 100000 in
theorem texts_any (w : World) {k n : Int} {b no : Bool} {t : ByteArray} {a : Option Addr} {c : Nat} {L : List ByteArray} (h : VOk w ⟨k, b, n, no, t, L⟩ a) :
    Calls Tryz.prog 76 #[.agg #[.int .i64 k, .bool b, .int .i64 n, .bool no, .string t, .slice a L.length c]] w (SP w (Vl.texts ⟨k, b, n, no, t, L⟩)) := by
  have HH : Hid (VOk w ⟨k, b, n, no, t, L⟩ a) := h
  clear h
  by_cases h4 : k = 4
  · subst h4
    have HN : Hid (Vl.texts ⟨4, b, n, no, t, L⟩ = L) := by show _ = _; simp [Vl.texts]
    rw [HN.out]
    go_enter Tryz.func76, Tryz.ntmps76
    go_wp2
    go_ret
    exact ⟨_, _, rfl, (HH.out.bel ((Below.refl _ _).alloc (Nat.le_refl _) _)).at_, (Below.refl _ _).alloc (Nat.le_refl _) _⟩
  · have q4 : (k == 4) = false := by simpa using h4
    have HN : Hid (Vl.texts ⟨k, b, n, no, t, L⟩ = [t]) := by show _ = _; simp [Vl.texts, h4]
    rw [HN.out]
    clear h4
    go_enter Tryz.func76, Tryz.ntmps76
    go_wp2
    go_ret
    refine ⟨_, _, rfl, fun i x hi => ?_, ((Below.refl _ _).alloc (Nat.le_refl _) _).alloc (by simp) _⟩
    have : i = 0 := by
      have := (List.getElem?_eq_some_iff.1 hi).1
      simpa using this
    subst this
    simp at hi
    subst hi
    exact ⟨_, _, rfl, by simp, by simp⟩

theorem ba_beq (x y : ByteArray) : (x.toList == y.toList) = decide (x = y) := by
  rw [Lib.toList_data, Lib.toList_data]
  by_cases h : x = y
  · subst h
    simp
  · rw [beq_eq_false_iff_ne.2 (fun e => h ?_)]
    · simp [h]
    · cases x
      cases y
      exact congrArg ByteArray.mk (Array.toList_inj.1 e)

theorem differ1_any (W : World) (B : Nat) (x t : ByteArray) (hc : W.cell? ⟨B, 0, none⟩ = some (.string t)) : Calls Tryz.prog 145 #[.string x, .pointer (some ⟨B, 0, none⟩)] W fun e w' => e = .returned (.bool (decide (x ≠ t))) ∧ Below W.heap.size W w' := by
  have HZ : Hid ((!(x.toList == t.toList)) = decide (x ≠ t)) := by show _ = _; rw [ba_beq]; by_cases h : x = t <;> simp [h]
  generalize decide (x ≠ t) = z at *
  go_enter Tryz.func145, Tryz.ntmps145
  go_wp2
  go_ret
  exact ⟨congrArg _ (v_bool HZ.out), Below.refl _ _⟩

theorem enters145 : ∀ args w, (callFunc 145 args).run Tryz.prog w = .ok (.enter 145 args) w := enters_of Tryz.func145 (by kernel_rfl) rfl
theorem enters144 : ∀ args w, (callFunc 144 args).run Tryz.prog w = .ok (.enter 144 args) w := enters_of Tryz.func144 (by kernel_rfl) rfl

set_option maxRecDepth 100000 in
theorem differ_any (w : World) {a : Option Addr} {c : Nat} {L : List ByteArray} (hL : SsAt w a L) (hn : L.length ≤ 4611686018427387904) (t : ByteArray) (R : Bool) (hR : (L.any fun s => decide (s ≠ t)) = R) :
    Calls Tryz.prog 111 #[.slice a L.length c, .string t] w fun e w' => e = .returned (.bool R) ∧ Below w.heap.size w w' := by
  obtain ⟨W, hW⟩ : ∃ W, (w.alloc (.cells #[.string t] 9)) = W := ⟨_, rfl⟩
  have hbW : Below w.heap.size w W := by rw [← hW]; exact (Below.refl _ _).alloc (Nat.le_refl _) _
  have hx : IsCells W w.heap.size #[.string t] := by rw [← hW]; exact isCells_new _ _ _
  have hc := contains_any W (c := c) (hL.bel hbW) hn 145 #[.pointer (some ⟨w.heap.size, 0, none⟩)] (fun s => decide (s ≠ t)) enters145 (fun V x _ hV => differ1_any V w.heap.size x t ((hV.cell (p := ⟨w.heap.size, 0, none⟩) hx.lt).trans (hx.cell 0)))
  rw [hR] at hc
  have HW : Hid ((w.alloc (.cells #[.string t] 9)) = W ∧ Below w.heap.size w W) := ⟨hW, hbW⟩
  clear hW hbW hx hL hR
  go_enter Tryz.func111, Tryz.ntmps111
  go_wp2_with fail
  rw [HW.out.1]
  with_reducible refine hc.mono ?_
  rintro e w' ⟨rfl, hb⟩
  have HB : Hid (Below w.heap.size w w') := HW.out.2.trans (hb.mono HW.out.2.size)
  clear hb
  go_wp2
  go_ret
  exact ⟨rfl, HB.out⟩

/-- A set of texts: those of a list. -/
def SetAt (w : World) (m : Nat) (A : List ByteArray) (N : Nat) : Prop := ∃ D : DataW Unit, w.ownsMap Tryz.prog 9 unitElem m N D ∧ ∀ s : ByteArray, Maps.has D (.string (Tx s)) = A.any (fun x => decide (x = s))
theorem law9 : Keyed Tryz.prog 9 := string_keyed Tryz.underlying9
theorem zero185 (w : World) : (zeroValue 185).run Tryz.prog w = .ok (.agg #[]) w := by kernel_rfl
theorem SetAt.made (w : World) : SetAt (w.alloc (.map #[] 0)) w.heap.size [] 0 := ⟨.map [], World.ownsMap_made _ _ _ _, fun s => rfl⟩
theorem SetAt.lt {w : World} {m N : Nat} {A : List ByteArray} (h : SetAt w m A N) : m < w.heap.size := by
  obtain ⟨D, h1, _⟩ := h
  exact h1.lt
theorem SetAt.of_block {w w' : World} {m N : Nat} {A : List ByteArray} (h : SetAt w m A N) (hb : w'.heap[m]? = w.heap[m]?) : SetAt w' m A N := by
  obtain ⟨D, ⟨es, clock, h1, r⟩, h2⟩ := h
  exact ⟨D, ⟨es, clock, hb.trans h1, r⟩, h2⟩
theorem SetAt.look {w : World} {m N : Nat} {A : List ByteArray} (h : SetAt w m A N) {s : ByteArray} (hs : s.size ≤ maxLen) : (Instr.lookup 184 (.map (some m)) (.string s) true).run Tryz.prog w = .ok (.tuple #[.agg #[], .bool (A.any (fun x => decide (x = s)))]) w := by
  obtain ⟨D, h1, h2⟩ := h
  obtain ⟨v, ps, hr, hv⟩ := h1.look_ok law9 Tryz.underlying184 (zero185 w) (zd := .agg []) (zp := []) unitElem_mk (Go.WideMaps.keyOf_string_mk Tryz.underlying9 hs)
  obtain ⟨rfl, _⟩ := unitElem_inv hv
  rw [hr]
  have := h2 s
  unfold Tx at this
  rw [this]
theorem SetAt.store {w : World} {m N : Nat} {A : List ByteArray} (h : SetAt w m A N) (hN : N < maxLen) {s : ByteArray} (hs : s.size ≤ maxLen) :
    ∃ w', (Instr.mapUpdate 184 (.map (some m)) (.string s) (.agg #[])).run Tryz.prog w = .ok () w' ∧ SetAt w' m (A ++ [s]) (N + 1) ∧ w.grownBy w' (some m) := by
  obtain ⟨D, h1, h2⟩ := h
  obtain ⟨w', hr, h3, h4⟩ := h1.update law9 Tryz.underlying184 hN (Go.WideMaps.keyOf_string_mk Tryz.underlying9 hs) unitElem_mk
  refine ⟨w', hr, ⟨_, h3, fun x => ?_⟩, h4⟩
  rw [List.any_append]
  by_cases e : x = s
  · subst e
    have := has_put_same (k := .string (Tx x)) h1.isMap trivial (.agg [])
    unfold Tx at this ⊢
    rw [this]
    simp
  · have hne : (Lit.string (Tx x)) ≠ .string s.data.toList := by
      intro e2
      simp only [Lit.string.injEq] at e2
      apply e
      cases x
      cases s
      exact congrArg ByteArray.mk (Array.toList_inj.1 e2)
    rw [has_put_other hne, h2 x]
    have : (decide (s = x)) = false := by simp; exact fun h => e h.symm
    simp [this]

end Go.Proofs.YtoabgmpcdnikeaaGreatDoor
