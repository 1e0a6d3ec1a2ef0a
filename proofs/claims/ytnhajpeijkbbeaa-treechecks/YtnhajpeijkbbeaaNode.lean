/- What is wrong with a node itself, and its children: the program's answers and the document's. -/
import Derived.Test.YtnhajpeijkbbeaaAttrs
namespace Go.Proofs.Ytnhajpeijkbbeaa
open Go.RowKit
set_option linter.unusedVariables false

theorem AttrsAt.after {w w' : World} {lo : Nat} {a : Option Addr} {l : List (ByteArray × ByteArray)} (h : AttrsAt w lo w.heap.size a l) (hb : Below w.heap.size w w') : AttrsAt w' lo w'.heap.size a l :=
  (h.of_cells (fun b o _ hb' => hb.cell (p := ⟨b, o, none⟩) hb')).mono (Nat.le_refl _) hb.size

theorem below_new' (w : World) (o : Obj) : Below w.heap.size w (w.alloc o) := (Below.refl _ _).alloc (Nat.le_refl _) o

theorem rname_b (w : World) (s : ByteArray) :
    Calls Try.prog 16 #[.string s] w fun e w' => e = .returned (.bool (nameL s.data.toList)) ∧ Below w.heap.size w w' :=
  (rname_any w s).mono fun e w' ⟨he, hw⟩ => ⟨he, by rw [hw]; exact Below.refl _ _⟩

set_option maxRecDepth 100000 in
set_option maxHeartbeats 1000000 in
theorem node_any {α : Type} (w : World) (lo : Nat) (t : Nd α) (a : Option Addr) (ac : Nat) (ka : Option Addr) (kl kc : Nat) (h : AttrsAt w lo w.heap.size a t.attrs) :
    Calls Try.prog 9 #[.agg #[.int .i64 t.kind, .string t.name, .slice a t.attrs.length ac, .string t.text, .slice ka kl kc]] w fun e w' => e = .returned (.int .i64 (ownE t)) ∧ Below w.heap.size w w' := by
  have hbn := below_new' w (.cells #[.int .i64 t.kind, .string t.name, .slice a t.attrs.length ac, .string t.text, .slice ka kl kc] 25)
  have hnw := fun W => name_any W t.name
  have htw := fun W => text_any W t.text
  have haw : ∀ W, Below (w.alloc (.cells #[.int .i64 t.kind, .string t.name, .slice a t.attrs.length ac, .string t.text, .slice ka kl kc] 25)).heap.size (w.alloc (.cells #[.int .i64 t.kind, .string t.name, .slice a t.attrs.length ac, .string t.text, .slice ka kl kc] 25)) W → Calls Try.prog 14 #[.slice a t.attrs.length ac] W fun e w' => e = .returned (.int .i64 (attrsE t.attrs)) ∧ Below W.heap.size W w' :=
    fun W hb => attrs_any W lo a t.attrs ac ((h.after hbn).after hb)
  have HBN : Hid (Below w.heap.size w (w.alloc (.cells #[.int .i64 t.kind, .string t.name, .slice a t.attrs.length ac, .string t.text, .slice ka kl kc] 25))) := hbn
  have HAW : Hid (∀ W, Below (w.alloc (.cells #[.int .i64 t.kind, .string t.name, .slice a t.attrs.length ac, .string t.text, .slice ka kl kc] 25)).heap.size (w.alloc (.cells #[.int .i64 t.kind, .string t.name, .slice a t.attrs.length ac, .string t.text, .slice ka kl kc] 25)) W → Calls Try.prog 14 #[.slice a t.attrs.length ac] W fun e w' => e = .returned (.int .i64 (attrsE t.attrs)) ∧ Below W.heap.size W w') := haw
  clear h hbn haw
  by_cases h1 : t.kind = 1
  · have hb1 : (t.kind == 1) = true := beq_iff_eq.2 h1
    have hE : ownE t = if nameL t.name.data.toList then attrsE t.attrs else 6 := by rw [ownE, if_pos h1]
    rw [hE]
    have H1 : Hid (t.kind = 1) := h1
    clear h1 hE htw
    cases hnm : nameL t.name.data.toList
    · rw [hnm] at hnw
      clear hnm
      go_enter Try.func9, Try.ntmps9
      go_wp2_with fail
      refine (hnw _).mono ?_
      rintro e w1 ⟨rfl, hb1⟩
      go_wp2
      go_ret
      exact ⟨rfl, HBN.out.trans (hb1.mono (by simp))⟩
    · rw [hnm] at hnw
      clear hnm
      go_enter Try.func9, Try.ntmps9
      go_wp2_with fail
      refine (hnw _).mono ?_
      rintro e w1 ⟨rfl, hb1⟩
      obtain ⟨hc, hf⟩ := bcell hb1
      have HB1 : Hid (Below (w.alloc (.cells #[.int .i64 t.kind, .string t.name, .slice a t.attrs.length ac, .string t.text, .slice ka kl kc] 25)).heap.size (w.alloc (.cells #[.int .i64 t.kind, .string t.name, .slice a t.attrs.length ac, .string t.text, .slice ka kl kc] 25)) w1) := hb1
      have hs1 := hb1.size
      simp at hs1
      clear hb1
      go_wp2_with fail
      refine (HAW.out _ HB1.out).mono ?_
      rintro e w2 ⟨rfl, hb2⟩
      go_wp2
      go_ret
      exact ⟨rfl, (HBN.out.trans (HB1.out.mono (by simp))).trans (hb2.mono (by omega))⟩
  · by_cases h2 : t.kind = 2
    · have hb1 : (t.kind == 1) = false := beq_eq_false_iff_ne.2 h1
      have hb2 : (t.kind == 2) = true := beq_iff_eq.2 h2
      have hE : ownE t = (tans t.text.data.toList).2 := by rw [ownE, if_neg h1, if_pos h2]
      rw [hE]
      have H1 : Hid (t.kind = 2) := h2
      clear h1 h2 hE hnw
      go_enter Try.func9, Try.ntmps9
      go_wp2_with fail
      refine (htw _).mono ?_
      rintro e w1 ⟨rfl, hb1⟩
      go_wp2
      go_ret
      exact ⟨rfl, HBN.out.trans (hb1.mono (by simp))⟩
    · have hb1 : (t.kind == 1) = false := beq_eq_false_iff_ne.2 h1
      have hb2 : (t.kind == 2) = false := beq_eq_false_iff_ne.2 h2
      have hE : ownE t = 1 := by rw [ownE, if_neg h1, if_neg h2]
      rw [hE]
      have H1 : Hid (¬ t.kind = 1) := h1
      have H2 : Hid (¬ t.kind = 2) := h2
      clear h1 h2 hE hnw htw
      go_enter Try.func9, Try.ntmps9
      go_wp2
      go_ret
      exact ⟨rfl, HBN.out⟩

set_option maxRecDepth 100000 in
set_option maxHeartbeats 1000000 in
theorem rnode_any {α : Type} (w : World) (lo : Nat) (t : Nd α) (a : Option Addr) (ac : Nat) (ka : Option Addr) (kl kc : Nat) (h : AttrsAt w lo w.heap.size a t.attrs) :
    Calls Try.prog 11 #[.agg #[.int .i64 t.kind, .string t.name, .slice a t.attrs.length ac, .string t.text, .slice ka kl kc]] w fun e w' => e = .returned (.int .i64 (ownE t)) ∧ Below w.heap.size w w' := by
  have hbn := below_new' w (.cells #[.int .i64 t.kind, .string t.name, .slice a t.attrs.length ac, .string t.text, .slice ka kl kc] 25)
  have hnw := fun W => rname_b W t.name
  have htw := fun W => rtext_any W t.text
  have haw : ∀ W, Below (w.alloc (.cells #[.int .i64 t.kind, .string t.name, .slice a t.attrs.length ac, .string t.text, .slice ka kl kc] 25)).heap.size (w.alloc (.cells #[.int .i64 t.kind, .string t.name, .slice a t.attrs.length ac, .string t.text, .slice ka kl kc] 25)) W → Calls Try.prog 17 #[.slice a t.attrs.length ac] W fun e w' => e = .returned (.int .i64 (attrsE t.attrs)) ∧ Below W.heap.size W w' :=
    fun W hb => rattrs_any W lo a t.attrs ac ((h.after hbn).after hb)
  have HBN : Hid (Below w.heap.size w (w.alloc (.cells #[.int .i64 t.kind, .string t.name, .slice a t.attrs.length ac, .string t.text, .slice ka kl kc] 25))) := hbn
  have HAW : Hid (∀ W, Below (w.alloc (.cells #[.int .i64 t.kind, .string t.name, .slice a t.attrs.length ac, .string t.text, .slice ka kl kc] 25)).heap.size (w.alloc (.cells #[.int .i64 t.kind, .string t.name, .slice a t.attrs.length ac, .string t.text, .slice ka kl kc] 25)) W → Calls Try.prog 17 #[.slice a t.attrs.length ac] W fun e w' => e = .returned (.int .i64 (attrsE t.attrs)) ∧ Below W.heap.size W w') := haw
  clear h hbn haw
  by_cases h1 : t.kind = 1
  · have hb1 : (t.kind == 1) = true := beq_iff_eq.2 h1
    have hE : ownE t = if nameL t.name.data.toList then attrsE t.attrs else 6 := by rw [ownE, if_pos h1]
    rw [hE]
    have H1 : Hid (t.kind = 1) := h1
    clear h1 hE htw
    cases hnm : nameL t.name.data.toList
    · rw [hnm] at hnw
      clear hnm
      go_enter Try.func11, Try.ntmps11
      go_wp2_with fail
      refine (hnw _).mono ?_
      rintro e w1 ⟨rfl, hb1⟩
      go_wp2
      go_ret
      exact ⟨rfl, HBN.out.trans (hb1.mono (by simp))⟩
    · rw [hnm] at hnw
      clear hnm
      go_enter Try.func11, Try.ntmps11
      go_wp2_with fail
      refine (hnw _).mono ?_
      rintro e w1 ⟨rfl, hb1⟩
      obtain ⟨hc, hf⟩ := bcell hb1
      have HB1 : Hid (Below (w.alloc (.cells #[.int .i64 t.kind, .string t.name, .slice a t.attrs.length ac, .string t.text, .slice ka kl kc] 25)).heap.size (w.alloc (.cells #[.int .i64 t.kind, .string t.name, .slice a t.attrs.length ac, .string t.text, .slice ka kl kc] 25)) w1) := hb1
      have hs1 := hb1.size
      simp at hs1
      clear hb1
      go_wp2_with fail
      refine (HAW.out _ HB1.out).mono ?_
      rintro e w2 ⟨rfl, hb2⟩
      go_wp2
      go_ret
      exact ⟨rfl, (HBN.out.trans (HB1.out.mono (by simp))).trans (hb2.mono (by omega))⟩
  · by_cases h2 : t.kind = 2
    · have hb1 : (t.kind == 1) = false := beq_eq_false_iff_ne.2 h1
      have hb2 : (t.kind == 2) = true := beq_iff_eq.2 h2
      have hE : ownE t = (tans t.text.data.toList).2 := by rw [ownE, if_neg h1, if_pos h2]
      rw [hE]
      have H1 : Hid (t.kind = 2) := h2
      clear h1 h2 hE hnw
      go_enter Try.func11, Try.ntmps11
      go_wp2_with fail
      refine (htw _).mono ?_
      rintro e w1 ⟨rfl, hb1⟩
      go_wp2
      go_ret
      exact ⟨rfl, HBN.out.trans (hb1.mono (by simp))⟩
    · have hb1 : (t.kind == 1) = false := beq_eq_false_iff_ne.2 h1
      have hb2 : (t.kind == 2) = false := beq_eq_false_iff_ne.2 h2
      have hE : ownE t = 1 := by rw [ownE, if_neg h1, if_neg h2]
      rw [hE]
      have H1 : Hid (¬ t.kind = 1) := h1
      have H2 : Hid (¬ t.kind = 2) := h2
      clear h1 h2 hE hnw htw
      go_enter Try.func11, Try.ntmps11
      go_wp2
      go_ret
      exact ⟨rfl, HBN.out⟩

/-- The children as the list that is gone through: a nil slice, or what stands in the field. -/
theorem kidsOf_any (w : World) (k : Int) (nm : ByteArray) (a : Option Addr) (al ac : Nat) (tx : ByteArray) (ka : Option Addr) (kl kc : Nat) :
    Calls Try.prog 10 #[.agg #[.int .i64 k, .string nm, .slice a al ac, .string tx, .slice ka kl kc]] w fun e w' => e = .returned (if k = 2 then .slice none 0 0 else .slice ka kl kc) ∧ Below w.heap.size w w' := by
  by_cases h : k = 2
  · have hb : (k == 2) = true := beq_iff_eq.2 h
    rw [if_pos h]
    clear h
    go_enter Try.func10, Try.ntmps10
    go_wp2
    go_ret
    exact ⟨rfl, below_new' w _⟩
  · have hb : (k == 2) = false := beq_eq_false_iff_ne.2 h
    rw [if_neg h]
    clear h
    go_enter Try.func10, Try.ntmps10
    go_wp2
    go_ret
    exact ⟨rfl, below_new' w _⟩

theorem rkids_any (w : World) (k : Int) (nm : ByteArray) (a : Option Addr) (al ac : Nat) (tx : ByteArray) (ka : Option Addr) (kl kc : Nat) :
    Calls Try.prog 12 #[.agg #[.int .i64 k, .string nm, .slice a al ac, .string tx, .slice ka kl kc]] w fun e w' => e = .returned (if k = 1 then .slice ka kl kc else .slice none 0 0) ∧ Below w.heap.size w w' := by
  by_cases h : k = 1
  · have hb : (k == 1) = true := beq_iff_eq.2 h
    rw [if_pos h]
    clear h
    go_enter Try.func12, Try.ntmps12
    go_wp2
    go_ret
    exact ⟨rfl, below_new' w _⟩
  · have hb : (k == 1) = false := beq_eq_false_iff_ne.2 h
    rw [if_neg h]
    clear h
    go_enter Try.func12, Try.ntmps12
    go_wp2
    go_ret
    exact ⟨rfl, below_new' w _⟩

end Go.Proofs.Ytnhajpeijkbbeaa
